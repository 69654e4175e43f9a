/-
  impl's reader of forms: values; the whole of a text. (By program: open/mkrdi6.py.)
-/
import Derived.Test.YtamaioeikcjhoaaDoorRdI5
namespace Go.Proofs.YtamaioeikcjhoaaDoor
open Go.RowKit

theorem VPost.pre {b : Nat} {W0 W : World} {xs : List At} {o : Option (List At × List UInt8)} {e : Ending} {W' : World} (h : VPost b W xs o e W') (hb : Below b W0 W) : VPost b W0 xs o e W' := ⟨hb.trans h.1, h.2⟩
theorem VPost.ret {b : Nat} {W : World} {xs : List At} {o : Option (List At × List UInt8)} {e : Ending} {W' : World} (h : VPost b W xs o e W') : (∃ y, e = .returned (.iface 45 (.agg #[.string y]))) ∨ e = .returned .nilIface := by
  obtain ⟨_, ⟨_, y, rfl⟩ | ⟨_, _, _, _, rfl, _⟩⟩ := h
  · exact .inl ⟨y, rfl⟩
  · exact .inr rfl
theorem pVal_cons (f room : Nat) (c : UInt8) (r : List UInt8) : pVal (f + 1) room (c :: r) = if c.toNat = 1 then pFlag room r else if c.toNat = 2 then pNum room r else if c.toNat = 3 then pTxt room r else if c.toNat = 4 then pLst f room r else if c.toNat = 5 then pRec f room r else none := by
  have e : ∀ k : UInt8, (c.toNat = k.toNat) ↔ c = k := fun k => ⟨fun h => UInt8.toNat_inj.1 h, fun h => by rw [h]⟩
  have e1 := e 1; have e2 := e 2; have e3 := e 3; have e4 := e 4; have e5 := e 5
  simp only [show (1 : UInt8).toNat = 1 from rfl, show (2 : UInt8).toNat = 2 from rfl, show (3 : UInt8).toNat = 3 from rfl, show (4 : UInt8).toNat = 4 from rfl, show (5 : UInt8).toNat = 5 from rfl] at e1 e2 e3 e4 e5
  simp only [e1, e2, e3, e4, e5]
  conv => lhs; unfold pVal
  cases r <;> rfl

set_option maxRecDepth 20000 in
set_option maxHeartbeats 4000000 in
theorem value_any (b : Nat) : ∀ (f d : Nat), f + d = 13 → ValIH b f (d : Int)
  | 0, d, hfd, W, l, v, xs, h, hx, hl => by
    obtain rfl : d = 13 := by omega
    go_enter Tryd.func33, Tryd.ntmps33
    have HP : RKeep (VPost b W xs (pVal 0 (300 - xs.length) l) (.returned (flt ⟨#[116, 111, 111, 32, 109, 97, 110, 121, 32, 97, 116, 111, 109, 115, 32, 97, 98, 111, 118, 101, 32, 111, 110, 101]⟩)) W) := ⟨Below.refl _ _, .inl ⟨rfl, _, rfl⟩⟩
    unfold flt at HP
    go_wp2
    refine bodyPost_ret (v := .iface 45 (.agg #[.string ⟨#[116, 111, 111, 32, 109, 97, 110, 121, 32, 97, 116, 111, 109, 115, 32, 97, 98, 111, 118, 101, 32, 111, 110, 101]⟩])) ?_ rfl HP.out
    go_light
    simp [results, Tryd.results33, go_sem]
  | f + 1, d, hfd, W, l, v, xs, h, hx, hl => by
    have hd12 : d ≤ 12 := by omega
    have IH : ValIH b f ((d : Int) + 1) := value_any b f (d + 1) (by omega)
    have i12 : ¬ (12 : Int) < d := by omega
    go_enter Tryd.func33, Tryd.ntmps33
    go_wp2_with fail
    refine (oneByte_any b W l v xs h).mono ?_
    rintro e w1 ⟨hb1, ⟨hle, y, rfl⟩ | ⟨c, r, hle, rfl, hM1⟩⟩
    · have HP : RKeep (VPost b W xs (pVal (f + 1) (300 - xs.length) l) (.returned (flt y)) w1) := ⟨hb1, .inl ⟨by rw [hle]; rfl, y, rfl⟩⟩
      clear hle
      unfold flt at HP ⊢
      go_wp2
      refine bodyPost_ret (v := .iface 45 (.agg #[.string y])) ?_ rfl HP.out
      go_light
      simp [results, Tryd.results33, go_sem]
    · have HPV : RKeep (pVal (f + 1) (300 - xs.length) l = if c.toNat = 1 then pFlag (300 - xs.length) r else if c.toNat = 2 then pNum (300 - xs.length) r else if c.toNat = 3 then pTxt (300 - xs.length) r else if c.toNat = 4 then pLst f (300 - xs.length) r else if c.toNat = 5 then pRec f (300 - xs.length) r else none) := ⟨by rw [hle, pVal_cons]⟩
      have hr : r.length ≤ 1048576 := by rw [hle, List.length_cons] at hl; omega
      clear hle hl h
      by_cases h1 : c.toNat = 1
      · have hcall := flag_any b w1 r v xs hM1 hx
        have HV : RKeep (∀ e w', VPost b w1 xs (pFlag (300 - xs.length) r) e w' → VPost b W xs (pVal (f + 1) (300 - xs.length) l) e w') := ⟨fun e w' hp => by rw [HPV.out, if_pos h1]; exact hp.pre hb1⟩
        rw [h1]
        clear HPV
        go_wp2_with fail
        refine hcall.mono ?_
        intro e w4 hp
        have HV3 : RKeep _ := ⟨HV.out _ _ hp⟩
        rcases hp.ret with ⟨y, rfl⟩ | rfl
        · clear hp hcall HV
          go_wp2
          refine bodyPost_ret (v := .iface 45 (.agg #[.string y])) ?_ rfl HV3.out
          go_light
          simp [results, Tryd.results33, go_sem]
        · clear hp hcall HV
          go_wp2
          refine bodyPost_ret (v := .nilIface) ?_ rfl HV3.out
          go_light
          simp [results, Tryd.results33, go_sem]
      have z1 : ((c.toNat : Int) == 1) = false := by simp; omega
      have y1 : ¬ (c.toNat : Int) = 1 := by omega
      by_cases h2 : c.toNat = 2
      · have hcall := number_any b w1 r v xs hM1 hx
        have HV : RKeep (∀ e w', VPost b w1 xs (pNum (300 - xs.length) r) e w' → VPost b W xs (pVal (f + 1) (300 - xs.length) l) e w') := ⟨fun e w' hp => by rw [HPV.out, if_neg h1, if_pos h2]; exact hp.pre hb1⟩
        rw [h2]
        clear HPV
        go_wp2_with fail
        refine hcall.mono ?_
        intro e w4 hp
        have HV3 : RKeep _ := ⟨HV.out _ _ hp⟩
        rcases hp.ret with ⟨y, rfl⟩ | rfl
        · clear hp hcall HV
          go_wp2
          refine bodyPost_ret (v := .iface 45 (.agg #[.string y])) ?_ rfl HV3.out
          go_light
          simp [results, Tryd.results33, go_sem]
        · clear hp hcall HV
          go_wp2
          refine bodyPost_ret (v := .nilIface) ?_ rfl HV3.out
          go_light
          simp [results, Tryd.results33, go_sem]
      have z2 : ((c.toNat : Int) == 2) = false := by simp; omega
      have y2 : ¬ (c.toNat : Int) = 2 := by omega
      by_cases h3 : c.toNat = 3
      · have hcall := rtext_any b w1 r v xs hM1 hx hr
        have HV : RKeep (∀ e w', VPost b w1 xs (pTxt (300 - xs.length) r) e w' → VPost b W xs (pVal (f + 1) (300 - xs.length) l) e w') := ⟨fun e w' hp => by rw [HPV.out, if_neg h1, if_neg h2, if_pos h3]; exact hp.pre hb1⟩
        rw [h3]
        clear HPV
        go_wp2_with fail
        refine hcall.mono ?_
        intro e w4 hp
        have HV3 : RKeep _ := ⟨HV.out _ _ hp⟩
        rcases hp.ret with ⟨y, rfl⟩ | rfl
        · clear hp hcall HV
          go_wp2
          refine bodyPost_ret (v := .iface 45 (.agg #[.string y])) ?_ rfl HV3.out
          go_light
          simp [results, Tryd.results33, go_sem]
        · clear hp hcall HV
          go_wp2
          refine bodyPost_ret (v := .nilIface) ?_ rfl HV3.out
          go_light
          simp [results, Tryd.results33, go_sem]
      have z3 : ((c.toNat : Int) == 3) = false := by simp; omega
      have y3 : ¬ (c.toNat : Int) = 3 := by omega
      by_cases h4 : c.toNat = 4
      · have hcall := list_any b f d hd12 IH w1 r v xs hM1 hx hr
        have HV : RKeep (∀ e w', VPost b w1 xs (pLst f (300 - xs.length) r) e w' → VPost b W xs (pVal (f + 1) (300 - xs.length) l) e w') := ⟨fun e w' hp => by rw [HPV.out, if_neg h1, if_neg h2, if_neg h3, if_pos h4]; exact hp.pre hb1⟩
        rw [h4]
        clear HPV
        go_wp2_with fail
        refine hcall.mono ?_
        intro e w4 hp
        have HV3 : RKeep _ := ⟨HV.out _ _ hp⟩
        rcases hp.ret with ⟨y, rfl⟩ | rfl
        · clear hp hcall HV
          go_wp2
          refine bodyPost_ret (v := .iface 45 (.agg #[.string y])) ?_ rfl HV3.out
          go_light
          simp [results, Tryd.results33, go_sem]
        · clear hp hcall HV
          go_wp2
          refine bodyPost_ret (v := .nilIface) ?_ rfl HV3.out
          go_light
          simp [results, Tryd.results33, go_sem]
      have z4 : ((c.toNat : Int) == 4) = false := by simp; omega
      have y4 : ¬ (c.toNat : Int) = 4 := by omega
      by_cases h5 : c.toNat = 5
      · have hcall := record_any b f d hd12 IH w1 r v xs hM1 hx hr
        have HV : RKeep (∀ e w', VPost b w1 xs (pRec f (300 - xs.length) r) e w' → VPost b W xs (pVal (f + 1) (300 - xs.length) l) e w') := ⟨fun e w' hp => by rw [HPV.out, if_neg h1, if_neg h2, if_neg h3, if_neg h4, if_pos h5]; exact hp.pre hb1⟩
        rw [h5]
        clear HPV
        go_wp2_with fail
        refine hcall.mono ?_
        intro e w4 hp
        have HV3 : RKeep _ := ⟨HV.out _ _ hp⟩
        rcases hp.ret with ⟨y, rfl⟩ | rfl
        · clear hp hcall HV
          go_wp2
          refine bodyPost_ret (v := .iface 45 (.agg #[.string y])) ?_ rfl HV3.out
          go_light
          simp [results, Tryd.results33, go_sem]
        · clear hp hcall HV
          go_wp2
          refine bodyPost_ret (v := .nilIface) ?_ rfl HV3.out
          go_light
          simp [results, Tryd.results33, go_sem]
      have z5 : ((c.toNat : Int) == 5) = false := by simp; omega
      have y5 : ¬ (c.toNat : Int) = 5 := by omega
      have HP : RKeep (VPost b W xs (pVal (f + 1) (300 - xs.length) l) (.returned (flt ⟨#[110, 111, 32, 107, 105, 110, 100]⟩)) w1) := ⟨hb1, .inl ⟨by rw [HPV.out, if_neg h1, if_neg h2, if_neg h3, if_neg h4, if_neg h5], _, rfl⟩⟩
      unfold flt at HP
      go_wp2
      refine bodyPost_ret (v := .iface 45 (.agg #[.string ⟨#[110, 111, 32, 107, 105, 110, 100]⟩])) ?_ rfl HP.out
      go_light
      simp [results, Tryd.results33, go_sem]
end Go.Proofs.YtamaioeikcjhoaaDoor
