/-
  impl's reader of forms: records, values.
-/
import Derived.Test.YtamaioeikcjhoaaDoorRdI4
namespace Go.Proofs.YtamaioeikcjhoaaDoor
open Go.RowKit

theorem acells_get : ∀ (xs : List At) (i : Nat) (h : i < xs.length), (acells xs)[i * 4 + 2]? = some (.string xs[i].text)
  | [], i, h => by simp at h
  | a :: xs, 0, h => by simp [acells, At.cells]
  | a :: xs, i + 1, h => by
    have ih := acells_get xs i (by simpa using h)
    have e : acells (a :: xs) = a.cells ++ acells xs := by simp [acells]
    rw [e, show (i + 1) * 4 + 2 = 4 + (i * 4 + 2) by omega, List.getElem?_append_right (by simp [At.cells]), show 4 + (i * 4 + 2) - a.cells.length = i * 4 + 2 by simp [At.cells]]
    simpa using ih
/-- The last text that was added. -/
theorem RM.last {b : Nat} {W : World} {l : List UInt8} {v : Value} {xs : List At} {s : ByteArray} (h : RM b W l v (xs ++ [textA s])) : ∃ g cp, v = .slice (some ⟨g, 0, none⟩) (xs.length + 1) cp ∧ W.cell? ⟨g, xs.length * 4 + 2, none⟩ = some (.string s) := by
  have hr := h.row
  rw [List.length_append, List.length_singleton] at hr
  rcases hr.2 with ⟨_, h1⟩ | ⟨g, c, cur, hv, _⟩
  · omega
  · subst hv
    refine ⟨g, c, rfl, ?_⟩
    rw [hr.cellAt (xs.length * 4 + 2) (by omega)]
    have := acells_get (xs ++ [textA s]) xs.length (by simp)
    simpa [textA] using this

set_option maxRecDepth 20000 in
set_option maxHeartbeats 4000000 in
theorem record_any (b f : Nat) (d : Nat) (hd : d ≤ 12) (ih : ValIH b f ((d : Int) + 1)) (W : World) (l : List UInt8) (v : Value) (xs : List At) (h : RM b W l v xs) (hx : xs.length ≤ 300) (hl : l.length ≤ 1048576) :
    Calls Tryd.prog 55 #[.pointer (some ⟨b, 0, none⟩), .int .i64 d] W fun e W' => VPost b W xs (pRec f (300 - xs.length) l) e W' := by
  go_enter Tryd.func55, Tryd.ntmps55
  go_wp2_with fail
  refine (count_any b W 300 (by omega) l v xs h).mono ?_
  rintro e w1 ⟨hb1, ⟨hp, y, rfl⟩ | ⟨n, r, hp, rfl, hM1⟩⟩
  · have HP : RKeep (VPost b W xs (pRec f (300 - xs.length) l) (.returned (flt y)) w1) := ⟨hb1, .inl ⟨by unfold pRec; rw [hp]; rfl, y, rfl⟩⟩
    clear hp
    unfold flt at HP ⊢
    go_wp2
    refine bodyPost_ret (v := .iface 45 (.agg #[.string y])) ?_ rfl HP.out
    go_light
    simp [results, Tryd.results55, go_sem]
  · have hn := (pCount_sound hp).2
    have hrl : r.length ≤ 1048576 := by
      have e := (pCount_sound hp).1
      rw [e, List.length_append] at hl
      omega
    have HL : RKeep (pRec f (300 - xs.length) l = (pFlds (pVal f) n none (300 - xs.length) r).bind fun y => if y.1.length < 300 - xs.length then some (y.1 ++ [recA n], y.2) else none) := ⟨by unfold pRec; rw [hp]; rfl⟩
    clear hp hl
    have HI : RKeep (ValIH b f ((d : Int) + 1)) := ⟨ih⟩
    clear ih
    have hw2 : IntKind.i64.wrap ((d : Int) + 1) = (d : Int) + 1 := by rw [IntKind.wrap_i64]; omega
    go_wp2
    go_loopw [7, 21] (fun lv i wr => ∃ (k : Nat) (last : ByteArray) (o : Option ByteArray) (ys : List At) (lk : List UInt8) (v' : Value), k ≤ n ∧ i = .int .i64 k ∧ lv = .string last ∧ RKeep ((k = 0 ∧ o = none) ∨ (0 < k ∧ o = some last)) ∧ RKeep (pFlds (pVal f) n none (300 - xs.length) r = (pFlds (pVal f) (n - k) o (300 - (xs ++ ys).length) lk).map fun y => (ys ++ y.1, y.2)) ∧ RM b wr lk v' (xs ++ ys) ∧ (xs ++ ys).length ≤ 300 ∧ lk.length ≤ 1048576 ∧ Below b W wr) (fun _ i _ => n - (intOf i).toNat)
    case atStart =>
      refine ⟨0, _, none, [], r, v, Nat.zero_le _, rfl, rfl, ⟨.inl ⟨rfl, rfl⟩⟩, ⟨?_⟩, by rw [List.append_nil]; exact hM1, by simpa using hx, hrl, hb1⟩
      rw [List.append_nil, Nat.sub_zero]
      cases pFlds (pVal f) n none (300 - xs.length) r with
      | none => simp only [Option.map_none]
      | some y => simp
    case round =>
      obtain ⟨k, last, o, ys, lk, v', hk, rfl, rfl, HO, HK, hM, hxy, hlk, hb⟩ := hrel
      by_cases hlt : k < n
      · have hi1 : (k : Int) < n := by omega
        have hcall := rtext_any b wr lk v' (xs ++ ys) hM hxy hlk
        have HU : RKeep (pFlds (pVal f) (n - k) o (300 - (xs ++ ys).length) lk = (pText lk).bind fun t => if 0 < 300 - (xs ++ ys).length ∧ upB o t.1 = true then (pVal f (300 - (xs ++ ys).length - 1) t.2).bind fun x => (pFlds (pVal f) (n - (k + 1)) (some t.1) (300 - (xs ++ ys).length - 1 - x.1.length) x.2).map fun y => (textA t.1 :: (x.1 ++ y.1), y.2) else none) := ⟨by rw [show n - k = (n - (k + 1)) + 1 by omega]; rfl⟩
        go_wp2_with fail
        refine hcall.mono ?_
        rintro e w2 ⟨hb2, ⟨hp, y, rfl⟩ | ⟨zs, r', v2, hp, rfl, hM2⟩⟩
        · have HP : RKeep (VPost b W xs (pRec f (300 - xs.length) l) (.returned (flt y)) w2) := ⟨hb.trans hb2, .inl ⟨by
            rw [HL.out, HK.out, HU.out]
            unfold pTxt at hp
            cases ht : pText lk with
            | none => rfl
            | some t =>
              rw [ht] at hp
              simp only [Option.bind_some] at hp ⊢
              rw [if_neg (fun hc => by rw [if_pos hc.1] at hp; cases hp)]
              rfl, y, rfl⟩⟩
          clear hp hcall
          unfold flt at HP ⊢
          go_wp2
          refine bodyPost_ret (v := .iface 45 (.agg #[.string y])) ?_ rfl HP.out
          go_light
          simp [results, Tryd.results55, go_sem]
        · obtain ⟨s, hs, rfl, hrm⟩ : ∃ s, pText lk = some (s, r') ∧ zs = [textA s] ∧ 0 < 300 - (xs ++ ys).length := by
            unfold pTxt at hp
            rw [Option.bind_eq_some_iff] at hp
            obtain ⟨⟨s, q⟩, h1, h2⟩ := hp
            dsimp only at h2
            split at h2
            · rename_i h3
              simp only [Option.some.injEq, Prod.mk.injEq] at h2
              obtain ⟨rfl, rfl⟩ := h2
              exact ⟨s, h1, rfl, h3⟩
            · cases h2
          have hr' : r'.length ≤ 1048576 := by
            have e := (pText_sound hs).1
            rw [e, List.length_append, List.length_append] at hlk
            omega
          obtain ⟨g, cp, rfl, hcl⟩ := hM2.last
          have hc1 := hM2.c1
          have HU2 : RKeep (pFlds (pVal f) (n - k) o (300 - (xs ++ ys).length) lk = if upB o s = true then (pVal f (300 - (xs ++ ys).length - 1) r').bind fun x => (pFlds (pVal f) (n - (k + 1)) (some s) (300 - (xs ++ ys).length - 1 - x.1.length) x.2).map fun y => (textA s :: (x.1 ++ y.1), y.2) else none) := ⟨by
            rw [HU.out, hs]
            simp only [Option.bind_some]
            by_cases hu : upB o s = true
            · rw [if_pos ⟨hrm, hu⟩, if_pos hu]
            · rw [if_neg (fun h => hu h.2), if_neg hu]⟩
          have hb3 := hb.trans hb2
          clear hp hcall HU hb hb2 hM hs
          obtain ⟨m, hm⟩ : ∃ m, m = (xs ++ ys).length := ⟨_, rfl⟩
          have HM2 : RKeep _ := ⟨hM2⟩
          rw [← hm] at hc1 hcl
          have hm300 : m ≤ 300 := by omega
          have hx3 : ((xs ++ ys) ++ [textA s]).length ≤ 300 := by rw [List.length_append, List.length_singleton]; omega
          clear hM2 hm hxy
          have hwm : IntKind.i64.wrap ((m : Int) + 1 - 1) = m := by rw [IntKind.wrap_i64]; omega
          have hdr : Below w2.heap.size w2 w2.drew := (Below.refl _ _).drew
          have HM3 : RKeep _ := ⟨HM2.out.later hdr⟩
          have HB3 : RKeep (Below b W w2.drew) := ⟨hb3.drew⟩
          go_upto_region 11 with fail
          go_region
          clear HM2 hc1 hcl hwm hdr
          generalize w2.drew = w3 at *
          rcases HO.out with ⟨hk0, rfl⟩ | ⟨hk0, rfl⟩
          · have hk1 : ¬ (0 : Int) < k := by omega
            clear hk0
            have HU3 : RKeep _ := ⟨HU2.out.trans (if_pos rfl)⟩
            have hcv := HI.out w3 r' _ ((xs ++ ys) ++ [textA s]) HM3.out hx3 hr'
            go_wp2_with fail
            refine hcv.mono ?_
            rintro e w4 ⟨hb4, ⟨hp, y, rfl⟩ | ⟨zs, r2, v4, hp, rfl, hM4⟩⟩
            · have HP : RKeep (VPost b W xs (pRec f (300 - xs.length) l) (.returned (flt y)) w4) := ⟨HB3.out.trans hb4, .inl ⟨by
                rw [HL.out, HK.out, HU3.out, show 300 - (xs ++ ys).length - 1 = 300 - ((xs ++ ys) ++ [textA s]).length by simp only [List.length_append, List.length_singleton]; omega, hp]
                rfl, y, rfl⟩⟩
              clear hp hcv
              unfold flt at HP ⊢
              go_wp2
              refine bodyPost_ret (v := .iface 45 (.agg #[.string y])) ?_ rfl HP.out
              go_light
              simp [results, Tryd.results55, go_sem]
            · obtain ⟨g1, g2⟩ := pVal_len hp
              have HN : RKeep (pFlds (pVal f) n none (300 - xs.length) r = (pFlds (pVal f) (n - (k + 1)) (some s) (300 - (xs ++ (ys ++ textA s :: zs)).length) r2).map fun y => ((ys ++ textA s :: zs) ++ y.1, y.2)) := ⟨by
                rw [HK.out, HU3.out, show 300 - (xs ++ ys).length - 1 = 300 - ((xs ++ ys) ++ [textA s]).length by simp only [List.length_append, List.length_singleton]; omega, hp]
                simp only [Option.bind_some]
                rw [show 300 - (xs ++ (ys ++ textA s :: zs)).length = 300 - ((xs ++ ys) ++ [textA s]).length - zs.length by simp only [List.length_append, List.length_cons, List.length_nil]; omega]
                cases pFlds (pVal f) (n - (k + 1)) (some s) (300 - ((xs ++ ys) ++ [textA s]).length - zs.length) r2 with
                | none => simp only [Option.map_none]
                | some y => simp⟩
              have hxz : (xs ++ (ys ++ textA s :: zs)).length ≤ 300 := by
                simp only [List.length_append, List.length_cons, List.length_nil] at g1 hx3 ⊢
                omega
              have hM5 : RM b w4 r2 v4 (xs ++ (ys ++ textA s :: zs)) := by
                have e : xs ++ (ys ++ textA s :: zs) = xs ++ ys ++ [textA s] ++ zs := by simp
                rw [e]
                exact hM4
              have hb5 := HB3.out.trans hb4
              have hlk2 : r2.length ≤ 1048576 := by omega
              clear hp hcv HK hM4 hb4 g1 g2
              go_wp2
              go_roundw
              case rel => exact ⟨k + 1, s, some s, ys ++ textA s :: zs, r2, v4, by omega, by go_num, rfl, ⟨.inr ⟨by omega, rfl⟩⟩, HN, hM5, hxz, hlk2, hb5⟩
              case measure => simp [intOf]; omega
          · have hk1 : (0 : Int) < k := by omega
            cases hu : Op.bytesLess last.toList s.toList with
            | true =>
              have hle : (Op.bytesLess s.toList last.toList || s.toList == last.toList) = false := by
                have h := less_both last s
                rw [h]
                show (!Op.bytesLess last.toList s.toList) = false
                rw [hu]
                rfl
              have HU3 : RKeep _ := ⟨HU2.out.trans (if_pos hu)⟩
              have hcv := HI.out w3 r' _ ((xs ++ ys) ++ [textA s]) HM3.out hx3 hr'
              go_wp2_with fail
              refine hcv.mono ?_
              rintro e w4 ⟨hb4, ⟨hp, y, rfl⟩ | ⟨zs, r2, v4, hp, rfl, hM4⟩⟩
              · have HP : RKeep (VPost b W xs (pRec f (300 - xs.length) l) (.returned (flt y)) w4) := ⟨HB3.out.trans hb4, .inl ⟨by
                  rw [HL.out, HK.out, HU3.out, show 300 - (xs ++ ys).length - 1 = 300 - ((xs ++ ys) ++ [textA s]).length by simp only [List.length_append, List.length_singleton]; omega, hp]
                  rfl, y, rfl⟩⟩
                clear hp hcv
                unfold flt at HP ⊢
                go_wp2
                refine bodyPost_ret (v := .iface 45 (.agg #[.string y])) ?_ rfl HP.out
                go_light
                simp [results, Tryd.results55, go_sem]
              · obtain ⟨g1, g2⟩ := pVal_len hp
                have HN : RKeep (pFlds (pVal f) n none (300 - xs.length) r = (pFlds (pVal f) (n - (k + 1)) (some s) (300 - (xs ++ (ys ++ textA s :: zs)).length) r2).map fun y => ((ys ++ textA s :: zs) ++ y.1, y.2)) := ⟨by
                  rw [HK.out, HU3.out, show 300 - (xs ++ ys).length - 1 = 300 - ((xs ++ ys) ++ [textA s]).length by simp only [List.length_append, List.length_singleton]; omega, hp]
                  simp only [Option.bind_some]
                  rw [show 300 - (xs ++ (ys ++ textA s :: zs)).length = 300 - ((xs ++ ys) ++ [textA s]).length - zs.length by simp only [List.length_append, List.length_cons, List.length_nil]; omega]
                  cases pFlds (pVal f) (n - (k + 1)) (some s) (300 - ((xs ++ ys) ++ [textA s]).length - zs.length) r2 with
                  | none => simp only [Option.map_none]
                  | some y => simp⟩
                have hxz : (xs ++ (ys ++ textA s :: zs)).length ≤ 300 := by
                  simp only [List.length_append, List.length_cons, List.length_nil] at g1 hx3 ⊢
                  omega
                have hM5 : RM b w4 r2 v4 (xs ++ (ys ++ textA s :: zs)) := by
                  have e : xs ++ (ys ++ textA s :: zs) = xs ++ ys ++ [textA s] ++ zs := by simp
                  rw [e]
                  exact hM4
                have hb5 := HB3.out.trans hb4
                have hlk2 : r2.length ≤ 1048576 := by omega
                clear hp hcv HK hM4 hb4 g1 g2
                go_wp2
                go_roundw
                case rel => exact ⟨k + 1, s, some s, ys ++ textA s :: zs, r2, v4, by omega, by go_num, rfl, ⟨.inr ⟨by omega, rfl⟩⟩, HN, hM5, hxz, hlk2, hb5⟩
                case measure => simp [intOf]; omega
            | false =>
              have hle : (Op.bytesLess s.toList last.toList || s.toList == last.toList) = true := by
                have h := less_both last s
                rw [h]
                show (!Op.bytesLess last.toList s.toList) = true
                rw [hu]
                rfl
              have HP : RKeep (VPost b W xs (pRec f (300 - xs.length) l) (.returned (flt ⟨#[110, 97, 109, 101, 115, 32, 116, 104, 97, 116, 32, 100, 111, 32, 110, 111, 116, 32, 97, 115, 99, 101, 110, 100]⟩)) w3) := ⟨HB3.out, .inl ⟨by
                rw [HL.out, HK.out, HU2.out, if_neg (by show ¬ (Op.bytesLess last.toList s.toList = true); rw [hu]; decide)]
                rfl, _, rfl⟩⟩
              unfold flt at HP
              go_wp2
              refine bodyPost_ret (v := .iface 45 (.agg #[.string ⟨#[110, 97, 109, 101, 115, 32, 116, 104, 97, 116, 32, 100, 111, 32, 110, 111, 116, 32, 97, 115, 99, 101, 110, 100]⟩])) ?_ rfl HP.out
              go_light
              simp [results, Tryd.results55, go_sem]
      · obtain rfl : k = n := by omega
        have hi1 : ¬ (k : Int) < k := by omega
        have hadd := add_any b wr lk v' (xs ++ ys) (recA k) hM hxy
        have HV : RKeep (∀ e w', AddPost b wr lk (xs ++ ys) (recA k) e w' → VPost b W xs (pRec f (300 - xs.length) l) e w') := ⟨fun e w' hp => hp.v2 hb (by
          rw [HL.out, HK.out, Nat.sub_self]
          simp [pFlds])⟩
        unfold recA at hadd HV
        have hw3 : IntKind.i64.wrap (2 * (k : Int)) = 2 * (k : Int) := by rw [IntKind.wrap_i64]; omega
        clear HK HL hlt
        go_wp2_with fail
        refine hadd.mono ?_
        intro e w4 hp
        have HV3 : RKeep _ := ⟨HV.out _ _ hp⟩
        rcases hp.ret with ⟨y, rfl⟩ | rfl
        · clear hp hadd HV
          go_wp2
          refine bodyPost_ret (v := .iface 45 (.agg #[.string y])) ?_ rfl HV3.out
          go_light
          simp [results, Tryd.results55, go_sem]
        · clear hp hadd HV
          go_wp2
          refine bodyPost_ret (v := .nilIface) ?_ rfl HV3.out
          go_light
          simp [results, Tryd.results55, go_sem]
end Go.Proofs.YtamaioeikcjhoaaDoor
