/-
  impl's reader of forms: lists.
-/
import Derived.Test.YtamaioeikcjhoaaDoorRdI3
namespace Go.Proofs.YtamaioeikcjhoaaDoor
open Go.RowKit

/-- A value is read, at a depth. -/
def ValIH (b f : Nat) (z : Int) : Prop := ∀ (W : World) (l : List UInt8) (v : Value) (xs : List At), RM b W l v xs → xs.length ≤ 300 → l.length ≤ 1048576 → Calls Tryd.prog 33 #[.pointer (some ⟨b, 0, none⟩), .int .i64 z] W fun e W' => VPost b W xs (pVal f (300 - xs.length) l) e W'
def pLst (f room : Nat) (l : List UInt8) : Option (List At × List UInt8) := (pCount 300 l).bind fun x => (pKids (pVal f) x.1 room x.2).bind fun y => if y.1.length < room then some (y.1 ++ [listA x.1], y.2) else none
def pRec (f room : Nat) (l : List UInt8) : Option (List At × List UInt8) := (pCount 300 l).bind fun x => (pFlds (pVal f) x.1 none room x.2).bind fun y => if y.1.length < room then some (y.1 ++ [recA x.1], y.2) else none
theorem AddPost.v2 {b : Nat} {W0 W : World} {l : List UInt8} {xs ys : List At} {a : At} {e : Ending} {W' : World} (h : AddPost b W l (xs ++ ys) a e W') (hb : Below b W0 W) {o : Option (List At × List UInt8)} (ho : o = if ys.length < 300 - xs.length then some (ys ++ [a], l) else none) : VPost b W0 xs o e W' := by
  obtain ⟨h1, ⟨h2, y, rfl⟩ | ⟨h2, rfl, v', h3⟩⟩ := h
  · rw [List.length_append] at h2
    exact ⟨hb.trans h1, .inl ⟨by rw [ho, if_neg (by omega)], y, rfl⟩⟩
  · rw [List.length_append] at h2
    rw [List.append_assoc] at h3
    exact ⟨hb.trans h1, .inr ⟨ys ++ [a], l, v', by rw [ho, if_pos (by omega)], rfl, h3⟩⟩
theorem pVal_len {f room : Nat} {l r : List UInt8} {ys : List At} (h : pVal f room l = some (ys, r)) : ys.length ≤ room ∧ r.length ≤ l.length := by
  obtain ⟨t, _, _, _, e, h5⟩ := pVal_sound f room l ys r h
  exact ⟨h5, by rw [e, List.length_append]; omega⟩

set_option maxRecDepth 20000 in
set_option maxHeartbeats 2000000 in
theorem list_any (b f : Nat) (d : Nat) (hd : d ≤ 12) (ih : ValIH b f ((d : Int) + 1)) (W : World) (l : List UInt8) (v : Value) (xs : List At) (h : RM b W l v xs) (hx : xs.length ≤ 300) (hl : l.length ≤ 1048576) :
    Calls Tryd.prog 54 #[.pointer (some ⟨b, 0, none⟩), .int .i64 d] W fun e W' => VPost b W xs (pLst f (300 - xs.length) l) e W' := by
  go_enter Tryd.func54, Tryd.ntmps54
  go_wp2_with fail
  refine (count_any b W 300 (by omega) l v xs h).mono ?_
  rintro e w1 ⟨hb1, ⟨hp, y, rfl⟩ | ⟨n, r, hp, rfl, hM1⟩⟩
  · have HP : RKeep (VPost b W xs (pLst f (300 - xs.length) l) (.returned (flt y)) w1) := ⟨hb1, .inl ⟨by unfold pLst; rw [hp]; rfl, y, rfl⟩⟩
    clear hp
    unfold flt at HP ⊢
    go_wp2
    refine bodyPost_ret (v := .iface 45 (.agg #[.string y])) ?_ rfl HP.out
    go_light
    simp [results, Tryd.results54, go_sem]
  · have hn := (pCount_sound hp).2
    have hrl : r.length ≤ 1048576 := by
      have e := (pCount_sound hp).1
      rw [e, List.length_append] at hl
      omega
    have HL : RKeep (pLst f (300 - xs.length) l = (pKids (pVal f) n (300 - xs.length) r).bind fun y => if y.1.length < 300 - xs.length then some (y.1 ++ [listA n], y.2) else none) := ⟨by unfold pLst; rw [hp]; rfl⟩
    clear hp hl
    have HI : RKeep (ValIH b f ((d : Int) + 1)) := ⟨ih⟩
    clear ih
    have hw2 : IntKind.i64.wrap ((d : Int) + 1) = (d : Int) + 1 := by rw [IntKind.wrap_i64]; omega
    go_wp2
    go_loopw [17] (fun i wr => ∃ (k : Nat) (ys : List At) (lk : List UInt8) (v' : Value), k ≤ n ∧ i = .int .i64 k ∧ RKeep (pKids (pVal f) n (300 - xs.length) r = (pKids (pVal f) (n - k) (300 - (xs ++ ys).length) lk).map fun y => (ys ++ y.1, y.2)) ∧ RM b wr lk v' (xs ++ ys) ∧ (xs ++ ys).length ≤ 300 ∧ lk.length ≤ 1048576 ∧ Below b W wr) (fun i _ => n - (intOf i).toNat)
    case atStart =>
      refine ⟨0, [], r, v, Nat.zero_le _, rfl, ⟨?_⟩, by rw [List.append_nil]; exact hM1, by simpa using hx, hrl, hb1⟩
      rw [List.append_nil, Nat.sub_zero]
      cases pKids (pVal f) n (300 - xs.length) r with
      | none => simp only [Option.map_none]
      | some y => simp
    case round =>
      obtain ⟨k, ys, lk, v', hk, rfl, HK, hM, hxy, hlk, hb⟩ := hrel
      by_cases hlt : k < n
      · have hi1 : (k : Int) < n := by omega
        have hcall := HI.out wr lk v' (xs ++ ys) hM hxy hlk
        go_wp2_with fail
        refine hcall.mono ?_
        rintro e w2 ⟨hb2, ⟨hp, y, rfl⟩ | ⟨zs, r', v2, hp, rfl, hM2⟩⟩
        · have HP : RKeep (VPost b W xs (pLst f (300 - xs.length) l) (.returned (flt y)) w2) := ⟨hb.trans hb2, .inl ⟨by
            rw [HL.out, HK.out, show n - k = (n - k - 1) + 1 by omega]
            unfold pKids
            rw [hp]
            rfl, y, rfl⟩⟩
          clear hp hcall
          unfold flt at HP ⊢
          go_wp2
          refine bodyPost_ret (v := .iface 45 (.agg #[.string y])) ?_ rfl HP.out
          go_light
          simp [results, Tryd.results54, go_sem]
        · obtain ⟨g1, g2⟩ := pVal_len hp
          have HN : RKeep (pKids (pVal f) n (300 - xs.length) r = (pKids (pVal f) (n - (k + 1)) (300 - (xs ++ (ys ++ zs)).length) r').map fun y => ((ys ++ zs) ++ y.1, y.2)) := ⟨by
            rw [HK.out, show n - k = (n - (k + 1)) + 1 by omega]
            conv => lhs; unfold pKids
            rw [hp]
            simp only [Option.bind_some]
            rw [show 300 - (xs ++ (ys ++ zs)).length = 300 - (xs ++ ys).length - zs.length by simp only [List.length_append]; omega]
            cases pKids (pVal f) (n - (k + 1)) (300 - (xs ++ ys).length - zs.length) r' with
            | none => simp only [Option.map_none]
            | some y => simp⟩
          have hxz : (xs ++ (ys ++ zs)).length ≤ 300 := by
            simp only [List.length_append] at g1 hxy ⊢
            omega
          rw [List.append_assoc] at hM2
          have hb3 := hb.trans hb2
          clear hp hcall HK hM hb hb2 g1
          have hlk2 : r'.length ≤ 1048576 := by omega
          go_wp2
          go_roundw
          case rel => exact ⟨k + 1, ys ++ zs, r', v2, by omega, by go_num, HN, hM2, hxz, hlk2, hb3⟩
          case measure => simp [intOf]; omega
      · obtain rfl : k = n := by omega
        have hi1 : ¬ (k : Int) < k := by omega
        have hadd := add_any b wr lk v' (xs ++ ys) (listA k) hM hxy
        have HV : RKeep (∀ e w', AddPost b wr lk (xs ++ ys) (listA k) e w' → VPost b W xs (pLst f (300 - xs.length) l) e w') := ⟨fun e w' hp => hp.v2 hb (by
          rw [HL.out, HK.out, Nat.sub_self]
          simp [pKids])⟩
        unfold listA at hadd HV
        clear HK HL hlt
        go_wp2_with fail
        refine hadd.mono ?_
        intro e w4 hp
        have HV3 : RKeep _ := ⟨HV.out _ _ hp⟩
        rcases hp.ret with ⟨y, rfl⟩ | rfl
        · clear hp hadd HV
          go_wp2
          refine bodyPost_ret (v := .iface 45 (.agg #[.string y])) ?_ rfl HV3.out
          go_light
          simp [results, Tryd.results54, go_sem]
        · clear hp hadd HV
          go_wp2
          refine bodyPost_ret (v := .nilIface) ?_ rfl HV3.out
          go_light
          simp [results, Tryd.results54, go_sem]
end Go.Proofs.YtamaioeikcjhoaaDoor
