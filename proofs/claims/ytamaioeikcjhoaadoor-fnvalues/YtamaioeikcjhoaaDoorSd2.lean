/-
  spec's desk: small numbers, texts.
-/
import Derived.Test.YtamaioeikcjhoaaDoorSd1
namespace Go.Proofs.YtamaioeikcjhoaaDoor
open Go.RowKit

/-- What reading a small number comes to. -/
def SmP (b : Nat) (W : World) (s : ByteArray) (p n : Nat) (bad : Bool) (e : Ending) (W' : World) : Prop :=
  ∃ (m p' : Nat) (bad' : Bool), e = .returned (.int .i64 m) ∧ W.grownBy W' (some b) ∧ DK b W' s p' n bad' ∧ m ≤ s.size ∧ p ≤ p' ∧ p' ≤ s.size ∧ (bad = true → bad' = true) ∧ RKeep (∀ q r, q ≤ s.size → rst s p = shortL q ++ r → m = q ∧ rst s p' = r ∧ bad' = bad)

set_option maxRecDepth 20000 in
set_option maxHeartbeats 1000000 in
theorem dsmall_any (b : Nat) (W : World) (s : ByteArray) (p n : Nat) (bad : Bool) (h : DK b W s p n bad) (hp : p ≤ s.size) (hs : s.size ≤ 100000) :
    Calls Tryd.prog 32 #[.pointer (some ⟨b, 0, none⟩)] W fun e W' => SmP b W s p n bad e W' := by
  go_enter Tryd.func32, Tryd.ntmps32
  go_wp2_with fail
  refine (dshort_any b W s p n bad h hp hs).mono ?_
  rintro e w1 ⟨m, p', bad', rfl, hg, hd, hm, h1, h2, h3, HK⟩
  have c0 := hd.c0
  have c2 := hd.c2
  have fz := hd.fz
  by_cases hq : m ≤ s.size
  · have hq1 : ¬ (s.size : Int) < m := by omega
    have HP : RKeep (SmP b W s p n bad (.returned (.int .i64 m)) w1) := ⟨m, p', bad', rfl, hg, hd, hq, h1, h2, h3, ⟨fun q r hq => HK.out q r (by omega)⟩⟩
    clear HK hd hg h
    go_wp2
    go_ret
    exact HP.out
  · have hq1 : (s.size : Int) < m := by omega
    have HP : RKeep (SmP b W s p n bad (.returned (.int .i64 0)) (w1.setCell ⟨b, 2, none⟩ (.bool true))) := ⟨0, p', true, rfl, dk_trans hg (dk_set _ _ _ _), hd.spoil, by omega, h1, h2, fun _ => rfl, ⟨fun q r hq' hr => by
      have := HK.out q r (by omega) hr
      omega⟩⟩
    clear HK hd hg h
    go_wp2
    go_ret
    exact HP.out

/-- What reading a text comes to. -/
def TxP (b : Nat) (W : World) (s : ByteArray) (p n : Nat) (bad : Bool) (e : Ending) (W' : World) : Prop :=
  ∃ (t : ByteArray) (p' : Nat) (bad' : Bool), e = .returned (.string t) ∧ W.grownBy W' (some b) ∧ DK b W' s p' n bad' ∧ p + t.size ≤ p' ∧ p' ≤ s.size ∧ (bad = true → bad' = true) ∧ RKeep (bad = false → ∀ (q : ByteArray) r, rst s p = shortL q.size ++ (q.data.toList ++ r) → t = q ∧ rst s p' = r ∧ bad' = false)
theorem rst_text {s q : ByteArray} {p : Nat} {r : List UInt8} (h : rst s p = q.data.toList ++ r) (hp : p ≤ s.size) : p + q.size ≤ s.size ∧ s.extract p (p + q.size) = q ∧ rst s (p + q.size) = r := by
  have hql : q.data.toList.length = q.size := by simp
  have hl := rst_len s p
  rw [h, List.length_append, hql] at hl
  refine ⟨by omega, ?_, ?_⟩
  · apply WideShapes.bytes_inj
    rw [ByteArray.data_extract]
    have e1 : (s.data.extract p (p + q.size)).toList = (rst s p).take q.size := by
      unfold rst
      rw [Array.toList_extract, List.extract_eq_take_drop]
      simp
    rw [e1, h, ← hql, List.take_left]
  · rw [rst_add, h, ← hql, List.drop_left]

set_option maxRecDepth 20000 in
set_option maxHeartbeats 1000000 in
theorem dtext_any (b : Nat) (W : World) (s : ByteArray) (p n : Nat) (bad : Bool) (h : DK b W s p n bad) (hp : p ≤ s.size) (hs : s.size ≤ 100000) :
    Calls Tryd.prog 31 #[.pointer (some ⟨b, 0, none⟩)] W fun e W' => TxP b W s p n bad e W' := by
  go_enter Tryd.func31, Tryd.ntmps31
  go_wp2_with fail
  refine (dsmall_any b W s p n bad h hp hs).mono ?_
  rintro e w1 ⟨m, p', bad', rfl, hg, hd, hm, h1, h2, h3, HK⟩
  have c0 := hd.c0
  have c1 := hd.c1
  have c2 := hd.c2
  have fz := hd.fz
  have hB : ∀ (w2 : World), w1.grownBy w2 (some b) → DK b w2 s p' n true → (bad' = true ∨ s.size < p' + m) → TxP b W s p n bad (.returned (.string ⟨#[]⟩)) w2 := fun w2 hg2 hd2 ho => ⟨⟨#[]⟩, p', true, rfl, dk_trans hg hg2, hd2, by show p + 0 ≤ p'; omega, h2, fun _ => rfl, ⟨fun hb q r hr => by
    exfalso
    have hql : q.data.toList.length = q.size := by simp
    have hl := rst_len s p
    rw [hr, List.length_append, List.length_append, hql] at hl
    obtain ⟨e1, e2, e3⟩ := HK.out q.size (q.data.toList ++ r) (by omega) hr
    obtain ⟨e4, _⟩ := rst_text e2 h2
    rcases ho with ho | ho
    · rw [e3, hb] at ho; cases ho
    · omega⟩⟩
  cases hbad : bad' with
  | true =>
    subst hbad
    have HP : RKeep (∀ j, TxP b W s p n bad (.returned (.string ⟨#[]⟩)) ((w1.drewN j).setCell ⟨b, 2, none⟩ (.bool true))) := ⟨fun j => hB _ (dk_trans (dk_drewN (dk_refl _ _) j) (dk_set _ _ _ _)) (hd.drewN j).spoil (.inl rfl)⟩
    clear HK hd hg h hB
    go_wp2_with fail
    go_quiet (fail)
    go_wp2
    go_ret
    exact HP.out _
  | false =>
    subst hbad
    by_cases hq : p' + m ≤ s.size
    · have hq1 : ¬ (s.size : Int) < (p' : Int) + m := by omega
      have d1 : decide ((s.size : Int) < (p' : Int) + m) = false := by simpa using hq1
      have hw : IntKind.i64.wrap ((p' : Int) + m) = (p' : Int) + m := by rw [IntKind.wrap_i64]; omega
      have HP : RKeep (∀ j i, TxP b W s p n bad (.returned (.string (s.extract p' (p' + m)))) (((w1.drewN j).setCell ⟨b, 1, none⟩ (.int .i64 ((p' + m : Nat) : Int))).drewN i)) := ⟨fun j i => ⟨s.extract p' (p' + m), p' + m, false, rfl, dk_drewN (dk_trans (dk_drewN hg j) (dk_set _ _ _ _)) i, ((hd.drewN j).at _).drewN i, by rw [ByteArray.size_extract]; omega, hq, h3, ⟨fun hb q r hr => by
        have hql : q.data.toList.length = q.size := by simp
        have hl := rst_len s p
        rw [hr, List.length_append, List.length_append, hql] at hl
        obtain ⟨e1, e2, e3⟩ := HK.out q.size (q.data.toList ++ r) (by omega) hr
        obtain ⟨e4, e5, e6⟩ := rst_text e2 h2
        subst e1
        exact ⟨e5, e6, rfl⟩⟩⟩⟩
      rw [show ((p' + m : Nat) : Int) = (p' : Int) + m by omega] at HP
      clear HK hd hg h hB
      go_wp2_with fail
      go_quiet (fail)
      go_wp2_with fail
      go_quiet (fail)
      go_wp2
      go_ret
      exact HP.out _ _
    · have hq1 : (s.size : Int) < (p' : Int) + m := by omega
      have d1 : decide ((s.size : Int) < (p' : Int) + m) = true := by simpa using hq1
      have hw : IntKind.i64.wrap ((p' : Int) + m) = (p' : Int) + m := by rw [IntKind.wrap_i64]; omega
      have HP : RKeep (∀ j, TxP b W s p n bad (.returned (.string ⟨#[]⟩)) ((w1.drewN j).setCell ⟨b, 2, none⟩ (.bool true))) := ⟨fun j => hB _ (dk_trans (dk_drewN (dk_refl _ _) j) (dk_set _ _ _ _)) (hd.drewN j).spoil (.inr (by omega))⟩
      clear HK hd hg h hB
      go_wp2_with fail
      go_quiet (fail)
      go_wp2
      go_ret
      exact HP.out _
end Go.Proofs.YtamaioeikcjhoaaDoor
