/-
  Drawn texts: spec.l1Text, spec.l1Many.
-/
import Derived.Test.YtiadabmbfpfbjaaDrP
namespace Go.Proofs.Ytiadabmbfpfbjaa
open Go.RowKit

set_option maxRecDepth 20000 in
set_option maxHeartbeats 1000000 in
theorem many_any (s : ByteArray) (n : Nat) (w : World) (hs : s.size * n ≤ 1073741824) (hn : n ≤ 1073741824) (h1 : 1 ≤ s.size) (h2 : s.size ≤ 1073741824) :
    Calls Try.prog 52 #[.string s, .int .i64 n] w fun e w' => ∃ o : ByteArray, e = .returned (.string o) ∧ o.size = s.size * n ∧ w = w' := by
  go_enter Try.func52, Try.ntmps52
  go_wp2
  go_loop [0, 1, 5] (fun t q o => ∃ (t' : ByteArray) (q' : Nat) (o' : ByteArray), t = .string t' ∧ q = .int .i64 q' ∧ o = .string o' ∧ o'.size + t'.size * q' = s.size * n ∧ t'.size ≤ 2 * (s.size * n) + s.size ∧ q' ≤ n) (fun _ q _ => (intOf q).toNat)
  case atStart => exact ⟨s, n, ⟨#[]⟩, rfl, rfl, rfl, Nat.zero_add _, by omega, Nat.le_refl _⟩
  case round =>
    obtain ⟨t, q, o, rfl, rfl, rfl, he, ht, hqn⟩ := hrel
    by_cases hq : 0 < q
    · have hq' : (0 : Int) < q := by omega
      have hto : t.size ≤ t.size * q := Nat.le_mul_of_pos_right _ hq
      have hsum : t.size * q = t.size * (q % 2) + (t.size + t.size) * (q / 2) := by
        rw [← Nat.two_mul, Nat.mul_comm 2 t.size, Nat.mul_assoc, ← Nat.mul_add]
        congr 1
        omega
      have hc2 : ¬ 9223372036854775807 < t.size + t.size := by omega
      by_cases hm : q % 2 = 1
      · have hB : ((q : Int) % 2 == 1) = true := by simp; omega
        have hc1 : ¬ 9223372036854775807 < o.size + t.size := by omega
        have HE : Hid ((o ++ t).size + (t ++ t).size * (q / 2) = s.size * n) := by
          have : (o ++ t).size + (t ++ t).size * (q / 2) = s.size * n := by
            rw [ByteArray.size_append, ByteArray.size_append]
            rw [hm, Nat.mul_one] at hsum
            omega
          exact this
        have HT : Hid ((t ++ t).size ≤ 2 * (s.size * n) + s.size) := by
          have : (t ++ t).size ≤ 2 * (s.size * n) + s.size := by rw [ByteArray.size_append]; omega
          exact this
        clear he ht hsum hto hm
        go_wp2
        go_round
        case rel => exact ⟨t ++ t, q / 2, o ++ t, rfl, by go_num, rfl, HE.out, HT.out, by omega⟩
        case measure => simp [intOf]; omega
      · have hB : ((q : Int) % 2 == 1) = false := by simp; omega
        have HE : Hid (o.size + (t ++ t).size * (q / 2) = s.size * n) := by
          have : o.size + (t ++ t).size * (q / 2) = s.size * n := by
            rw [ByteArray.size_append]
            rw [show q % 2 = 0 by omega, Nat.mul_zero, Nat.zero_add] at hsum
            omega
          exact this
        have HT : Hid ((t ++ t).size ≤ 2 * (s.size * n) + s.size) := by
          have : (t ++ t).size ≤ 2 * (s.size * n) + s.size := by rw [ByteArray.size_append]; omega
          exact this
        clear he ht hsum hto hm
        go_wp2
        go_round
        case rel => exact ⟨t ++ t, q / 2, o, rfl, by go_num, rfl, HE.out, HT.out, by omega⟩
        case measure => simp [intOf]; omega
    · obtain rfl : q = 0 := by omega
      rw [Nat.mul_zero, Nat.add_zero] at he
      have HE : Hid (o.size = s.size * n) := he
      clear he
      go_wp2
      go_ret
      exact ⟨o, rfl, HE.out, rfl⟩

set_option maxRecDepth 20000 in
set_option maxHeartbeats 2000000 in
theorem text_any (g : Nat) (a : Option Addr) (cap : Nat) (zs : List Int) (p : Nat) (w : World) (h : Rd w g a cap zs p) (hp : p ≤ 100000000) :
    Calls Try.prog 48 #[.pointer (some ⟨g, 0, none⟩)] w fun e w' => ∃ s : ByteArray, e = .returned (.string s) ∧ s.size ≤ 20 ∧ Dr g a cap zs w w' p 10 := by
  go_enter Try.func48, Try.ntmps48
  go_wp2_with fail
  refine (pick_any g a cap zs p 9 w h (by omega) (by omega) (by omega)).mono ?_
  rintro e w1 ⟨x, rfl, hx, hg1, hR1⟩
  by_cases h0 : x = 0
  · have hB : ((x : Int) == 0) = true := by simp; omega
    clear h0
    go_wp2
    go_ret
    exact ⟨⟨#[]⟩, rfl, Nat.zero_le _, ⟨p + 1, by omega, hR1⟩, hg1⟩
  · have hB0 : ((x : Int) == 0) = false := by simp; omega
    by_cases h1 : x = 1
    · have hB : ((x : Int) == 1) = true := by simp; omega
      clear h0 h1
      go_wp2
      go_ret
      exact ⟨⟨#[255, 0]⟩, rfl, by show 2 ≤ 20; omega, ⟨p + 1, by omega, hR1⟩, hg1⟩
    · have hB1 : ((x : Int) == 1) = false := by simp; omega
      by_cases h2 : x = 2
      · have hB : ((x : Int) == 2) = true := by simp; omega
        clear h0 h1 h2
        go_wp2
        go_ret
        exact ⟨_, rfl, by show 10 ≤ 20; omega, ⟨p + 1, by omega, hR1⟩, hg1⟩
      · have hB2 : ((x : Int) == 2) = false := by simp; omega
        clear h0 h1 h2
        go_wp2_with fail
        refine (pick_any g a cap zs (p + 1) 7 w1 hR1 (by omega) (by omega) (by omega)).mono ?_
        rintro e w2 ⟨y, rfl, hy, hg2, hR2⟩
        have hg02 := gr_trans hg1 hg2
        go_wp2
        go_loopw [3, 4] (fun o q wr => ∃ (o' : ByteArray) (q' p' : Nat), o = .string o' ∧ q = .int .i64 q' ∧ q' ≤ 6 ∧ o'.size + 2 * q' ≤ 12 ∧ p' + q' ≤ p + 8 ∧ Rd wr g a cap zs p' ∧ w.grownBy wr (some g)) (fun _ q _ => (intOf q).toNat)
        case atStart => exact ⟨⟨#[]⟩, y, p + 1 + 1, rfl, rfl, by omega, by show 0 + 2 * y ≤ 12; omega, by omega, hR2, hg02⟩
        case round =>
          obtain ⟨o, q, p', rfl, rfl, hq6, ho, hpq, hR, hg⟩ := hrel
          by_cases hq : 0 < q
          · have hq' : (0 : Int) < q := by omega
            go_wp2_with fail
            refine (pick_any g a cap zs p' 4 wr hR (by omega) (by omega) (by omega)).mono ?_
            rintro e w3 ⟨z, rfl, hz, hg3, hR3⟩
            have hgx := gr_trans hg hg3
            have hc : ∀ k : Nat, k ≤ 10 → ¬ 9223372036854775807 < o.size + k := fun k hk => by omega
            have hc1 := hc 1 (by omega)
            have hc2 := hc 2 (by omega)
            clear hc
            rcases (show z = 0 ∨ z = 1 ∨ z = 2 ∨ z = 3 by omega) with rfl | rfl | rfl | rfl
            all_goals go_wp2
            all_goals
              refine ⟨⟨_, q - 1, p' + 1, rfl, by congr 1; omega, by omega, ?_, by omega, hR3, hgx⟩, by simp only [intOf]; omega⟩
              simp only [ByteArray.size_append, ByteArray.size_extract]
              have e1 : (⟨#[97, 98, 99, 100]⟩ : ByteArray).size = 4 := rfl
              have e2 : (⟨#[10]⟩ : ByteArray).size = 1 := rfl
              omega
          · obtain rfl : q = 0 := by omega
            go_wp2
            go_ret
            exact ⟨o, rfl, by omega, ⟨p', by omega, hR⟩, hg⟩
end Go.Proofs.Ytiadabmbfpfbjaa
