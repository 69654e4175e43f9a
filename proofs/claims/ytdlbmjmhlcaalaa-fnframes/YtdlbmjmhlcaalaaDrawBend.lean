/-
  A text that was bent: spec.l1Bend.
-/
import Derived.Test.YtdlbmjmhlcaalaaDrawPays
import Derived.Deep.RegionHeld3
namespace Go.Proofs.Ytdlbmjmhlcaalaa
open Go.RowKit

theorem lit10 (q : Nat) (hq : q < 10) : ∃ c : ByteArray, c.size = 1 ∧ (#[.string ⟨#[32]⟩, .string ⟨#[10]⟩, .string ⟨#[34]⟩, .string ⟨#[92]⟩, .string ⟨#[48]⟩, .string ⟨#[120]⟩, .string ⟨#[47]⟩, .string ⟨#[0]⟩, .string ⟨#[128]⟩, .string ⟨#[42]⟩] : Array Value)[q]? = some (.string c) ∧ ∀ h, ([.string ⟨#[32]⟩, .string ⟨#[10]⟩, .string ⟨#[34]⟩, .string ⟨#[92]⟩, .string ⟨#[48]⟩, .string ⟨#[120]⟩, .string ⟨#[47]⟩, .string ⟨#[0]⟩, .string ⟨#[128]⟩, .string ⟨#[42]⟩] : List Value)[q]'h = .string c := by
  match q, hq with
  | 0, _ => exact ⟨_, rfl, rfl, fun _ => rfl⟩
  | 1, _ => exact ⟨_, rfl, rfl, fun _ => rfl⟩
  | 2, _ => exact ⟨_, rfl, rfl, fun _ => rfl⟩
  | 3, _ => exact ⟨_, rfl, rfl, fun _ => rfl⟩
  | 4, _ => exact ⟨_, rfl, rfl, fun _ => rfl⟩
  | 5, _ => exact ⟨_, rfl, rfl, fun _ => rfl⟩
  | 6, _ => exact ⟨_, rfl, rfl, fun _ => rfl⟩
  | 7, _ => exact ⟨_, rfl, rfl, fun _ => rfl⟩
  | 8, _ => exact ⟨_, rfl, rfl, fun _ => rfl⟩
  | 9, _ => exact ⟨_, rfl, rfl, fun _ => rfl⟩

def BendPost (g : Nat) (a : Option Addr) (cap : Nat) (zs : List Int) (p : Nat) (s : ByteArray) (w : World) (e : Ending) (w' : World) : Prop :=
  ∃ t : ByteArray, e = .returned (.string t) ∧ t.size ≤ 2 * s.size + 2 ∧ Dr g a cap zs w w' p 3

set_option maxRecDepth 20000 in
set_option maxHeartbeats 4000000 in
theorem bend_any (g : Nat) (a : Option Addr) (cap : Nat) (zs : List Int) (p : Nat) (s : ByteArray) (w : World) (h : Rd w g a cap zs p) (hp : p ≤ 50000000) (hs : s.size ≤ 1073741824) :
    Calls Try.prog 42 #[.pointer (some ⟨g, 0, none⟩), .string s] w fun e w' => BendPost g a cap zs p s w e w' := by
  go_enter Try.func42, Try.ntmps42
  go_wp2_with fail
  refine (pick_any g a cap zs p 256 w h (by omega) (by omega) (by omega)).mono ?_
  rintro e w1 ⟨x, rfl, hx, hg1, hR1⟩
  have hmul : x * (s.size + 1) ≤ 255 * (s.size + 1) := Nat.mul_le_mul_right _ (by omega)
  have hmi : ((x * (s.size + 1) : Nat) : Int) = (x : Int) * ((s.size : Int) + 1) := by rw [Int.natCast_mul]; rfl
  have hr1 : (0 : Int) ≤ (x : Int) * ((s.size : Int) + 1) := by omega
  have hr2 : (x : Int) * ((s.size : Int) + 1) ≤ 255 * ((s.size : Int) + 1) := by omega
  generalize hY : (x : Int) * ((s.size : Int) + 1) = Y at *
  go_wp2_with fail
  obtain ⟨i, hi⟩ : ∃ i : Nat, Y / 256 = i := ⟨(Y / 256).toNat, by omega⟩
  have hi0 : (0 : Int) ≤ i := by omega
  have hi1 : (i : Int) ≤ s.size := by omega
  have hin : i ≤ s.size := by omega
  rw [hi]
  clear hmul hmi hr1 hr2 hY hi hx
  refine (pick_any g a cap zs (p + 1) 5 w1 hR1 (by omega) (by omega) (by omega)).mono ?_
  rintro e w2 ⟨y, rfl, hy, hg2, hR2⟩
  have hgx2 := gr_trans hg1 hg2
  have hD2 : Dr g a cap zs w w2 p 3 := ⟨⟨p + 1 + 1, by omega, hR2⟩, hgx2⟩
  have hz1 : (s.extract 0 i).size = i := by rw [ByteArray.size_extract]; omega
  have hz2 : (s.extract i s.size).size = s.size - i := by rw [ByteArray.size_extract]; omega
  have HZ1 : Hid ((s.extract 0 i).size = i) := hz1
  have HZ2 : Hid ((s.extract i s.size).size = s.size - i) := hz2
  have hcA : ¬ 9223372036854775807 < s.size + (s.extract i s.size).size := by omega
  have hcB : ∀ c : ByteArray, c.size = 1 → ¬ 9223372036854775807 < (s.extract 0 i).size + c.size := fun c hc => by omega
  have hcC : ∀ c : ByteArray, c.size = 1 → ¬ 9223372036854775807 < (s.extract 0 i ++ c).size + (s.extract i s.size).size := fun c hc => by rw [ByteArray.size_append]; omega
  clear hg1 hR1 hg2 h
  have hlast : (s ++ s.extract i s.size).size ≤ 2 * s.size + 2 := by rw [ByteArray.size_append]; omega
  clear hz1 hz2
  by_cases h0 : y = 0
  · have hB : ((y : Int) == 0) = true := by simp; omega
    clear h0
    go_wp2
    go_ret
    exact ⟨s.extract 0 i, rfl, by rw [HZ1.out]; omega, hD2⟩
  · have hB0 : ((y : Int) == 0) = false := by simp; omega
    by_cases h1 : y = 1
    · have hB : ((y : Int) == 1) = true := by simp; omega
      clear h0 h1
      have hbL : Below w2.heap.size w2 (w2.alloc (.cells #[.string ⟨#[32]⟩, .string ⟨#[10]⟩, .string ⟨#[34]⟩, .string ⟨#[92]⟩, .string ⟨#[48]⟩, .string ⟨#[120]⟩, .string ⟨#[47]⟩, .string ⟨#[0]⟩, .string ⟨#[128]⟩, .string ⟨#[42]⟩] 9)) := (Below.refl _ _).alloc (Nat.le_refl _) _
      have hpA := pick_any g a cap zs (p + 1 + 1) 10 (w2.alloc (.cells #[.string ⟨#[32]⟩, .string ⟨#[10]⟩, .string ⟨#[34]⟩, .string ⟨#[92]⟩, .string ⟨#[48]⟩, .string ⟨#[120]⟩, .string ⟨#[47]⟩, .string ⟨#[0]⟩, .string ⟨#[128]⟩, .string ⟨#[42]⟩] 9)).drew (hR2.below (w' := (w2.alloc (.cells #[.string ⟨#[32]⟩, .string ⟨#[10]⟩, .string ⟨#[34]⟩, .string ⟨#[92]⟩, .string ⟨#[48]⟩, .string ⟨#[120]⟩, .string ⟨#[47]⟩, .string ⟨#[0]⟩, .string ⟨#[128]⟩, .string ⟨#[42]⟩] 9)).drew) hbL.drew) (by omega) (by omega) (by omega)
      have hpB := pick_any g a cap zs (p + 1 + 1) 10 w2.drew (hR2.below (w' := w2.drew) (Below.refl _ _).drew) (by omega) (by omega) (by omega)
      have hne : some w2.heap.size ≠ some g := by have := hR2.lt; simp; omega
      have hcell : ∀ w3 z c, (w2.alloc (.cells #[.string ⟨#[32]⟩, .string ⟨#[10]⟩, .string ⟨#[34]⟩, .string ⟨#[92]⟩, .string ⟨#[48]⟩, .string ⟨#[120]⟩, .string ⟨#[47]⟩, .string ⟨#[0]⟩, .string ⟨#[128]⟩, .string ⟨#[42]⟩] 9)).drew.grownBy w3 (some g) → (#[.string ⟨#[32]⟩, .string ⟨#[10]⟩, .string ⟨#[34]⟩, .string ⟨#[92]⟩, .string ⟨#[48]⟩, .string ⟨#[120]⟩, .string ⟨#[47]⟩, .string ⟨#[0]⟩, .string ⟨#[128]⟩, .string ⟨#[42]⟩] : Array Value)[z]? = some (.string c) → w3.cell? ⟨w2.heap.size, z, none⟩ = some (.string c) := fun w3 z c hg hL => hg.cell (a := ⟨w2.heap.size, z, none⟩) ((World.cell?_alloc_new w2 _ _ z).trans hL) hne
      go_wp2_with fail
      go_region_with (first | (go_at_call 41; refine hpA.mono ?_; rintro e w3 ⟨z, rfl, hz, hg3, hR3⟩; obtain ⟨c, hc1, hL, hLL⟩ := lit10 z hz; have hck := hcell w3 z c hg3 hL; have hq1 := hcB c hc1; have hq2 := hcC c hc1) | (go_at_call 41; refine hpB.mono ?_; rintro e w3 ⟨z, rfl, hz, hg3, hR3⟩; obtain ⟨c, hc1, hL, hLL⟩ := lit10 z hz; have hq1 := hcB c hc1; have hq2 := hcC c hc1))
      · go_wp2
        go_ret
        refine ⟨s.extract 0 i ++ c ++ s.extract i s.size, rfl, ?_, ⟨⟨p + 1 + 1 + 1, by omega, hR3⟩, gr_trans hgx2 (gr_trans (gr_below (w' := (w2.alloc (.cells #[.string ⟨#[32]⟩, .string ⟨#[10]⟩, .string ⟨#[34]⟩, .string ⟨#[92]⟩, .string ⟨#[48]⟩, .string ⟨#[120]⟩, .string ⟨#[47]⟩, .string ⟨#[0]⟩, .string ⟨#[128]⟩, .string ⟨#[42]⟩] 9)).drew) hbL.drew) hg3)⟩⟩
        rw [ByteArray.size_append, ByteArray.size_append, HZ1.out, HZ2.out, hc1]; omega
      · go_wp2
        go_ret
        refine ⟨s.extract 0 i ++ c ++ s.extract i s.size, rfl, ?_, ⟨⟨p + 1 + 1 + 1, by omega, hR3.below ((Below.refl _ _).alloc (Nat.le_refl _) _)⟩, gr_alloc _ (gr_trans hgx2 (gr_trans (gr_below (w' := w2.drew) (Below.refl _ _).drew) hg3))⟩⟩
        rw [ByteArray.size_append, ByteArray.size_append, HZ1.out, HZ2.out, hc1]; omega
    · have hB1 : ((y : Int) == 1) = false := by simp; omega
      by_cases hlt : i < s.size
      · have hlti : (i : Int) < s.size := by omega
        have hi2 : (0 : Int) ≤ (i : Int) + 1 := by omega
        have hi3 : (i : Int) + 1 ≤ s.size := by omega
        have hw1 : IntKind.i64.wrap ((i : Int) + 1) = (i : Int) + 1 := by rw [IntKind.wrap_i64]; omega
        have HZ3 : Hid ((s.extract (i + 1) s.size).size = s.size - (i + 1)) := by
          have : (s.extract (i + 1) s.size).size = s.size - (i + 1) := by rw [ByteArray.size_extract]; omega
          exact this
        have ht1 : ((i : Int) + 1).toNat = i + 1 := by omega
        by_cases h2 : y = 2
        · have hB : ((y : Int) == 2) = true := by simp; omega
          have hcD : ¬ 9223372036854775807 < (s.extract 0 i).size + (s.extract (i + 1) s.size).size := by rw [HZ1.out, HZ3.out]; omega
          clear h0 h1 h2
          go_wp2
          go_quiet (fail)
          go_wp2
          go_ret
          refine ⟨s.extract 0 i ++ s.extract (i + 1) s.size, rfl, ?_, ⟨⟨p + 1 + 1, by omega, hR2.below (below_drewN (Below.refl _ _) _)⟩, gr_trans hgx2 (gr_below (below_drewN (Below.refl _ _) _))⟩⟩
          rw [ByteArray.size_append, HZ1.out, HZ3.out]; omega
        · have hB2 : ((y : Int) == 2) = false := by simp; omega
          by_cases h3 : y = 3
          · have hB : ((y : Int) == 3) = true := by simp; omega
            clear h0 h1 h2 h3
            obtain ⟨bb, hbb⟩ : ∃ bb : Nat, s[i].toNat = bb := ⟨_, rfl⟩
            have hcv : ∀ (z : Nat) (w : World), ∃ T : ByteArray, T.size = 1 ∧ (convert 39 9 (.slice (some ⟨w.heap.size, 0, none⟩) 1 1)).run Try.prog (w.alloc (.cells #[.int .u8 (IntKind.u8.wrap (bits .xor .i64 (IntKind.i64.wrap (bb : Int)) (IntKind.i64.wrap (2 ^ min (IntKind.u64.wrap (z : Int)).toNat 64))))] 5)) = .ok (.string T) (w.alloc (.cells #[.int .u8 (IntKind.u8.wrap (bits .xor .i64 (IntKind.i64.wrap (bb : Int)) (IntKind.i64.wrap (2 ^ min (IntKind.u64.wrap (z : Int)).toNat 64))))] 5)) := fun z w => ⟨_, by rw [strOfNums_size]; rfl, conv_one _ w⟩
            have hcG : ∀ c : ByteArray, c.size = 1 → ¬ 9223372036854775807 < (s.extract 0 i ++ c).size + (s.extract (i + 1) s.size).size := fun c hc => by rw [ByteArray.size_append, HZ1.out, HZ3.out]; omega
            have hpB := pick_any g a cap zs (p + 1 + 1) 8 w2.drew (hR2.below (w' := w2.drew) (Below.refl _ _).drew) (by omega) (by omega) (by omega)
            go_wp2_with fail
            go_region_with (first | (go_at_call 41; refine hpB.mono ?_; rintro e w3 ⟨z, rfl, hz, hg3, hR3⟩; have hzi : (z : Int) < 8 := (by omega); obtain ⟨T, hT1, hV1⟩ := hcv z w3; have hq1 := hcB T hT1; have hq2 := hcG T hT1))
            all_goals go_wp2
            all_goals go_ret
            all_goals refine ⟨_, rfl, ?_, ⟨⟨p + 1 + 1 + 1, by omega, hR3.below ((Below.refl _ _).alloc (Nat.le_refl _) _)⟩, gr_alloc _ (gr_trans hgx2 (gr_trans (gr_below (w' := w2.drew) (Below.refl _ _).drew) hg3))⟩⟩
            all_goals (rw [ByteArray.size_append, ByteArray.size_append, HZ1.out, HZ3.out, hT1]; omega)
          · have hB3 : ((y : Int) == 3) = false := by simp; omega
            clear h0 h1 h2 h3
            go_wp2
            go_ret
            exact ⟨s ++ s.extract i s.size, rfl, hlast, hD2⟩
      · have hlti : ¬ (i : Int) < s.size := by omega
        by_cases h2 : y = 2
        · have hB : ((y : Int) == 2) = true := by simp; omega
          clear h0 h1 h2
          go_wp2
          go_ret
          exact ⟨s ++ s.extract i s.size, rfl, hlast, hD2⟩
        · have hB2 : ((y : Int) == 2) = false := by simp; omega
          by_cases h3 : y = 3
          · have hB : ((y : Int) == 3) = true := by simp; omega
            clear h0 h1 h2 h3
            go_wp2
            go_ret
            exact ⟨s ++ s.extract i s.size, rfl, hlast, hD2⟩
          · have hB3 : ((y : Int) == 3) = false := by simp; omega
            clear h0 h1 h2 h3
            go_wp2
            go_ret
            exact ⟨s ++ s.extract i s.size, rfl, hlast, hD2⟩
end Go.Proofs.Ytdlbmjmhlcaalaa
