/-
  Drawn payloads: spec.l3Payloads.
-/
import Derived.Test.YtdlbmjmhlcaalaaDrawText
import Derived.Test.YtdlbmjmhlcaalaaEncPlain
namespace Go.Proofs.Ytdlbmjmhlcaalaa
open Go.RowKit

/-- A row of texts that was drawn: the call's own, at most N of them. -/
def DrawnS (w : World) (w' : World) (B : Nat) (N : Nat) (v : Value) (ss : List ByteArray) : Prop :=
  w'.ownsRow B 9 1 v ss.length (ss.map .string) ∧ ss.length ≤ N ∧ (∀ s ∈ ss, s.size ≤ 2000) ∧ w.heap.size ≤ w'.heap.size

set_option maxRecDepth 20000 in
set_option maxHeartbeats 4000000 in
theorem pays_any (g : Nat) (a : Option Addr) (cap : Nat) (zs : List Int) (p : Nat) (w : World) (h : Rd w g a cap zs p) (hp : p ≤ 50000000) :
    Calls Try.prog 40 #[.pointer (some ⟨g, 0, none⟩)] w fun e w' => ∃ ad cp ss, e = .returned (.slice ad (List.length ss) cp) ∧ w'.ownsRow w.heap.size 9 1 (.slice ad ss.length cp) ss.length (ss.map .string) ∧ ss.length ≤ 5 ∧ (∀ s ∈ ss, s.size ≤ 1000) ∧ Dr g a cap zs w w' p 100 := by
  obtain ⟨i0, hi, hz0, hz1, hz2⟩ := info_parts Try.infoStr
  have hlt := h.lt
  have hb0 : Below w.heap.size w (w.alloc (.cells #[] 9)) := (Below.refl _ _).alloc (Nat.le_refl _) _
  go_enter Try.func40, Try.ntmps40
  go_wp2_with fail
  refine (pick_any g a cap zs p 6 _ (h.below hb0) (by omega) (by omega) (by omega)).mono ?_
  rintro e w1 ⟨x, rfl, hx, hg1, hR1⟩
  have hgx1 : w.grownBy w1 (some g) := gr_trans (gr_below hb0) hg1
  have hnil : (w.alloc (.cells #[] 9)).ownsRow w.heap.size 9 1 (.slice (some ⟨w.heap.size, 0, none⟩) 0 0) 0 [] := ⟨by simp, .inr ⟨w.heap.size, 0, #[], rfl, Nat.le_refl _, heap_alloc_new w _, Nat.le_refl _, by unfold maxLen; omega, rfl, by simp⟩⟩
  have ho1 := owns_rd hnil hg1 hlt
  clear hnil hb0
  go_wp2
  go_loopw [3, 4] (fun v q wr => ∃ (ss : List ByteArray) (q' p' : Nat), q = .int .i64 q' ∧ ss.length + q' ≤ 5 ∧ p' + 15 * q' ≤ p + 80 ∧ wr.ownsRow w.heap.size 9 1 v ss.length (ss.map .string) ∧ (∀ s ∈ ss, s.size ≤ 1000) ∧ Rd wr g a cap zs p' ∧ w.grownBy wr (some g)) (fun _ q _ => (intOf q).toNat)
  case atStart => exact ⟨[], x, p + 1, rfl, by simp; omega, by omega, ho1, by simp, hR1, hgx1⟩
  case round =>
    obtain ⟨ss, q, p', rfl, hq5, hpq, hown, hsz, hR, hg⟩ := hrel
    by_cases hq : 0 < q
    · have hq' : (0 : Int) < q := by omega
      go_wp2_with fail
      refine (pick_any g a cap zs p' 8 wr hR (by omega) (by omega) (by omega)).mono ?_
      rintro e w2 ⟨y, rfl, hy, hg2, hR2⟩
      have ho2 := owns_rd hown hg2 hlt
      have hgx2 := gr_trans hg hg2
      clear hown hR hg1 hg2 ho1 hgx1 hR1 hg
      by_cases h0 : y = 0
      · have hB : ((y : Int) == 0) = true := by simp; omega
        clear h0
        go_wp2_with fail
        have hb3 : Below w2.heap.size w2 (w2.alloc (.cells #[.int .i64 127, .int .i64 128, .int .i64 1000] 3)) := (Below.refl _ _).alloc (Nat.le_refl _) _
        refine (pick_any g a cap zs (p' + 1) 3 _ (hR2.below hb3) (by omega) (by omega) (by omega)).mono ?_
        rintro e w3 ⟨z, rfl, hz, hg3, hR3⟩
        have hne : some w2.heap.size ≠ some g := by have := hR2.lt; simp; omega
        have hcell : ∀ j v, (w2.alloc (.cells #[.int .i64 127, .int .i64 128, .int .i64 1000] 3)).cell? ⟨w2.heap.size, j, none⟩ = some v → w3.cell? ⟨w2.heap.size, j, none⟩ = some v := fun j v hv => hg3.cell (a := ⟨w2.heap.size, j, none⟩) hv hne
        obtain ⟨n, hn, hn2⟩ : ∃ n : Nat, w3.cell? ⟨w2.heap.size, z, none⟩ = some (.int .i64 n) ∧ n ≤ 1000 := by
          match z, hz with
          | 0, _ => exact ⟨127, hcell 0 _ (by simp), by omega⟩
          | 1, _ => exact ⟨128, hcell 1 _ (by simp), by omega⟩
          | 2, _ => exact ⟨1000, hcell 2 _ (by simp), by omega⟩
        have ho3 := owns_rd (ho2.alloc (.cells #[.int .i64 127, .int .i64 128, .int .i64 1000] 3)) hg3 hlt
        have hgx3 := gr_trans hgx2 (gr_trans (gr_below hb3) hg3)
        have hw3 : w.heap.size ≤ w3.heap.size := hgx3.size
        clear hcell hb3 hg3 ho2 hgx2 hR2
        go_wp2_with fail
        refine (many_any ⟨#[112]⟩ n w3 (by show 1 * n ≤ _; omega) (by omega) (by show 1 ≤ 1; omega) (by show 1 ≤ _; omega)).mono ?_
        rintro e w3' ⟨t, rfl, ht, rfl⟩
        have ht2 : t.size ≤ 1000 := by rw [ht]; show 1 * n ≤ 1000; omega
        clear ht
        go_wp2_with (at_builtin; refine wpList_append_own _ rfl _ _ 22 rfl w.heap.size 9 i0 _ 1 16 Try.underlying22 hi hz0 hz1 hz2 rfl (by decide) _ _ _ rfl (ho3.alloc _) ⟨w3.heap.size, 0, none⟩ 1 1 [.string t] rfl rfl (cell_one_new _ _ _) (by simp [Value.oneCell']) (by unfold maxLen; omega) (by omega) (by simp; omega) ?_; intro v4 w4 ho4 hg4 _)
        refine ⟨⟨ss ++ [t], q - 1, p' + 1 + 1, by congr 1; omega, by simp; omega, by omega, ?_, ?_, ?_, ?_⟩, by simp only [intOf]; omega⟩
        · rw [List.length_append, List.map_append]; exact ho4
        · intro u hu
          rcases List.mem_append.1 hu with hu | hu
          · exact hsz u hu
          · rw [List.mem_singleton.1 hu]; omega
        · exact (hR3.below ((Below.refl _ _).alloc (Nat.le_refl _) _)).own hg4 (fun k hk => owns_row_ge ho3 hk) hlt
        · exact gr_own (gr_alloc _ hgx3) hg4 (fun k hk => owns_row_ge ho3 hk)
      · have hB : ((y : Int) == 0) = false := by simp; omega
        clear h0
        go_wp2_with fail
        refine (text_any g a cap zs (p' + 1) w2 hR2 (by omega)).mono ?_
        rintro e w3 ⟨t, rfl, ht, ⟨p3, hp3, hR3⟩, hg3⟩
        have ho3 := owns_rd ho2 hg3 hlt
        have hgx3 := gr_trans hgx2 hg3
        have hw3 : w.heap.size ≤ w3.heap.size := hgx3.size
        have hc : ¬ 9223372036854775807 < (⟨#[112]⟩ : ByteArray).size + t.size := by
          have : (⟨#[112]⟩ : ByteArray).size = 1 := rfl
          omega
        have ht2 : ((⟨#[112]⟩ : ByteArray) ++ t).size ≤ 1000 := by
          have : (⟨#[112]⟩ : ByteArray).size = 1 := rfl
          rw [ByteArray.size_append]; omega
        clear hg3 ho2 hgx2 hR2
        go_wp2_with (at_builtin; refine wpList_append_own _ rfl _ _ 22 rfl w.heap.size 9 i0 _ 1 16 Try.underlying22 hi hz0 hz1 hz2 rfl (by decide) _ _ _ rfl (ho3.alloc _) ⟨w3.heap.size, 0, none⟩ 1 1 [.string (⟨#[112]⟩ ++ t)] rfl rfl (cell_one_new _ _ _) (by simp [Value.oneCell']) (by unfold maxLen; omega) (by omega) (by simp; omega) ?_; intro v4 w4 ho4 hg4 _)
        refine ⟨⟨ss ++ [⟨#[112]⟩ ++ t], q - 1, p3, by congr 1; omega, by simp; omega, by omega, ?_, ?_, ?_, ?_⟩, by simp only [intOf]; omega⟩
        · rw [List.length_append, List.map_append]; exact ho4
        · intro u hu
          rcases List.mem_append.1 hu with hu | hu
          · exact hsz u hu
          · rw [List.mem_singleton.1 hu]; omega
        · exact (hR3.below ((Below.refl _ _).alloc (Nat.le_refl _) _)).own hg4 (fun k hk => owns_row_ge ho3 hk) hlt
        · exact gr_own (gr_alloc _ hgx3) hg4 (fun k hk => owns_row_ge ho3 hk)
    · obtain rfl : q = 0 := by omega
      obtain ⟨ad, cp, rfl⟩ := owns_slice hown
      go_wp2
      go_ret
      exact ⟨ad, cp, ss, rfl, hown, by omega, hsz, ⟨p', by omega, hR⟩, hg⟩
end Go.Proofs.Ytdlbmjmhlcaalaa
