/-
  impl's sizeState.
-/
import Derived.Test.YtdlbmjmhlcaalaaFrameOps
import Derived.Laws.BitsAllLaws
namespace Go.Proofs.Ytdlbmjmhlcaalaa
open Go.RowKit

theorem bits_low : ∀ x : Fin 256, bits .and .u8 (x.val : Int) 127 = ((x.val % 128 : Nat) : Int) := by decide +kernel
theorem bits_low_nat (q : Nat) (h : q < 256) : bits .and .u8 (q : Int) 127 = ((q % 128 : Nat) : Int) := bits_low ⟨q, h⟩
theorem piece_size (s : ByteArray) (k : Nat) (h : k + 1 ≤ s.size) : (s.extract k (k + 1)).size = 1 := by
  rw [ByteArray.size_extract]; omega
theorem piece_byte (s : ByteArray) (k : Nat) (h : k + 1 ≤ s.size) (h0 : 0 < (s.extract k (k + 1)).size) : (s.extract k (k + 1))[0].toNat = bt s k := by
  rw [bt_at (by omega), ByteArray.getElem_extract]
  rfl

/-- What the first byte says. -/
def Size0 (B : Nat) (w : World) (g : Nat) (r : R) (ts : List ByteArray) (e : Ending) (w' : World) : Prop :=
  (r.rest.size = 0 ∧ OpPost B w g .nilFunc r ts e w') ∨
  (0 < r.rest.size ∧ bt r.rest 0 = 0 ∧ OpPost B w g (fnv1 55) { r with past := 1, size := 0 } ts e w') ∨
  (0 < r.rest.size ∧ 0 < bt r.rest 0 ∧ bt r.rest 0 < 128 ∧ OpPost B w g (fnv1 56) { r with past := 1, size := bt r.rest 0 } ts e w') ∨
  (0 < r.rest.size ∧ 128 ≤ bt r.rest 0 ∧ OpPost B w g (fnv1 49) { r with past := 1, size := bt r.rest 0 % 128 } ts e w')

theorem St.size6 {B : Nat} {w : World} {g : Nat} {r : R} {ts : List ByteArray} (h : St B w g r ts) (z : Nat) (v : Value) (hv : v = .int .i64 z) : St B (w.setCell ⟨g, 6, none⟩ v) g { r with size := z } ts := by
  subst hv
  refine h.set 6 _ { r with size := z } (by omega) rfl rfl ?_
  intro j hj hne
  match j, hj, hne with | 0, _, _ => rfl | 1, _, _ => rfl | 2, _, _ => rfl | 3, _, _ => rfl | 4, _, _ => rfl | 5, _, _ => rfl | 7, _, _ => rfl

set_option maxRecDepth 20000 in
set_option maxHeartbeats 2000000 in
theorem sizeState0 (B : Nat) (w : World) (g : Nat) (wd room : Nat) (s : ByteArray) (tk : Value) (bd : Bool) (pl : ByteArray) (ts : List ByteArray) (h : St B w g ⟨wd, room, s, tk, bd, 0, 0, pl⟩ ts) (hs : s.size ≤ 1099511627776) :
    Calls Try.prog 49 #[.pointer (some ⟨g, 0, none⟩)] w fun e w' => Size0 B w g ⟨wd, room, s, tk, bd, 0, 0, pl⟩ ts e w' := by
  go_enter Try.func49, Try.ntmps49
  go_wp2_with fail
  refine (next_any B w g ⟨wd, room, s, tk, bd, 0, 0, pl⟩ ts 1 h hs (Nat.zero_le _) (by omega)).mono ?_
  rintro e w1 (⟨rfl, hlt, h1, hb1⟩ | ⟨rfl, hle, h1, hb1⟩)
  · go_wp2
    go_ret
    exact .inl ⟨Nat.lt_one_iff.1 (Nat.lt_of_lt_of_eq hlt (Nat.zero_add 1)), rfl, h1, hb1⟩
  · have hle' : 0 + 1 ≤ s.size := hle
    have hpz : 0 < (s.extract 0 (0 + 1)).size := by rw [piece_size s 0 hle']; omega
    have hB := piece_byte s 0 hle' hpz
    have hq := bt_lt s 0
    have k5 : w1.cell? ⟨g, 5, none⟩ = some (.int .i64 1) := h1.rc.cells 5 (by omega)
    have k6 : w1.cell? ⟨g, 6, none⟩ = some (.int .i64 0) := h1.rc.cells 6 (by omega)
    have f6 := h1.rc.soft 6
    obtain ⟨q, hqq⟩ : ∃ q, q = bt s 0 := ⟨_, rfl⟩
    rw [← hqq] at hB hq
    have hbB : Below B w (w1.setCell ⟨g, 6, none⟩ (.int .i64 ((q : Int) % 128))) := hb1.setCell h1.ge _
    have hS6 := h1.size6 (q % 128) (.int .i64 ((q : Int) % 128)) (by congr 1)
    have HQ : Hid (q = bt s 0) := hqq
    clear hqq
    have hA := bits_low_nat q hq
    have HS : Hid (0 < s.size) := hle'
    dsimp only
    generalize s.extract 0 (0 + 1) = pc at *
    clear hle hle' h
    by_cases h128 : 128 ≤ q
    · have hd : (128 : Int) ≤ q := by omega
      have hz : ((q : Int) == 0) = false := by simp; omega
      have hl : ¬ (1000 : Int) < (q : Int) % 128 + 128 := by omega
      go_wp2
      go_region
      all_goals (try go_wp2)
      all_goals go_ret
      all_goals exact .inr (.inr (.inr ⟨HS.out, by rw [← HQ.out]; exact h128, rfl, by rw [← HQ.out]; exact hS6.drew, hbB.drew⟩))
    · have hd : ¬ (128 : Int) ≤ q := by omega
      have hmod : (q : Int) % 128 = q := by omega
      have HM : Hid (q % 128 = q) := by
        have : q % 128 = q := Nat.mod_eq_of_lt (by omega)
        exact this
      rw [hmod] at hS6 hbB
      rw [HM.out] at hA hS6
      have hl : ¬ (1000 : Int) < (q : Int) := by omega
      clear hmod
      by_cases h0 : q = 0
      · subst h0
        have hA0 : bits .and .u8 (0 : Int) 127 = 0 := by decide
        have hS0 : St B (w1.setCell ⟨g, 6, none⟩ (.int .i64 0)) g ⟨wd, room, s, tk, bd, 1, 0, pl⟩ ts := hS6
        have hb0 : Below B w (w1.setCell ⟨g, 6, none⟩ (.int .i64 0)) := hbB
        clear hS6 hbB hA hq hl hd h128 HM
        go_wp2
        go_region
        all_goals (try go_wp2)
        all_goals go_ret
        all_goals exact .inr (.inl ⟨HS.out, HQ.out.symm, rfl, hS0.drew, hb0.drew⟩)
      · have hz : ((q : Int) == 0) = false := by simp; omega
        go_wp2
        go_region
        all_goals (try go_wp2)
        all_goals go_ret
        all_goals exact .inr (.inr (.inl ⟨HS.out, by rw [← HQ.out]; exact Nat.pos_of_ne_zero h0, by rw [← HQ.out]; exact Nat.lt_of_not_le h128, rfl, by rw [← HQ.out]; exact hS6.drew, hbB.drew⟩))

/-- What the second byte says. -/
def Size1 (B : Nat) (w : World) (g : Nat) (r : R) (ts : List ByteArray) (e : Ending) (w' : World) : Prop :=
  (r.rest.size < 2 ∧ OpPost B w g .nilFunc r ts e w') ∨
  (1 < r.rest.size ∧ (bt r.rest 1 = 0 ∨ 1000 < r.size + bt r.rest 1 % 128 * 128 ∨ 128 ≤ bt r.rest 1) ∧ ∃ z, OpPost B w g (fnv1 55) { r with past := 2, size := z } ts e w') ∨
  (1 < r.rest.size ∧ 0 < bt r.rest 1 ∧ bt r.rest 1 < 128 ∧ r.size + bt r.rest 1 * 128 ≤ 1000 ∧ OpPost B w g (fnv1 56) { r with past := 2, size := r.size + bt r.rest 1 * 128 } ts e w')

set_option maxRecDepth 200000 in
set_option maxHeartbeats 2000000 in
theorem sizeState1 (B : Nat) (w : World) (g : Nat) (wd room : Nat) (s : ByteArray) (tk : Value) (bd : Bool) (m : Nat) (pl : ByteArray) (ts : List ByteArray) (h : St B w g ⟨wd, room, s, tk, bd, 1, m, pl⟩ ts) (hs : s.size ≤ 1099511627776) (h1s : 1 ≤ s.size) (hm : m < 128) :
    Calls Try.prog 49 #[.pointer (some ⟨g, 0, none⟩)] w fun e w' => Size1 B w g ⟨wd, room, s, tk, bd, 1, m, pl⟩ ts e w' := by
  go_enter Try.func49, Try.ntmps49
  go_wp2_with fail
  refine (next_any B w g ⟨wd, room, s, tk, bd, 1, m, pl⟩ ts 1 h hs h1s (by omega)).mono ?_
  rintro e w1 (⟨rfl, hlt, h1, hb1⟩ | ⟨rfl, hle, h1, hb1⟩)
  · go_wp2
    go_ret
    exact .inl ⟨hlt, rfl, h1, hb1⟩
  · have hle' : 1 + 1 ≤ s.size := hle
    have hpz : 0 < (s.extract 1 (1 + 1)).size := by rw [piece_size s 1 hle']; omega
    have hB := piece_byte s 1 hle' hpz
    have hq := bt_lt s 1
    have k5 : w1.cell? ⟨g, 5, none⟩ = some (.int .i64 2) := h1.rc.cells 5 (by omega)
    have k6 : w1.cell? ⟨g, 6, none⟩ = some (.int .i64 m) := h1.rc.cells 6 (by omega)
    have f6 := h1.rc.soft 6
    obtain ⟨q, hqq⟩ : ∃ q, q = bt s 1 := ⟨_, rfl⟩
    rw [← hqq] at hB hq
    have HQ : Hid (q = bt s 1) := hqq
    clear hqq
    have hA := bits_low_nat q hq
    have HS : Hid (1 < s.size) := hle'
    dsimp only
    generalize s.extract 1 (1 + 1) = pc at *
    clear hle hle' h
    by_cases h128 : 128 ≤ q
    · have hd : (128 : Int) ≤ q := by omega
      have hz : ((q : Int) == 0) = false := by simp; omega
      go_wp2
      have hl : (1000 : Int) < (m : Int) + (q : Int) % 128 * 128 + 16384 := by omega
      go_region
      go_wp2
      go_ret
      refine .inr (.inl ⟨HS.out, .inr (.inr (by rw [← HQ.out]; exact h128)), m + q % 128 * 128, rfl, (h1.size6 (m + q % 128 * 128) (.int .i64 ((m : Int) + (q : Int) % 128 * 128)) (by congr 1)).drew, (hb1.setCell h1.ge _).drew⟩)
    · have hd : ¬ (128 : Int) ≤ q := by omega
      have hmod : (q : Int) % 128 = q := by omega
      have HM : Hid (q % 128 = q) := by
        have : q % 128 = q := Nat.mod_eq_of_lt (by omega)
        exact this
      rw [HM.out] at hA
      clear hmod
      by_cases h0 : q = 0
      · subst h0
        have hA0 : bits .and .u8 (0 : Int) 127 = 0 := by decide
        clear hA hq hd h128 HM
        go_wp2
        go_region
        all_goals (try go_wp2)
        all_goals go_ret
        all_goals exact .inr (.inl ⟨HS.out, .inl HQ.out.symm, m, rfl, (h1.size6 m _ rfl).drew, (hb1.setCell h1.ge _).drew⟩)
      · have hz : ((q : Int) == 0) = false := by simp; omega
        by_cases hbig : 1000 < m + q * 128
        · have hl : (1000 : Int) < (m : Int) + (q : Int) * 128 := by omega
          go_wp2
          go_region
          all_goals (try go_wp2)
          all_goals go_ret
          all_goals exact .inr (.inl ⟨HS.out, .inr (.inl (by rw [← HQ.out, HM.out]; exact hbig)), m + q * 128, rfl, (h1.size6 (m + q * 128) (.int .i64 ((m : Int) + (q : Int) * 128)) (by congr 1)).drew, (hb1.setCell h1.ge _).drew⟩)
        · have hl : ¬ (1000 : Int) < (m : Int) + (q : Int) * 128 := by omega
          go_wp2
          go_region
          all_goals (try go_wp2)
          all_goals go_ret
          all_goals exact .inr (.inr ⟨HS.out, by rw [← HQ.out]; exact Nat.pos_of_ne_zero h0, by rw [← HQ.out]; exact Nat.lt_of_not_le h128, by rw [← HQ.out]; exact Nat.le_of_not_lt hbig, rfl, by rw [← HQ.out]; exact (h1.size6 (m + q * 128) (.int .i64 ((m : Int) + (q : Int) * 128)) (by congr 1)).drew, (hb1.setCell h1.ge _).drew⟩)
end Go.Proofs.Ytdlbmjmhlcaalaa
