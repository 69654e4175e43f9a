/-
  spec.l2Short, spec.l2Text.
-/
import Derived.Test.YtdlbmjmhlcaalaaShort
import Derived.Laws.IdiomStrings
namespace Go.Proofs.Ytdlbmjmhlcaalaa
open Go.RowKit

theorem back {w : World} {base g cap : Nat} {l : List UInt8} {n : Nat} {xs : List Value} (hn : n = l.length) (hx : xs = bc l) (h : w.ownsRow base 5 1 (.slice (some ⟨g, 0, none⟩) n cap) n xs) : (convert 39 9 (.slice (some ⟨g, 0, none⟩) n cap)).run Try.prog w = .ok (.string ⟨l.toArray⟩) w := by
  subst hn hx
  exact run_convert_bytes_back (P := Try.prog) w 39 9 5 ⟨g, 0, none⟩ cap l Try.underlying39 Try.underlying5 Try.underlying9 (fun j hj => by
      rw [Go.WideShapes.add_plain, Nat.zero_add, h.cellAt j (by omega)]
      simp [bc, hj])

set_option maxRecDepth 20000 in
set_option maxHeartbeats 1000000 in
theorem l2Short_any (m : Nat) (w : World) (hm : m < 18446744073709551616) :
    Calls Try.prog 46 #[.int .u64 m] w fun e w' => e = .returned (.string ⟨(shortL m).toArray⟩) ∧ Below w.heap.size w w' := by
  obtain ⟨i0, hi, hz0, hz1, hz2⟩ := info_parts Try.infoByte
  have HM : Hid (m < 18446744073709551616) := hm
  clear hm
  go_enter Try.func46, Try.ntmps46
  go_wp2
  go_loopw [0, 3] (fun m' v' wr => ∃ (q : Nat) (pre : List UInt8), m' = .int .u64 q ∧ q ≤ m ∧ shortL m = pre ++ shortL q ∧ wr.ownsRow w.heap.size 5 1 v' pre.length (bc pre) ∧ Below w.heap.size w wr) (fun m' _ _ => (intOf m').toNat)
  case atStart =>
    refine ⟨m, [], rfl, Nat.le_refl _, rfl, ?_, (Below.refl _ _).alloc (Nat.le_refl _) _⟩
    exact ⟨by simp [bc], .inr ⟨w.heap.size, 0, #[], rfl, Nat.le_refl _, heap_alloc_new w _, Nat.le_refl _, by unfold maxLen; omega, rfl, by simp [bc]⟩⟩
  case round =>
    obtain ⟨q, pre, rfl, hq, hpre, hownr, hb⟩ := hrel
    have hlen := shortL_le HM.out
    rw [hpre, List.length_append] at hlen
    have hsz := hb.size
    have HPRE : Hid (shortL m = pre ++ shortL q) := hpre
    clear hpre
    by_cases h128 : 128 ≤ q
    · have hd : (127 : Int) < (q : Int) := by omega
      have HB : Hid (Value.int .u8 ((q : Int) % 128 + 128) = .int .u8 ((UInt8.ofNat (q % 128 + 128)).toNat : Int)) := by
        have : Value.int .u8 ((q : Int) % 128 + 128) = .int .u8 ((UInt8.ofNat (q % 128 + 128)).toNat : Int) := by
          congr 1
          simp only [UInt8.toNat_ofNat']
          omega
        exact this
      have HQ : Hid (IntKind.u64.wrap ((q : Int) / 128) = ((q / 128 : Nat) : Int)) := by
        have : IntKind.u64.wrap ((q : Int) / 128) = ((q / 128 : Nat) : Int) := by
          have := HM.out
          rw [wrap_u]; omega
        exact this
      go_wp2_with (at_builtin; refine wpList_append_own _ rfl _ _ 39 rfl w.heap.size 5 i0 _ 1 1 Try.underlying39 hi hz0 hz1 hz2 rfl (by decide) _ _ _ rfl (hownr.alloc _) ⟨wr.heap.size, 0, none⟩ 1 1 [.int .u8 ((q : Int) % 128 + 128)] rfl rfl (cell_one_new _ _ _) (by simp [Value.oneCell']) (by unfold maxLen; omega) (by omega) (by simp; omega) ?_; intro v2 w2 hown2 hgrow2 _)
      go_roundw
      case rel =>
        refine ⟨q / 128, pre ++ [UInt8.ofNat (q % 128 + 128)], by rw [HQ.out], by omega, ?_, ?_, (hb.alloc hsz _).grown hgrow2 (by simp; omega) (owns_base hownr)⟩
        · rw [HPRE.out, shortL_big h128]; simp
        · rw [List.length_append, bc_append]
          rw [HB.out] at hown2
          exact hown2
      case measure => rw [HQ.out]; simp [intOf]; omega
    · have hd : ¬ (127 : Int) < (q : Int) := by omega
      go_wp2_with (at_builtin; refine wpList_append_lies _ rfl _ _ 39 rfl w.heap.size 5 i0 _ 1 1 Try.underlying39 hi hz0 hz1 hz2 rfl (by decide) _ _ _ rfl (hownr.alloc _) ⟨wr.heap.size, 0, none⟩ 1 1 [.int .u8 (q : Int)] rfl rfl (cell_one_new _ _ _) (by simp [Value.oneCell']) (by omega) (by unfold maxLen; omega) (by omega) (by simp; omega) (wr.heap.size + 1) (by simp) ?_; intro g2 cap2 w2 hown2 hgrow2 hat2 hlt2; have hconv := back (l := shortL m) (by rw [HPRE.out, shortL_small (by omega), List.length_append]; rfl) (by rw [HPRE.out, shortL_small (by omega), bc_append, byte_low q (by omega)]; rfl) hown2)
      go_ret
      exact ⟨rfl, (hb.alloc hsz _).grown hgrow2 (by simp; omega) (owns_base hownr)⟩

theorem cat_arr (l r : List UInt8) : (⟨l.toArray⟩ : ByteArray) ++ ⟨r.toArray⟩ = ⟨(l ++ r).toArray⟩ := by
  apply ByteArray.ext
  simp

set_option maxRecDepth 20000 in
set_option maxHeartbeats 1000000 in
theorem l2Text_any (s : ByteArray) (w : World) (hs : s.size ≤ 1099511627776) :
    Calls Try.prog 26 #[.string s] w fun e w' => e = .returned (.string ⟨(shortL s.size ++ s.data.toList).toArray⟩) ∧ Below w.heap.size w w' := by
  have hsl := shortL_le (n := s.size) (by omega)
  go_enter Try.func26, Try.ntmps26
  go_wp2_with fail
  refine (l2Short_any s.size _ (by omega)).mono ?_
  rintro e w1 ⟨rfl, hb1⟩
  go_wp2
  go_ret
  refine ⟨?_, hb1⟩
  have e := cat_arr (shortL s.size) s.data.toList
  rw [Array.toArray_toList] at e
  rw [← e]
  rfl
end Go.Proofs.Ytdlbmjmhlcaalaa
