/-
  spec.Lines.
-/
import Derived.Test.YtiadabmbfpfbjaaLinesB
namespace Go.Proofs.Ytiadabmbfpfbjaa
open Go.RowKit

theorem lines_hit (l : List UInt8) (f i : Nat) (hfi : f ≤ i) (hi : l[i]? = some 10) (hn : ∀ k, f ≤ k → k < i → l[k]? ≠ some 10) :
    linesL (l.drop f) = (l.drop f).take (i + 1 - f) :: linesL (l.drop (i + 1)) := by
  have h := linesL_at (l.drop f) (i - f) (by rw [List.getElem?_drop]; rw [show f + (i - f) = i by omega]; exact hi) (fun k hk => by rw [List.getElem?_drop]; exact hn _ (by omega) (by omega))
  rw [h, List.drop_drop, show f + (i - f + 1) = i + 1 by omega, show i - f + 1 = i + 1 - f by omega]

theorem lines_end (l : List UInt8) (f : Nat) (hf : f < l.length) (hn : ∀ k, f ≤ k → l[k]? ≠ some 10) : linesL (l.drop f) = [l.drop f] :=
  linesL_none _ (fun e => by have := congrArg List.length e; simp at this; omega) (fun k => by rw [List.getElem?_drop]; exact hn _ (by omega))

set_option maxRecDepth 20000 in
set_option maxHeartbeats 4000000 in
theorem specLines_any (s : ByteArray) (w : World) :
    Calls Try.prog 43 #[.string s] w fun e w' => LinesPost (linesT s) w e w' := by
  obtain ⟨i0, hi, hz0, hz1, hz2⟩ := info_parts Try.infoStr
  have hl : s.data.toList.length = s.size := (Lib.size_eq s).symm
  have hnil : (w.alloc (.cells #[] 9)).ownsRow w.heap.size 9 1 (.slice (some ⟨w.heap.size, 0, none⟩) 0 0) 0 [] := ⟨by simp, .inr ⟨w.heap.size, 0, #[], rfl, Nat.le_refl _, heap_alloc_new w _, Nat.le_refl _, by unfold maxLen; omega, rfl, by simp⟩⟩
  by_cases hbig : s.size ≤ 1500
  · have hsm : ¬ (1500 : Int) < s.size := by omega
    rw [linesT, if_pos hbig]
    go_enter Try.func43, Try.ntmps43
    go_wp2
    go_loopw [3, 4, 5] (fun v f i wr => ∃ (ss : List (List UInt8)) (f' i' : Nat), f = .int .i64 f' ∧ i = .int .i64 i' ∧ f' ≤ i' ∧ i' ≤ s.size ∧ LKeep (linesL s.data.toList = ss ++ linesL (s.data.toList.drop f') ∧ (∀ k, f' ≤ k → k < i' → s.data.toList[k]? ≠ some 10)) ∧ ss.length ≤ f' ∧ wr.ownsRow w.heap.size 9 1 v (ss.map lnB).length ((ss.map lnB).map .string) ∧ Below w.heap.size w wr) (fun _ _ i _ => s.size - (intOf i).toNat)
    case atStart => exact ⟨[], 0, 0, rfl, rfl, Nat.le_refl _, Nat.zero_le _, ⟨by simp, fun k h1 h2 => by omega⟩, Nat.le_refl _, hnil, (Below.refl _ _).alloc (Nat.le_refl _) _⟩
    case round =>
      obtain ⟨ss, f, i, rfl, rfl, hfi, his, HK, hlen, hown, hB⟩ := hrel
      have hBs := hB.size
      have hm : (ss.map lnB).length ≤ 1500 := by simp; omega
      by_cases hlt : i < s.size
      · have hlt' : (i : Int) < s.size := by omega
        have hget : s.data.toList[i]? = some s[i] := by
          rw [List.getElem?_eq_getElem (by rw [hl]; exact hlt)]
          rfl
        by_cases hc : s[i] = 10
        · have HH : LKeep (s.data.toList[i]? = some 10) := ⟨by rw [hget, hc]⟩
          clear hget
          have c1 : (f : Int) ≤ i + 1 := by omega
          have c2 : (i + 1 : Int) ≤ s.size := by omega
          go_wp2_with (at_builtin; refine wpList_append_own _ rfl _ _ 68 rfl w.heap.size 9 i0 _ 1 16 Try.underlying68 hi hz0 hz1 hz2 rfl (by decide) _ _ _ rfl (hown.alloc _) ⟨wr.heap.size, 0, none⟩ 1 1 [.string (s.extract f (i + 1))] rfl rfl (cell_one_new _ _ _) (by simp [Value.oneCell']) (by unfold maxLen; omega) (by omega) (by simp; omega) ?_; intro v4 w4 ho4 hg4 _)
          have hx := lines_hit s.data.toList f i hfi HH.out HK.out.2
          refine ⟨⟨ss ++ [(s.data.toList.drop f).take (i + 1 - f)], i + 1, i + 1, by congr 1, by congr 1, Nat.le_refl _, by omega, ⟨?_, fun k h1 h2 => by omega⟩, by simp; omega, ?_, ?_⟩, by simp only [intOf]; omega⟩
          · rw [HK.out.1, hx]; simp
          · rw [List.map_append, List.length_append, List.map_append]
            rw [extract_lnB] at ho4
            exact ho4
          · exact (hB.alloc hBs _).grown hg4 (by simp; omega) (owns_base hown)
        · have hcb : ((s[i].toNat : Int) == 10) = false := by
            have : s[i].toNat ≠ 10 := fun h => hc (UInt8.toNat_inj.1 h)
            simp; omega
          have HH : LKeep (s.data.toList[i]? ≠ some 10) := ⟨by rw [hget]; simp; exact hc⟩
          clear hget hc
          go_wp2
          refine ⟨⟨ss, f, i + 1, rfl, by congr 1, by omega, by omega, ⟨HK.out.1, fun k h1 h2 => ?_⟩, hlen, hown, hB⟩, by simp only [intOf]; omega⟩
          by_cases hk : k = i
          · rw [hk]; exact HH.out
          · exact HK.out.2 k h1 (by omega)
      · obtain rfl : i = s.size := by omega
        by_cases hf : f < s.size
        · have hf' : (f : Int) < s.size := by omega
          have hx := lines_end s.data.toList f (by omega) (fun k hk => by
            by_cases h : k < s.size
            · exact HK.out.2 k hk h
            · rw [List.getElem?_eq_none (by omega)]; simp)
          have HX : LKeep (linesL (s.data.toList.drop f) = [s.data.toList.drop f]) := ⟨hx⟩
          clear hx
          go_wp2_with (at_builtin; refine wpList_append_own _ rfl _ _ 68 rfl w.heap.size 9 i0 _ 1 16 Try.underlying68 hi hz0 hz1 hz2 rfl (by decide) _ _ _ rfl (hown.alloc _) ⟨wr.heap.size, 0, none⟩ 1 1 [.string (s.extract f s.size)] rfl rfl (cell_one_new _ _ _) (by simp [Value.oneCell']) (by unfold maxLen; omega) (by omega) (by simp; omega) ?_; intro v4 w4 ho4 hg4 _)
          have hp : linesB s = ss.map lnB ++ [s.extract f s.size] := by
            rw [linesB, HK.out.1, HX.out, extract_lnB, List.take_of_length_le (by rw [List.length_drop, hl]; exact Nat.le_refl _)]
            simp
          obtain ⟨ad, cp, rfl⟩ := owns_slice ho4
          go_ret
          rw [hp]
          refine ⟨ad, cp, ?_, ?_, (hB.alloc hBs _).grown hg4 (by simp; omega) (owns_base hown)⟩
          · rw [List.length_append]; rfl
          · rw [List.length_append, List.map_append]; exact ho4
        · obtain rfl : f = s.size := by omega
          have hp : linesB s = ss.map lnB := by
            rw [linesB, HK.out.1, List.drop_of_length_le (by omega)]
            simp [linesL]
          have HPL : LKeep (linesB s = ss.map lnB) := ⟨hp⟩
          clear hp
          obtain ⟨ad, cp, rfl⟩ := owns_slice hown
          go_wp2
          go_ret
          rw [HPL.out]
          exact ⟨ad, cp, rfl, hown, hB⟩
  · have hsm : (1500 : Int) < s.size := by omega
    rw [linesT, if_neg hbig]
    go_enter Try.func43, Try.ntmps43
    go_wp2
    go_ret
    exact ⟨_, _, rfl, hnil, (Below.refl _ _).alloc (Nat.le_refl _) _⟩
end Go.Proofs.Ytiadabmbfpfbjaa
