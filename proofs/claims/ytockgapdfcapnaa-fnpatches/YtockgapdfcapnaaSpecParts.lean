/-
  spec.l4Parts: a text cut at each slash.
-/
import Derived.Test.YtockgapdfcapnaaSplitP
import Derived.Test.YtockgapdfcapnaaStrsB
import Derived.Test.YtockgapdfcapnaaBase
import Derived.Maps.AppendAt
namespace Go.Proofs.Ytockgapdfcapnaa
open Go.RowKit

theorem split_hit (l : List UInt8) (f i : Nat) (hfi : f ≤ i) (hi : l[i]? = some 47) (hn : ∀ k, f ≤ k → k < i → l[k]? ≠ some 47) :
    splitS (l.drop f) = (l.drop f).take (i - f) :: splitS (l.drop (i + 1)) := by
  have h := splitS_at (l.drop f) (i - f) (by rw [List.getElem?_drop]; rw [show f + (i - f) = i by omega]; exact hi) (fun k hk => by rw [List.getElem?_drop]; exact hn _ (by omega) (by omega))
  rw [h, List.drop_drop, show f + (i - f + 1) = i + 1 by omega]

theorem split_end (l : List UInt8) (f : Nat) (hn : ∀ k, f ≤ k → l[k]? ≠ some 47) : splitS (l.drop f) = [l.drop f] :=
  splitS_none _ (fun k => by rw [List.getElem?_drop]; exact hn _ (by omega))

theorem splitS_le (l : List UInt8) : (splitS l).length ≤ l.length + 1 := by
  have h := splitS_length l
  have : ∀ ls : List (List UInt8), ls.length ≤ (ls.map (fun p => p.length + 1)).sum := by
    intro ls
    induction ls with
    | nil => simp
    | cons a t ih => simp; omega
  have := this (splitS l)
  omega

set_option maxRecDepth 20000 in
set_option maxHeartbeats 4000000 in
theorem l4Parts_any (s : ByteArray) (hs : s.size ≤ 1000000) (w : World) :
    Calls Try.prog 83 #[.string s] w fun e w' => ∃ ad cp, e = .returned (.slice ad (partsB s).length cp) ∧ w'.ownsRow w.heap.size 9 1 (.slice ad (partsB s).length cp) (partsB s).length ((partsB s).map .string) ∧ Below w.heap.size w w' := by
  obtain ⟨i0, hi, hz0, hz1, hz2⟩ := info_parts Try.infoStr
  have hl : s.data.toList.length = s.size := (Lib.size_eq s).symm
  have hnil : (w.alloc (.cells #[] 9)).ownsRow w.heap.size 9 1 (.slice (some ⟨w.heap.size, 0, none⟩) 0 0) 0 [] := ⟨by simp, .inr ⟨w.heap.size, 0, #[], rfl, Nat.le_refl _, heap_alloc_new w _, Nat.le_refl _, by unfold maxLen; omega, rfl, by simp⟩⟩
  go_enter Try.func83, Try.ntmps83
  go_wp2
  go_loopw [3, 4, 5] (fun v f i wr => ∃ (ss : List (List UInt8)) (f' i' : Nat), f = .int .i64 f' ∧ i = .int .i64 i' ∧ f' ≤ i' ∧ i' ≤ s.size ∧ Keep (splitS s.data.toList = ss ++ splitS (s.data.toList.drop f') ∧ (∀ k, f' ≤ k → k < i' → s.data.toList[k]? ≠ some 47)) ∧ ss.length ≤ f' ∧ wr.ownsRow w.heap.size 9 1 v (ss.map mkB).length ((ss.map mkB).map .string) ∧ Below w.heap.size w wr) (fun _ _ i _ => s.size - (intOf i).toNat)
  case atStart => exact ⟨[], 0, 0, rfl, rfl, Nat.le_refl _, Nat.zero_le _, ⟨by simp, fun k h1 h2 => by omega⟩, Nat.le_refl _, hnil, (Below.refl _ _).alloc (Nat.le_refl _) _⟩
  case round =>
    obtain ⟨ss, f, i, rfl, rfl, hfi, his, HK, hlen, hown, hB⟩ := hrel
    have hBs := hB.size
    have hm : (ss.map mkB).length ≤ 1000000 := by simp; omega
    by_cases hlt : i < s.size
    · have hlt' : (i : Int) < s.size := by omega
      have hget : s.data.toList[i]? = some s[i] := by
        rw [List.getElem?_eq_getElem (by rw [hl]; exact hlt)]
        rfl
      by_cases hc : s[i] = 47
      · have HH : Keep (s.data.toList[i]? = some 47) := ⟨by rw [hget, hc]⟩
        clear hget
        go_wp2_with (at_builtin; refine wpList_append_own _ rfl _ _ 23 rfl w.heap.size 9 i0 _ 1 16 Try.underlying23 hi hz0 hz1 hz2 rfl (by decide) _ _ _ rfl (hown.alloc _) ⟨wr.heap.size, 0, none⟩ 1 1 [.string (s.extract f i)] rfl rfl (cell_one_new _ _ _) (by simp [Value.oneCell']) (by unfold maxLen; omega) (by omega) (by simp; omega) ?_; intro v4 w4 ho4 hg4 _)
        have hx := split_hit s.data.toList f i hfi HH.out HK.out.2
        refine ⟨⟨ss ++ [(s.data.toList.drop f).take (i - f)], i + 1, i + 1, by congr 1, by congr 1, Nat.le_refl _, by omega, ⟨?_, fun k h1 h2 => by omega⟩, by simp; omega, ?_, ?_⟩, by simp only [intOf]; omega⟩
        · rw [HK.out.1, hx]; simp
        · rw [List.map_append, List.length_append, List.map_append]
          rw [extract_mkB] at ho4
          exact ho4
        · exact (hB.alloc hBs _).grown hg4 (by simp; omega) (owns_base hown)
      · have hcb : ((s[i].toNat : Int) == 47) = false := by
          have : s[i].toNat ≠ 47 := fun h => hc (UInt8.toNat_inj.1 h)
          simp; omega
        have HH : Keep (s.data.toList[i]? ≠ some 47) := ⟨by rw [hget]; simp; exact hc⟩
        clear hget hc
        go_wp2
        refine ⟨⟨ss, f, i + 1, rfl, by congr 1, by omega, by omega, ⟨HK.out.1, fun k h1 h2 => ?_⟩, hlen, hown, hB⟩, by simp only [intOf]; omega⟩
        by_cases hk : k = i
        · rw [hk]; exact HH.out
        · exact HK.out.2 k h1 (by omega)
    · obtain rfl : i = s.size := by omega
      have hfi' : (f : Int) ≤ s.size := by omega
      have hx := split_end s.data.toList f (fun k hk => by
        by_cases h : k < s.size
        · exact HK.out.2 k hk h
        · rw [List.getElem?_eq_none (by omega)]; simp)
      have HX : Keep (splitS (s.data.toList.drop f) = [s.data.toList.drop f]) := ⟨hx⟩
      clear hx
      go_wp2_with (at_builtin; refine wpList_append_own _ rfl _ _ 23 rfl w.heap.size 9 i0 _ 1 16 Try.underlying23 hi hz0 hz1 hz2 rfl (by decide) _ _ _ rfl (hown.alloc _) ⟨wr.heap.size, 0, none⟩ 1 1 [.string (s.extract f s.size)] rfl rfl (cell_one_new _ _ _) (by simp [Value.oneCell']) (by unfold maxLen; omega) (by omega) (by simp; omega) ?_; intro v4 w4 ho4 hg4 _)
      have hp : partsB s = ss.map mkB ++ [s.extract f s.size] := by
        rw [partsB, HK.out.1, HX.out, extract_mkB, List.take_of_length_le (by rw [List.length_drop, hl]; exact Nat.le_refl _)]
        simp
      have hpl : (partsB s).length = (ss.map mkB).length + 1 := by rw [hp]; simp
      obtain ⟨ad, cp, rfl⟩ := owns_slice ho4
      go_ret
      rw [hp, List.length_append, List.map_append]
      exact ⟨ad, cp, rfl, ho4, (hB.alloc hBs _).grown hg4 (by simp; omega) (owns_base hown)⟩
end Go.Proofs.Ytockgapdfcapnaa
