/-
  spec.l7Text; stretches of lines.
-/
import Derived.Test.YtiadabmbfpfbjaaLinesB
namespace Go.Proofs.Ytiadabmbfpfbjaa
open Go.RowKit

/-- A slice of lines that is read. -/
structure RdL (w : World) (v : Value) (ls : List ByteArray) : Prop where
  at_ : ∃ a cap, v = .slice a ls.length cap ∧ ls.length ≤ cap ∧ SS w a ls
theorem RdL.below {w w' : World} {v : Value} {ls : List ByteArray} (h : RdL w v ls) (hb : Below w.heap.size w w') : RdL w' v ls := by
  obtain ⟨a, cap, e, hc, hp⟩ := h.at_
  exact ⟨a, cap, e, hc, hp.below hb⟩

set_option maxRecDepth 100000 in
/-- A stretch of a slice of lines. -/
theorem mid_at {w : World} {a : Option Addr} {cap : Nat} {ls : List ByteArray} {i j : Nat} (hc : ls.length ≤ cap) (h : SS w a ls) (hij : i ≤ j) (hj : j ≤ ls.length) :
    ∃ v, (∀ w1, (Instr.sliceAt 68 (.slice a ls.length cap) (some (.int .i64 (i : Int))) (some (.int .i64 (j : Int))) none).run Try.prog w1 = .ok v w1) ∧ RdL w v ((ls.take j).drop i) := by
  refine ⟨sliced a i j cap 1, fun w1 => ?_, ⟨?_⟩⟩
  · rw [run_sliceAt_slice w1 _ _ _ _ _ Try.underlying68, run_slice_lh w1 _ _ _ _ Try.underlying68 .i64 .i64 i j (by omega) (by omega) (by omega)]
    have hz : (sizeOf (Try.prog.elem 68)).run Try.prog w1 = .ok 1 w1 := by kernel_rfl
    rw [hz]
    rfl
  · have hl : ((ls.take j).drop i).length = j - i := by simp; omega
    refine ⟨if cap = i then a else a.map (·.add (i * 1)), cap - i, ?_, by rw [hl]; omega, ?_⟩
    · unfold sliced
      rw [hl]
    · by_cases h0 : j - i = 0
      · left
        exact List.eq_nil_of_length_eq_zero (by omega)
      · obtain ⟨b, o, rfl, hcell⟩ := h.at (k := 0) (by omega)
        right
        refine ⟨b, o + i, ?_, fun k hk => ?_⟩
        · rw [if_neg (by omega)]
          simp [Addr.add]
        · rw [hl] at hk
          have := hcell (i + k) (by omega)
          rw [show o + i + k = o + (i + k) by omega, this]
          simp

theorem Try.infoByteM : (Try.prog.info? 5).map (fun i => (i.zero, i.size, i.bytes)) = some (some (.int .u8 0), 1, 1) := by kernel_rfl

theorem conv_bk {w : World} {base : Nat} {v : Value} {l : List UInt8} {n : Nat} {xs : List Value} (hn : n = l.length) (hx : xs = bc l) (h : w.ownsRow base 5 1 v n xs) : (convert 22 9 v).run Try.prog w = .ok (.string (lnB l)) w := by
  subst hn hx
  rcases h.2 with ⟨hv, h0⟩ | ⟨g, cap, cur, hv, _⟩
  · obtain rfl : l = [] := List.eq_nil_of_length_eq_zero h0
    subst hv
    exact run_convert_bytes_nil (P := Try.prog) w 22 5 Try.underlying22 Try.underlying5 0 0 9 Try.underlying9
  · subst hv
    exact run_convert_bytes_back (P := Try.prog) w 22 9 5 ⟨g, 0, none⟩ cap l Try.underlying22 Try.underlying5 Try.underlying9 (fun j hj => by
      rw [Go.WideShapes.add_plain, Nat.zero_add, h.cellAt j (by omega)]
      simp [bc, hj])

/-- Lines, one behind the other. -/
def catL (ls : List ByteArray) : List UInt8 := (ls.map (fun l => l.data.toList)).flatten
theorem catL_take {ls : List ByteArray} {k : Nat} (h : k < ls.length) : catL (ls.take (k + 1)) = catL (ls.take k) ++ ls[k].data.toList := by
  unfold catL
  rw [List.take_succ_eq_append_getElem h, List.map_append, List.flatten_append]
  simp only [List.map_cons, List.map_nil, List.flatten_cons, List.flatten_nil, List.append_nil]
theorem catL_le (ls : List ByteArray) (k : Nat) : (catL (ls.take k)).length ≤ (catL ls).length := sub_flat ((List.take_sublist k ls).map _)

set_option maxRecDepth 20000 in
set_option maxHeartbeats 2000000 in
theorem l7Text_any (v : Value) (ls : List ByteArray) (w : World) (h : RdL w v ls) (hl : ls.length ≤ 100000) (hs : (catL ls).length ≤ 1000000) :
    Calls Try.prog 44 #[v] w fun e w' => e = .returned (.string (lnB (catL ls))) ∧ Below w.heap.size w w' := by
  obtain ⟨ti, hti, hz0, hz1, hz2⟩ := info_parts Try.infoByteM
  obtain ⟨a, cap, rfl, hc, hss⟩ := h.at_
  have hnil : (w.alloc (.cells #[] 5)).ownsRow w.heap.size 5 1 (.slice (some ⟨w.heap.size, 0, none⟩) 0 0) 0 [] := ⟨by simp, .inr ⟨w.heap.size, 0, #[], rfl, Nat.le_refl _, heap_alloc_new w _, Nat.le_refl _, by unfold maxLen; omega, rfl, by simp⟩⟩
  go_enter Try.func44, Try.ntmps44
  go_wp2
  go_loopw [3, 4] (fun v i wr => ∃ k : Nat, k ≤ ls.length ∧ i = .int .i64 (k : Int) ∧ wr.ownsRow w.heap.size 5 1 v (catL (ls.take k)).length (bc (catL (ls.take k))) ∧ Below w.heap.size w wr) (fun _ i _ => ls.length - (intOf i).toNat)
  case atStart => exact ⟨0, Nat.zero_le _, rfl, by rw [List.take_zero]; exact hnil, (Below.refl _ _).alloc (Nat.le_refl _) _⟩
  case round =>
    obtain ⟨k, hk, rfl, hown, hb⟩ := hrel
    have hbs := hb.size
    by_cases hlt : k < ls.length
    · obtain ⟨b, off, rfl, hcl⟩ := (hss.below hb).at hlt
      have hck := hcl k hlt
      have HT : LKeep (catL (ls.take (k + 1)) = catL (ls.take k) ++ ls[k].data.toList) := ⟨catL_take hlt⟩
      have h1 := catL_le ls k
      have h2 := catL_le ls (k + 1)
      rw [HT.out, List.length_append, ← Lib.size_eq] at h2
      clear hcl
      go_wp2_with (at_builtin; refine Go.Lib.wpList_append_own_string _ rfl _ _ 22 9 rfl w.heap.size 5 ti Try.underlying22 Try.underlying9 hti hz0 hz1 hz2 _ _ _ rfl hown ls[k] rfl (by unfold maxLen; omega) (by omega) (by omega) ?_; intro v2 w2 hown2 hgrow2 _)
      go_roundw
      case rel =>
        refine ⟨k + 1, by omega, by go_num, ?_, hb.grown hgrow2 hbs (owns_base hown)⟩
        rw [HT.out, List.length_append, bc_append, ← Lib.size_eq]
        exact hown2
      case measure => simp [intOf]; omega
    · obtain rfl : k = ls.length := by omega
      rw [List.take_length] at hown
      have hcv := conv_bk rfl rfl hown
      go_wp2
      go_ret
      exact ⟨rfl, hb⟩
theorem catL_lines (s : ByteArray) : catL (linesB s) = s.data.toList := by
  unfold catL linesB
  rw [List.map_map]
  have : ((fun l : ByteArray => l.data.toList) ∘ lnB) = id := by funext l; exact lnB_list l
  rw [this, List.map_id, linesL_flat]
end Go.Proofs.Ytiadabmbfpfbjaa
