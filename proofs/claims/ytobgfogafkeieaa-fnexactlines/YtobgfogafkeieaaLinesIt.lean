/-
  strings.Lines and the function that it gives: the lines of a text, one by one; a loop over them.
-/
import Derived.RangeFuncNested
import Derived.RangeFuncBound
import Derived.RangeFuncCalls
import Derived.RangeFuncLeaves
import Derived.RangeFuncFrom
import Derived.Shelf.Abstract
import Derived.Shelf.RegionOpen
import Derived.WalkKit
import Derived.OwnWalkIn
import Derived.TacticsInMore
import Derived.LoopNIn
import Derived.LoopIn
import Derived.Lib.Bytealg
import Derived.Laws.Externs
import Derived.Test.YtobgfogafkeieaaLinesP
namespace Go.Proofs.Ytobgfogafkeieaa
open Go.RowKit Go.Shelf

attribute [local go_sem] Oper.semAt_some

set_option maxHeartbeats 1000000 in
set_option maxRecDepth 100000 in
theorem nlByte_any (s : ByteArray) (w : World) :
    Calls Try.prog 37 #[.string s, .int .u8 10] w fun e w' => e = .returned (.int .i64 (Lib.indexByte s.data.toList 10)) ∧ w' = w := by
  go_enter Try.func37, Try.ntmps37
  go_wp2
  rw [run_callFunc_extern Try.func38 (by kernel_rfl) (by kernel_rfl) (by kernel_rfl) (e := Extern.BytealgIndexByte.indexByte) (by kernel_rfl), Lib.run_indexByteString]
  simp only [Result.andThen]
  rw [Oper.upon_value]
  go_wp2
  go_ret
  exact ⟨rfl, rfl⟩

set_option maxHeartbeats 1000000 in
theorem nlIndex_any (s : ByteArray) (w : World) :
    Calls Try.prog 34 #[.string s, .int .u8 10] w fun e w' => e = .returned (.int .i64 (Lib.indexByte s.data.toList 10)) ∧ w' = w := by
  go_enter Try.func34, Try.ntmps34
  go_wp2_with (go_at_call 37; refine (nlByte_any _ _).mono ?_; rintro e w' ⟨rfl, rfl⟩)
  go_ret
  exact ⟨rfl, rfl⟩

def boxFar (Bs : Nat) (w : World) : Nat := match w.cell? ⟨Bs, 0, none⟩ with
  | some (.string r) => r.size
  | _ => 0
theorem boxFar_of {Bs : Nat} {w : World} {r : ByteArray} (h : w.cell? ⟨Bs, 0, none⟩ = some (.string r)) : boxFar Bs w = r.size := by simp [boxFar, h]

theorem frozen_block {w w' : World} {b i : Nat} (h : w'.heap[b]? = w.heap[b]?) : w'.frozen? ⟨b, i, none⟩ = w.frozen? ⟨b, i, none⟩ := by simp [World.frozen?, h]

set_option maxRecDepth 100000 in
set_option maxHeartbeats 2000000 in
theorem lines1_in (n l Bs : Nat) (s : ByteArray) (hs : s.size ≤ 1099511627776) (J : List ByteArray → World → Prop) (W : World)
    (hJd : ∀ pre W1, J pre W1 → J pre (World.drew W1)) (hJs : ∀ pre W1 v, J pre W1 → J pre (World.setCell W1 ⟨Bs, 0, none⟩ v))
    (hY : ∀ pre x W1, J pre W1 → (∃ r, linesB s = (pre ++ [x]) ++ r) → YieldAt Fence.wide (n - 1) Try.prog l #[.string x] W1 fun e W' =>
      e = .returned (.bool true) ∧ J (pre ++ [x]) W' ∧ W'.heap[Bs]? = W1.heap[Bs]?)
    (hBs : W.cell? ⟨Bs, 0, none⟩ = some (.string s)) (hBf : W.frozen? ⟨Bs, 0, none⟩ = false) (h0 : J [] W) :
    CallsIn Fence.wide n Try.prog 33 #[.func (.yield l) #[] #[], .pointer (some ⟨Bs, 0, none⟩)] W fun e W' => (∃ v, e = .returned v) ∧ J (linesB s) W' := by
  refine callsIn_of_wp Try.func33 rfl trivial ?_ rfl
  simp only [Try.ntmps33, List.size_toArray, List.length_cons, List.length_nil, Nat.reduceAdd, Nat.reduceSub, Array.replicate_succ, Array.replicate_zero, List.push_toArray, List.append_toArray, List.nil_append, List.cons_append]
  gi_wp2
  gi_loopw [3, 4] (fun _ _ wr => ∃ (pre : List ByteArray) (rs : ByteArray), wr.cell? ⟨Bs, 0, none⟩ = some (.string rs) ∧ wr.frozen? ⟨Bs, 0, none⟩ = false ∧ rs.size ≤ 1099511627776 ∧ LKeep (linesB s = pre ++ linesB rs) ∧ J pre wr)
    (fun _ _ wr => boxFar Bs wr)
  case atStart => exact ⟨[], s, hBs, hBf, hs, ⟨by simp⟩, h0⟩
  case round =>
    obtain ⟨pre, rs, hc, hf, hrs, HP, hJr⟩ := hrel
    have HF : LKeep (boxFar Bs wr = rs.size) := ⟨boxFar_of hc⟩
    by_cases hz : 0 < rs.size
    · rcases nl_cases rs with hix | ⟨i, hix, hroom⟩
      · have hl := linesB_last hix hz
        have HL : LKeep (linesB s = (pre ++ [rs]) ++ linesB ⟨#[]⟩) := ⟨by rw [HP.out, hl, linesB_none]; simp⟩
        obtain ⟨fn, tmps, assign, body, hy, hR⟩ := hY pre rs (wr.setCell ⟨Bs, 0, none⟩ (.string ⟨#[]⟩)) (hJs _ _ _ hJr) ⟨_, HL.out⟩
        have hcs : (wr.setCell ⟨Bs, 0, none⟩ (.string ⟨#[]⟩)).cell? ⟨Bs, 0, none⟩ = some (.string ⟨#[]⟩) := World.cell?_setCell_same' _ _ _ (by rw [hc]; rfl)
        have hfs : (wr.setCell ⟨Bs, 0, none⟩ (.string ⟨#[]⟩)).frozen? ⟨Bs, 0, none⟩ = false := by rw [World.frozen?_setCell]; exact hf
        clear hl HP
        gi_wp2_with (refine ⟨trivial, fun h => Bool.noConfusion h, ?_⟩; gi_at_call 34; refine (callsIn_wide.2 (nlIndex_any rs wr)).mono ?_; rintro e w1 ⟨rfl, rfl⟩; rw [hix])
        refine ⟨fun h => Bool.noConfusion h, hR.mono ?_⟩
        rintro e W3 ⟨rfl, hJ3, hk3⟩
        gi_wp2
        have hc3 := (World.cell?_of_block hk3 : W3.cell? ⟨Bs, 0, none⟩ = _).trans hcs
        go_roundw
        case rel => exact ⟨pre ++ [rs], ⟨#[]⟩, hc3, (frozen_block hk3).trans hfs, by decide, HL, hJ3⟩
        case measure =>
          rw [boxFar_of hc3, HF.out]
          exact hz
      · have hl := linesB_cut hix
        have HL : LKeep (linesB s = (pre ++ [rs.extract 0 (i + 1)]) ++ linesB (rs.extract (i + 1) rs.size)) := ⟨by rw [HP.out, hl]; simp⟩
        obtain ⟨fn, tmps, assign, body, hy, hR⟩ := hY pre (rs.extract 0 (i + 1)) (wr.setCell ⟨Bs, 0, none⟩ (.string (rs.extract (i + 1) rs.size))).drew (hJd _ _ (hJs _ _ _ hJr)) ⟨_, HL.out⟩
        have hcs : (wr.setCell ⟨Bs, 0, none⟩ (.string (rs.extract (i + 1) rs.size))).drew.cell? ⟨Bs, 0, none⟩ = some (.string (rs.extract (i + 1) rs.size)) := (World.cell?_setCell_same' wr ⟨Bs, 0, none⟩ _ (by rw [hc]; rfl) : (wr.setCell ⟨Bs, 0, none⟩ _).cell? _ = _)
        have hfs : (wr.setCell ⟨Bs, 0, none⟩ (.string (rs.extract (i + 1) rs.size))).drew.frozen? ⟨Bs, 0, none⟩ = false := (World.frozen?_setCell wr _ _ _).trans hf
        have HZ : LKeep ((rs.extract (i + 1) rs.size).size < rs.size) := ⟨by simp; omega⟩
        have c1 : (0 : Int) ≤ ↑i := by omega
        have c2 : (↑i : Int) ≤ ↑rs.size := by omega
        have c3 : (0 : Int) ≤ ↑i + 1 := by omega
        have c4 : (↑i + 1 : Int) ≤ ↑rs.size := by omega
        have hw1 : IntKind.i64.wrap ((i : Int) + 1) = (i : Int) + 1 := by rw [IntKind.wrap_i64]; omega
        clear hl HP
        gi_wp2_with (refine ⟨trivial, fun h => Bool.noConfusion h, ?_⟩; gi_at_call 34; refine (callsIn_wide.2 (nlIndex_any rs wr)).mono ?_; rintro e w1 ⟨rfl, rfl⟩; rw [hix])
        gi_region
        all_goals (try gi_wp2)
        refine ⟨fun h => Bool.noConfusion h, hR.mono ?_⟩
        rintro e W3 ⟨rfl, hJ3, hk3⟩
        gi_wp2
        have hc3 := (World.cell?_of_block hk3 : W3.cell? ⟨Bs, 0, none⟩ = _).trans hcs
        have := HZ.out
        go_roundw
        case rel => exact ⟨pre ++ [rs.extract 0 (i + 1)], _, hc3, (frozen_block hk3).trans hfs, by omega, HL, hJ3⟩
        case measure =>
          rw [boxFar_of hc3, HF.out]
          exact this
    · have hz0 : rs.size = 0 := by omega
      have he : rs = ⟨#[]⟩ := by
        cases rs with
        | mk d => simp [ByteArray.size] at hz0; simp [hz0]
      subst he
      have HE : LKeep (linesB s = pre) := ⟨by rw [HP.out, linesB_none]; simp⟩
      clear HP hz0
      gi_wp2
      go_end0
      exact ⟨⟨_, rfl⟩, by rw [HE.out]; exact hJr⟩

set_option maxHeartbeats 400000 in
theorem linesSeq_any (s : ByteArray) (w : World) :
    Calls Try.prog 23 #[.string s] w fun e w' => e = .returned (.func (.func 33) #[] #[.pointer (some ⟨w.heap.size, 0, none⟩)]) ∧ w' = w.alloc (.cells #[.string s] 9) := by
  go_enter Try.func23, Try.ntmps23
  go_wp2
  go_ret
  exact ⟨rfl, rfl⟩
end Go.Proofs.Ytobgfogafkeieaa
