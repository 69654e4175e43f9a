/-
  strings.Cut at the separator of one space (made by program from CutAt).
-/
import Derived.Test.YtlgdfeacnalekaaDoorRows
import Derived.WalkKit
import Derived.Lib.CutLaws
import Derived.Lib.Bytealg
import Derived.Lib.IndexLaws
import Derived.Laws.Strings3
import Derived.Laws.Externs
import Derived.Deep.Draws
namespace Go.Proofs.YtlgdfeacnalekaaDoor
open Go.RowKit Go.Lib

set_option maxHeartbeats 1000000 in
set_option maxRecDepth 100000 in
theorem indexByteS_any (s : ByteArray) (w : World) :
    Calls Tryd.prog 57 #[.string s, .int .u8 32] w fun e w' => e = .returned (.int .i64 (Lib.indexByte s.data.toList 32)) ∧ w' = w := by
  go_enter Tryd.func57, Tryd.ntmps57
  go_wp2
  rw [run_callFunc_extern Tryd.func68 (by kernel_rfl) (by kernel_rfl) (by kernel_rfl) (e := Extern.BytealgIndexByte.indexByte) (by kernel_rfl), Lib.run_indexByteString]
  simp only [Result.andThen]
  rw [Oper.upon_value]
  go_wp2
  go_ret
  exact ⟨rfl, rfl⟩

set_option maxHeartbeats 1000000 in
set_option maxRecDepth 100000 in
theorem indexS_any (s : ByteArray) (w : World) :
    Calls Tryd.prog 66 #[.string s, .string ⟨#[32]⟩] w fun e w' => e = .returned (.int .i64 (Lib.indexByte s.data.toList 32)) ∧ w' = w := by
  go_enter Tryd.func66, Tryd.ntmps66
  go_wp2_with (go_at_call 57; refine (indexByteS_any _ _).mono ?_; rintro e w' ⟨rfl, rfl⟩)
  · have h : ([32] == s.toList) = true := by assumption
    go_ret
    refine ⟨?_, rfl⟩
    have e : s.data.toList = [32] := by rw [← Lib.toList_data]; exact (beq_iff_eq.1 h).symm
    rw [e]
    rfl
  · go_ret
    exact ⟨rfl, rfl⟩

/-- Where the first space stands. -/
theorem space_cases (s : ByteArray) : Lib.indexByte s.data.toList 32 = -1 ∨ ∃ i : Nat, Lib.indexByte s.data.toList 32 = i ∧ i + 1 ≤ s.size := by
  have h := Lib.indexB_cases s ⟨#[32]⟩
  have e : Lib.indexB s ⟨#[32]⟩ = Lib.indexByte s.data.toList 32 := Lib.index_one s.data.toList 32
  rw [e] at h
  exact h

def cutHeadS (s : ByteArray) : ByteArray := if Lib.indexByte s.data.toList 32 = -1 then s else s.extract 0 (Lib.indexByte s.data.toList 32).toNat
def cutRestS (s : ByteArray) : ByteArray := if Lib.indexByte s.data.toList 32 = -1 then ByteArray.empty else s.extract ((Lib.indexByte s.data.toList 32).toNat + 1) s.size
def cutMoreS (s : ByteArray) : Bool := !(Lib.indexByte s.data.toList 32 == -1)

set_option maxHeartbeats 1000000 in
set_option maxRecDepth 100000 in
theorem cutLiteS_any (s : ByteArray) (w : World) (hs : s.size ≤ 1099511627776) :
    Calls Tryd.prog 55 #[.string s, .string ⟨#[32]⟩] w fun e w' => e = .returned (.tuple #[.string (cutHeadS s), .string (cutRestS s), .bool (cutMoreS s)]) ∧ ∃ n, w' = w.drewN n := by
  rcases space_cases s with hix | ⟨i, hix, hroom⟩
  · have e1 : cutHeadS s = s := by simp [cutHeadS, hix]
    have e2 : cutRestS s = ByteArray.empty := by simp [cutRestS, hix]
    have e3 : cutMoreS s = false := by simp [cutMoreS, hix]
    rw [e1, e2, e3]
    go_enter Tryd.func55, Tryd.ntmps55
    go_wp2_with (go_at_call 66; refine (indexS_any _ _).mono ?_; rintro e w' ⟨rfl, rfl⟩; rw [hix])
    go_ret3
    exact ⟨rfl, 0, rfl⟩
  · have e1 : cutHeadS s = s.extract 0 i := by simp [cutHeadS, hix]
    have e2 : cutRestS s = s.extract (i + 1) s.size := by simp [cutRestS, hix]
    have e3 : cutMoreS s = true := by simp [cutMoreS, hix]
    rw [e1, e2, e3]
    have c1 : (0 : Int) ≤ ↑i := by omega
    have c2 : (↑i : Int) ≤ ↑s.size := by omega
    have c3 : (0 : Int) ≤ ↑i + 1 := by omega
    have c4 : (↑i + 1 : Int) ≤ ↑s.size := by omega
    go_enter Tryd.func55, Tryd.ntmps55
    go_wp2_with (go_at_call 66; refine (indexS_any _ _).mono ?_; rintro e w' ⟨rfl, rfl⟩; rw [hix])
    have hw1 : IntKind.i64.wrap ((i : Int) + 1) = (i : Int) + 1 := by rw [IntKind.wrap_i64]; omega
    go_region
    all_goals (try go_wp2)
    go_wp2
    go_ret3
    exact ⟨rfl, 1, rfl⟩

set_option maxHeartbeats 1000000 in
theorem cutS_any (s : ByteArray) (w : World) (hs : s.size ≤ 1099511627776) :
    Calls Tryd.prog 46 #[.string s, .string ⟨#[32]⟩] w fun e w' => e = .returned (.tuple #[.string (cutHeadS s), .string (cutRestS s), .bool (cutMoreS s)]) ∧ ∃ n, w' = w.drewN n := by
  go_enter Tryd.func46, Tryd.ntmps46
  go_wp2_with (go_at_call 55; refine (cutLiteS_any _ _ hs).mono ?_; rintro e w' ⟨rfl, n, rfl⟩)
  go_ret3
  exact ⟨rfl, n, rfl⟩
end Go.Proofs.YtlgdfeacnalekaaDoor
