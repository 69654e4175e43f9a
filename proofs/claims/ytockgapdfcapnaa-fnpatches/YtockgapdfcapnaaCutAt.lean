/-
  strings.Cut at the separator of one slash.
-/
import Derived.Test.YtockgapdfcapnaaRows
import Derived.WalkKit
import Derived.Lib.CutLaws
import Derived.Lib.Bytealg
import Derived.Lib.IndexLaws
import Derived.Laws.Strings3
import Derived.Laws.Externs
import Derived.Deep.Draws
namespace Go.Proofs.Ytockgapdfcapnaa
open Go.RowKit Go.Lib

set_option maxHeartbeats 1000000 in
set_option maxRecDepth 100000 in
theorem indexByte_any (s : ByteArray) (w : World) :
    Calls Try.prog 97 #[.string s, .int .u8 47] w fun e w' => e = .returned (.int .i64 (Lib.indexByte s.data.toList 47)) ∧ w' = w := by
  go_enter Try.func97, Try.ntmps97
  go_wp2
  rw [run_callFunc_extern Try.func101 (by kernel_rfl) (by kernel_rfl) (by kernel_rfl) (e := Extern.BytealgIndexByte.indexByte) (by kernel_rfl), Lib.run_indexByteString]
  simp only [Result.andThen]
  rw [Oper.upon_value]
  go_wp2
  go_ret
  exact ⟨rfl, rfl⟩

set_option maxHeartbeats 1000000 in
set_option maxRecDepth 100000 in
theorem index_any (s : ByteArray) (w : World) :
    Calls Try.prog 96 #[.string s, .string ⟨#[47]⟩] w fun e w' => e = .returned (.int .i64 (Lib.indexByte s.data.toList 47)) ∧ w' = w := by
  go_enter Try.func96, Try.ntmps96
  go_wp2_with (go_at_call 97; refine (indexByte_any _ _).mono ?_; rintro e w' ⟨rfl, rfl⟩)
  · have h : ([47] == s.toList) = true := by assumption
    go_ret
    refine ⟨?_, rfl⟩
    have e : s.data.toList = [47] := by rw [← Lib.toList_data]; exact (beq_iff_eq.1 h).symm
    rw [e]
    rfl
  · go_ret
    exact ⟨rfl, rfl⟩

/-- Where the first slash stands. -/
theorem slash_cases (s : ByteArray) : Lib.indexByte s.data.toList 47 = -1 ∨ ∃ i : Nat, Lib.indexByte s.data.toList 47 = i ∧ i + 1 ≤ s.size := by
  have h := Lib.indexB_cases s ⟨#[47]⟩
  have e : Lib.indexB s ⟨#[47]⟩ = Lib.indexByte s.data.toList 47 := Lib.index_one s.data.toList 47
  rw [e] at h
  exact h

def cutHead (s : ByteArray) : ByteArray := if Lib.indexByte s.data.toList 47 = -1 then s else s.extract 0 (Lib.indexByte s.data.toList 47).toNat
def cutRest (s : ByteArray) : ByteArray := if Lib.indexByte s.data.toList 47 = -1 then ByteArray.empty else s.extract ((Lib.indexByte s.data.toList 47).toNat + 1) s.size
def cutMore (s : ByteArray) : Bool := !(Lib.indexByte s.data.toList 47 == -1)

set_option maxHeartbeats 1000000 in
set_option maxRecDepth 100000 in
theorem cutLite_any (s : ByteArray) (w : World) (hs : s.size ≤ 1099511627776) :
    Calls Try.prog 95 #[.string s, .string ⟨#[47]⟩] w fun e w' => e = .returned (.tuple #[.string (cutHead s), .string (cutRest s), .bool (cutMore s)]) ∧ ∃ n, w' = w.drewN n := by
  rcases slash_cases s with hix | ⟨i, hix, hroom⟩
  · have e1 : cutHead s = s := by simp [cutHead, hix]
    have e2 : cutRest s = ByteArray.empty := by simp [cutRest, hix]
    have e3 : cutMore s = false := by simp [cutMore, hix]
    rw [e1, e2, e3]
    go_enter Try.func95, Try.ntmps95
    go_wp2_with (go_at_call 96; refine (index_any _ _).mono ?_; rintro e w' ⟨rfl, rfl⟩; rw [hix])
    go_ret3
    exact ⟨rfl, 0, rfl⟩
  · have e1 : cutHead s = s.extract 0 i := by simp [cutHead, hix]
    have e2 : cutRest s = s.extract (i + 1) s.size := by simp [cutRest, hix]
    have e3 : cutMore s = true := by simp [cutMore, hix]
    rw [e1, e2, e3]
    have c1 : (0 : Int) ≤ ↑i := by omega
    have c2 : (↑i : Int) ≤ ↑s.size := by omega
    have c3 : (0 : Int) ≤ ↑i + 1 := by omega
    have c4 : (↑i + 1 : Int) ≤ ↑s.size := by omega
    go_enter Try.func95, Try.ntmps95
    go_wp2_with (go_at_call 96; refine (index_any _ _).mono ?_; rintro e w' ⟨rfl, rfl⟩; rw [hix])
    have hw1 : IntKind.i64.wrap ((i : Int) + 1) = (i : Int) + 1 := by rw [IntKind.wrap_i64]; omega
    go_region
    all_goals (try go_wp2)
    go_wp2
    go_ret3
    exact ⟨rfl, 1, rfl⟩

set_option maxHeartbeats 1000000 in
theorem cut_any (s : ByteArray) (w : World) (hs : s.size ≤ 1099511627776) :
    Calls Try.prog 94 #[.string s, .string ⟨#[47]⟩] w fun e w' => e = .returned (.tuple #[.string (cutHead s), .string (cutRest s), .bool (cutMore s)]) ∧ ∃ n, w' = w.drewN n := by
  go_enter Try.func94, Try.ntmps94
  go_wp2_with (go_at_call 95; refine (cutLite_any _ _ hs).mono ?_; rintro e w' ⟨rfl, n, rfl⟩)
  go_ret3
  exact ⟨rfl, n, rfl⟩
end Go.Proofs.Ytockgapdfcapnaa
