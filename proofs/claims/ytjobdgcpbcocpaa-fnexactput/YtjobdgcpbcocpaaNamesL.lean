/-
  strings.Compare; the closure by which impl's names sorts.
-/
import Derived.Test.YtjobdgcpbcocpaaBeginN
import Derived.Lib.Bytealg
import Derived.Laws.Externs
import Derived.Laws.Strings3
import Derived.Deep.QuietTactic
import Derived.Deep.RegionWith
import Derived.BigQuiet
namespace Go.Proofs.Ytjobdgcpbcocpaa
open Go.RowKit Go.Lib

set_option maxHeartbeats 1000000 in
set_option maxRecDepth 100000 in
theorem cmpString_any (a b : ByteArray) (w : World) :
    Calls Try.prog 103 #[.string a, .string b] w fun e w' => e = .returned (.int .i64 (Lib.compareBytes a.data.toList b.data.toList)) ∧ w' = w := by
  go_enter Try.func103, Try.ntmps103
  go_wp2
  rw [run_callFunc_extern Try.func119 (by kernel_rfl) (by kernel_rfl) (by kernel_rfl) (e := Extern.BytealgCompare.compare) (by kernel_rfl), Lib.run_compareString]
  simp only [Result.andThen]
  rw [Oper.upon_value]
  go_wp2
  go_ret
  exact ⟨rfl, rfl⟩

set_option maxHeartbeats 1000000 in
theorem compare_any (a b : ByteArray) (w : World) :
    Calls Try.prog 89 #[.string a, .string b] w fun e w' => e = .returned (.int .i64 (Lib.compareBytes a.data.toList b.data.toList)) ∧ w' = w := by
  go_enter Try.func89, Try.ntmps89
  go_wp2_with (go_at_call 103; refine (cmpString_any _ _ _).mono ?_; rintro e w' ⟨rfl, rfl⟩)
  go_ret
  exact ⟨rfl, rfl⟩

/-- What names' closure answers. -/
def cmpKid (φ : Way → Option (ByteArray × Bool)) (q : Way) (x y : ByteArray) : Int :=
  Lib.compareBytes (beginB (φ (q ++ [x])).isSome x).data.toList (beginB (φ (q ++ [y])).isSome y).data.toList

theorem compare_neg : ∀ {a b : List UInt8}, Lib.compareBytes a b < 0 ↔ Op.bytesLess a b = true
  | [], [] => by simp [Lib.compareBytes, Op.bytesLess]
  | [], _ :: _ => by simp [Lib.compareBytes, Op.bytesLess]
  | _ :: _, [] => by simp [Lib.compareBytes, Op.bytesLess]
  | x :: a, y :: b => by
    have ih := compare_neg (a := a) (b := b)
    by_cases h : x < y
    · simp [Lib.compareBytes, Op.bytesLess, h]
    · by_cases h2 : y < x
      · have hne : ¬ x = y := fun e => by subst e; exact h h2
        simp [Lib.compareBytes, Op.bytesLess, h, h2, hne]
      · have he : x = y := by
          rw [UInt8.lt_iff_toNat_lt] at h h2
          exact UInt8.toNat_inj.1 (by omega)
        subst he
        simp [Lib.compareBytes, Op.bytesLess, h, ih]

set_option maxRecDepth 100000 in
set_option maxHeartbeats 2000000 in
theorem namesL_any (lo N : Nat) (w : World) (β : Way → Option Nat) (μ : Way → Nat) (φ : Way → Option (ByteArray × Bool)) (hT : TreeM lo N w β μ φ) (q : Way) (b c d g : Nat) (x y : ByteArray) (hb : β q = some b) (hc : β (q ++ [x]) = some c) (hd : β (q ++ [y]) = some d) (hx : x.size ≤ 1048576) (hy : y.size ≤ 1048576)
    (hg : w.cell? ⟨g, 0, none⟩ = some (.pointer (some ⟨b, 0, none⟩))) :
    Calls Try.prog 88 #[.string x, .string y, .pointer (some ⟨g, 0, none⟩)] w fun e w' => e = .returned (.int .i64 (cmpKid φ q x y)) ∧ ∃ n, w' = w.drewN n := by
  have hA : Keep (∀ n, Calls Try.prog 90 #[.pointer (some ⟨b, 0, none⟩), .string x] (w.drewN n) fun e w' => e = .returned (.string (beginB (φ (q ++ [x])).isSome x)) ∧ w' = w.drewN n) :=
    ⟨fun n => begin_any lo N (w.drewN n) β μ φ (hT.turn (fun _ _ => rfl)) q b c x hb hc hx⟩
  have hB : Keep (∀ n, Calls Try.prog 90 #[.pointer (some ⟨b, 0, none⟩), .string y] (w.drewN n) fun e w' => e = .returned (.string (beginB (φ (q ++ [y])).isSome y)) ∧ w' = w.drewN n) :=
    ⟨fun n => begin_any lo N (w.drewN n) β μ φ (hT.turn (fun _ _ => rfl)) q b d y hb hd hy⟩
  have hC : Keep (∀ n, Calls Try.prog 89 #[.string (beginB (φ (q ++ [x])).isSome x), .string (beginB (φ (q ++ [y])).isSome y)] (w.drewN n) fun e w' => e = .returned (.int .i64 (cmpKid φ q x y)) ∧ w' = w.drewN n) :=
    ⟨fun n => compare_any _ _ _⟩
  generalize cmpKid φ q x y = r at *
  generalize beginB (φ (q ++ [x])).isSome x = bx at *
  generalize beginB (φ (q ++ [y])).isSome y = bq at *
  clear hT
  go_enter Try.func88, Try.ntmps88
  go_wp2_with fail
  go_quiet (first | (go_at_call_of 90 x; exact Calls.quiet_of_same (hA.out _)) | (go_at_call_of 90 y; exact Calls.quiet_of_same (hB.out _)) | (go_at_call 89; exact Calls.quiet_of_same (hC.out _)))
  go_wp2
  go_ret
  exact ⟨rfl, _, rfl⟩
end Go.Proofs.Ytjobdgcpbcocpaa
