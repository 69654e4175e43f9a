/-
  strings.Compare; the closure by which impl's names sorts.
-/
import Derived.Test.YtmeodgcnnjkilaaBeginN
import Derived.Test.YtmeodgcnnjkilaaCmpB
import Derived.Lib.Bytealg
import Derived.Laws.Externs
import Derived.Laws.Strings3
import Derived.Deep.QuietTactic
import Derived.Deep.RegionWith
import Derived.BigQuiet
namespace Go.Proofs.Ytmeodgcnnjkilaa
open Go.RowKit Go.Lib

/-- What names' closure answers. -/
def cmpKid (φ : Way → Option (ByteArray × Bool)) (q : Way) (x y : ByteArray) : Int :=
  Lib.compareBytes (beginB (φ (q ++ [x])).isSome x).data.toList (beginB (φ (q ++ [y])).isSome y).data.toList

set_option maxRecDepth 100000 in
set_option maxHeartbeats 2000000 in
theorem namesL_any (lo N : Nat) (w : World) (β : Way → Option Nat) (μ : Way → Nat) (φ : Way → Option (ByteArray × Bool)) (hT : TreeM lo N w β μ φ) (q : Way) (b c d g : Nat) (x y : ByteArray) (hb : β q = some b) (hc : β (q ++ [x]) = some c) (hd : β (q ++ [y]) = some d) (hx : x.size ≤ 1048576) (hy : y.size ≤ 1048576)
    (hg : w.cell? ⟨g, 0, none⟩ = some (.pointer (some ⟨b, 0, none⟩))) :
    Calls Try.prog 70 #[.string x, .string y, .pointer (some ⟨g, 0, none⟩)] w fun e w' => e = .returned (.int .i64 (cmpKid φ q x y)) ∧ ∃ n, w' = w.drewN n := by
  have hA : Keep (∀ n, Calls Try.prog 72 #[.pointer (some ⟨b, 0, none⟩), .string x] (w.drewN n) fun e w' => e = .returned (.string (beginB (φ (q ++ [x])).isSome x)) ∧ w' = w.drewN n) :=
    ⟨fun n => begin_any lo N (w.drewN n) β μ φ (hT.turn (fun _ _ => rfl)) q b c x hb hc hx⟩
  have hB : Keep (∀ n, Calls Try.prog 72 #[.pointer (some ⟨b, 0, none⟩), .string y] (w.drewN n) fun e w' => e = .returned (.string (beginB (φ (q ++ [y])).isSome y)) ∧ w' = w.drewN n) :=
    ⟨fun n => begin_any lo N (w.drewN n) β μ φ (hT.turn (fun _ _ => rfl)) q b d y hb hd hy⟩
  have hC : Keep (∀ n, Calls Try.prog 71 #[.string (beginB (φ (q ++ [x])).isSome x), .string (beginB (φ (q ++ [y])).isSome y)] (w.drewN n) fun e w' => e = .returned (.int .i64 (cmpKid φ q x y)) ∧ w' = w.drewN n) :=
    ⟨fun n => compare_any _ _ _⟩
  generalize cmpKid φ q x y = r at *
  generalize beginB (φ (q ++ [x])).isSome x = bx at *
  generalize beginB (φ (q ++ [y])).isSome y = bq at *
  clear hT
  go_enter Try.func70, Try.ntmps70
  go_wp2_with fail
  go_quiet (first | (go_at_call_of 72 x; exact Calls.quiet_of_same (hA.out _)) | (go_at_call_of 72 y; exact Calls.quiet_of_same (hB.out _)) | (go_at_call 71; exact Calls.quiet_of_same (hC.out _)))
  go_wp2
  go_ret
  exact ⟨rfl, _, rfl⟩
end Go.Proofs.Ytmeodgcnnjkilaa
