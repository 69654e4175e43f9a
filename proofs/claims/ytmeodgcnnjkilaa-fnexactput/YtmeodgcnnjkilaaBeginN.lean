/-
  impl's begin: what the paths below a kid begin with.
-/
import Derived.Test.YtmeodgcnnjkilaaOrderP
import Derived.Test.YtmeodgcnnjkilaaReach
namespace Go.Proofs.Ytmeodgcnnjkilaa
open Go.RowKit

/-- What the paths below a kid begin with. -/
def beginB (file : Bool) (x : ByteArray) : ByteArray := if file then x else x ++ ⟨#[47]⟩

theorem beginB_list (file : Bool) (x : ByteArray) : (beginB file x).data.toList = beginL file x.data.toList := by
  cases file <;> simp [beginB, beginL, ByteArray.data_append]

def BeginPost (φ : Way → Option (ByteArray × Bool)) (q : Way) (x : ByteArray) (w : World) (e : Ending) (w' : World) : Prop := e = .returned (.string (beginB (φ (q ++ [x])).isSome x)) ∧ w' = w

set_option maxRecDepth 100000 in
set_option maxHeartbeats 1000000 in
theorem begin_any (lo N : Nat) (w : World) (β : Way → Option Nat) (μ : Way → Nat) (φ : Way → Option (ByteArray × Bool)) (hT : TreeM lo N w β μ φ) (q : Way) (b c : Nat) (x : ByteArray) (hb : β q = some b) (hc : β (q ++ [x]) = some c) (hx : x.size ≤ 1048576) :
    Calls Try.prog 72 #[.pointer (some ⟨b, 0, none⟩), .string x] w fun e w' => BeginPost φ q x w e w' := by
  obtain ⟨hob, _, _, hkd⟩ := hT.node q b hb
  obtain ⟨hoc, _, _, _⟩ := hT.node (q ++ [x]) c hc
  obtain ⟨_, c3, _, _, _⟩ := node_cells hob
  obtain ⟨d0, _, _, _, _⟩ := node_cells hoc
  have hlk := hkd.look x (by omega)
  rw [hc] at hlk
  unfold ptrV at hlk
  cases hf : (φ (q ++ [x])).isSome with
  | true =>
    rw [hf] at d0
    go_enter Try.func72, Try.ntmps72
    go_wp2
    go_ret
    exact ⟨by simp [beginB, hf], rfl⟩
  | false =>
    rw [hf] at d0
    go_enter Try.func72, Try.ntmps72
    go_wp2
    go_ret
    exact ⟨by simp [beginB, hf], rfl⟩
end Go.Proofs.Ytmeodgcnnjkilaa
