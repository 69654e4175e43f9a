/-
  slices.Clone at impl's parts; partOf of a list.
-/
import Derived.Test.YtdjpohkionapiaaRep
import Derived.Lib.SliceRun
namespace Go.Proofs.Ytdjpohkionapiaa
open Go.RowKit

/-- Cells vs at address ad. -/
def Cs (w : World) (ad : Option Addr) (vs : List Value) : Prop :=
  vs = [] ∨ ∃ b off, ad = some ⟨b, off, none⟩ ∧ ∀ i (h : i < vs.length), w.cell? ⟨b, off + i, none⟩ = some vs[i]
theorem Cs.below {w w' : World} {ad : Option Addr} {vs : List Value} (h : Cs w ad vs) (hb : Below w.heap.size w w') : Cs w' ad vs := by
  rcases h with h | ⟨b, off, ha, hc⟩
  · exact .inl h
  · exact .inr ⟨b, off, ha, fun i hi => cell_later hb (hc i hi)⟩

theorem Try.infoPart : (Try.prog.info? 45).map (fun i => (i.zero, i.size, i.bytes)) = some (some .nilIface, 1, 16) := by kernel_rfl

/-- What is new: a row from B on with the cells vs, or nothing. -/
def NewCs (w : World) (B : Nat) (ad : Option Addr) (vs : List Value) : Prop :=
  vs.length = 0 ∨ ∃ b, ad = some ⟨b, 0, none⟩ ∧ B ≤ b ∧ b < w.heap.size ∧ ∀ i (h : i < vs.length), w.cell? ⟨b, i, none⟩ = some vs[i]

theorem NewCs.mono {w : World} {B B' : Nat} {ad : Option Addr} {vs : List Value} (h : NewCs w B ad vs) (hB : B' ≤ B) : NewCs w B' ad vs := by
  rcases h with h | ⟨b, ha, hb, hr⟩
  · exact .inl h
  · exact .inr ⟨b, ha, Nat.le_trans hB hb, hr⟩
theorem newCs_of_owns {w : World} {B : Nat} {e : TypeId} {ad : Option Addr} {cap : Nat} {vs : List Value} (h : w.ownsRow B e 1 (.slice ad vs.length cap) vs.length vs) : NewCs w B ad vs := by
  rcases h.2 with ⟨_, h0⟩ | ⟨g, cap', cur, hv, hB, hg, _⟩
  · exact .inl h0
  · simp only [Value.slice.injEq, true_and] at hv
    obtain ⟨rfl, rfl⟩ := hv
    refine .inr ⟨g, rfl, hB, (Array.getElem?_eq_some_iff.1 hg).1, fun i hi => ?_⟩
    rw [h.cellAt i (by omega), List.getElem?_eq_getElem hi]

set_option maxRecDepth 20000 in
set_option maxHeartbeats 1000000 in
theorem cloneP_any (ad : Option Addr) (cap : Nat) (vs : List Value) (w : World) (h : Cs w ad vs) (hnil : ad = none → vs = []) (h1 : ∀ u ∈ vs, u.oneCell' = true) (hn : vs.length ≤ 1048576) :
    Calls Try.prog 26 #[.slice ad vs.length cap] w fun e w' => ∃ ad' cap', e = .returned (.slice ad' vs.length cap') ∧ NewCs w' w.heap.size ad' vs ∧ Below w.heap.size w w' := by
  obtain ⟨i0, hi, hz0, hz1, hz2⟩ := info_parts Try.infoPart
  have heq : ∀ (ad : Option Addr) (n c : Nat) (w : World), (binOp .eql 55 (.slice ad n c) (.slice none 0 0)).run Try.prog w = .ok (.bool ad.isNone) w := fun _ _ _ w => Lib.run_eql_slice_nil w _ _ _ _ _ _ _ Try.underlying55
  cases ad with
  | none =>
    obtain rfl := hnil rfl
    go_enter Try.func26, Try.ntmps26
    go_wp2
    go_ret
    exact ⟨none, ⟨0, rfl⟩, .inl rfl, Below.refl _ _⟩
  | some x =>
    have hown0 : (w.alloc (.cells #[] 45)).ownsRow w.heap.size 45 1 (.slice (some ⟨w.heap.size, 0, none⟩) 0 0) 0 [] := ⟨by simp, .inr ⟨w.heap.size, 0, #[], rfl, Nat.le_refl _, heap_alloc_new w _, Nat.le_refl _, by unfold maxLen; omega, rfl, by simp⟩⟩
    have hnews : ∀ j u, vs[j]? = some u → (w.alloc (.cells #[] 45)).cell? (x.add j) = some u := by
      intro j u hj
      rcases h with rfl | ⟨b, off, ha, hc⟩
      · simp at hj
      · simp at ha
        subst ha
        obtain ⟨hj1, hj2⟩ := List.getElem?_eq_some_iff.1 hj
        rw [Go.WideShapes.add_plain, ← hj2]
        exact cell_later ((Below.refl _ _).alloc (Nat.le_refl _) _) (hc j hj1)
    go_enter Try.func26, Try.ntmps26
    go_wp2_with (at_builtin; refine wpList_append_own _ rfl _ _ 55 rfl w.heap.size 45 i0 _ 1 16 Try.underlying55 hi hz0 hz1 hz2 rfl (by decide) _ _ _ rfl hown0 x vs.length cap vs rfl (by omega) hnews h1 (by unfold maxLen; omega) (by omega) (by simp) ?_; intro v' w2 hown2 hgrow2 _)
    rw [Nat.zero_add, List.nil_append] at hown2
    obtain ⟨ad', cap', rfl⟩ : ∃ ad' cap', v' = .slice ad' vs.length cap' := by
      rcases hown2.2 with ⟨hv, h0⟩ | ⟨g, c, cur, hv, _⟩
      · exact ⟨none, 0, by rw [hv, h0]⟩
      · exact ⟨_, c, hv⟩
    go_ret
    exact ⟨ad', cap', rfl, newCs_of_owns hown2, ((Below.refl _ _).alloc (Nat.le_refl _) _).grown hgrow2 (by simp) (fun k hk => by have h' : some w.heap.size = some k := hk; cases h'; exact Nat.le_refl _)⟩

theorem box4 {w w2 : World} {a b c d : Value} {t : TypeId} (h : Below (w.alloc (.cells #[a, b, c, d] t)).drew.heap.size (w.alloc (.cells #[a, b, c, d] t)).drew w2) :
    w2.cell? ⟨w.heap.size, 0, none⟩ = some a ∧ w2.cell? ⟨w.heap.size, 1, none⟩ = some b ∧ w2.cell? ⟨w.heap.size, 2, none⟩ = some c ∧ w2.cell? ⟨w.heap.size, 3, none⟩ = some d := by
  have e : ∀ j, w2.cell? ⟨w.heap.size, j, none⟩ = (#[a, b, c, d] : Array Value)[j]? := fun j =>
    (h.cell (p := ⟨w.heap.size, j, none⟩) (by simp)).trans (World.cell?_alloc_new _ _ _ _)
  exact ⟨e 0, e 1, e 2, e 3⟩

def okList (n : Int) (t : ByteArray) : Prop := n = 0 ∧ t.size = 0

set_option maxRecDepth 20000 in
set_option maxHeartbeats 1000000 in
theorem partOf_list (n : Int) (t : ByteArray) (q : Int) (ad : Option Addr) (cap : Nat) (vs : List Value) (w : World) (h : Cs w ad vs) (hnil : ad = none → vs = []) (h1 : ∀ u ∈ vs, u.oneCell' = true) (hn : vs.length ≤ 1048576) :
    Calls Try.prog 22 #[.agg #[.int .i64 4, .int .i64 n, .string t, .int .i64 q], .slice ad vs.length cap] w fun e w' => ∃ b ad' cap', e = .returned (.tuple #[.iface 69 (.agg #[.slice ad' vs.length cap']), .bool b]) ∧ (b = true ↔ okList n t) ∧ NewCs w' w.heap.size ad' vs ∧ Below w.heap.size w w' := by
  have hg := eqGuardAtom
  have heq : ∀ w, (binOp .eql 41 (.agg #[.int .i64 4, .int .i64 n, .string t, .int .i64 q]) (.agg #[.int .i64 4, .int .i64 0, .string ⟨#[]⟩, .int .i64 q])).run Try.prog w = .ok (.bool (decide (n = 0 ∧ t = ⟨#[]⟩))) w := fun w => by rw [eq_atom]; simp
  have hb0 : ∀ o, Below w.heap.size w (w.alloc o).drew := fun o => ((Below.refl _ _).alloc (Nat.le_refl _) _).drew
  go_enter Try.func22, Try.ntmps22
  go_wp2
  go_region_with (go_at_call 26; refine (cloneP_any ad cap vs _ ?_ hnil h1 hn).mono ?_; exact h.below (hb0 _); rintro e w2 ⟨ad', cap', rfl, hnew, hb2⟩; obtain ⟨d0, d1, d2, d3⟩ := box4 hb2)
  all_goals go_wp2
  all_goals go_ret2
  all_goals
    refine ⟨decide (n = 0 ∧ t = ⟨#[]⟩), ad', cap', ?_, ?_, hnew.mono (by simp), (hb0 _).trans (hb2.mono (hb0 _).size)⟩
    · first | rfl | simp [Act.put]
    · unfold okList; rw [decide_eq_true_iff, size_zero]
end Go.Proofs.Ytdjpohkionapiaa
