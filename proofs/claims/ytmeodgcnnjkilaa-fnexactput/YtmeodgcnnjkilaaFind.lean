/-
  impl's find: the node under a path, if it is there.
-/
import Derived.Test.YtmeodgcnnjkilaaReach
namespace Go.Proofs.Ytmeodgcnnjkilaa
open Go.RowKit Go.Shelf

attribute [local go_sem] Oper.semAt_some

/-- Between two rounds. -/
def FindI (Bn : Nat) (W0 : World) (β : Way → Option Nat) (pre : Way) (W : World) : Prop :=
  ∃ b, β pre = some b ∧ Boxed W Bn 56 (.pointer (some ⟨b, 0, none⟩)) ∧ Boxed W (Bn + 1) 56 (.pointer none) ∧ Below Bn W0 W
/-- Nothing lies there. -/
def FindX (Bn : Nat) (W0 : World) (β : Way → Option Nat) (pre : Way) (W : World) : Prop :=
  β pre = none ∧ Boxed W (Bn + 1) 56 (.pointer none) ∧ Below Bn W0 W

theorem below_set {B g : Nat} {w W : World} (h : Below B w W) (hg : B ≤ g) (v : Value) : Below B w (W.setCell ⟨g, 0, none⟩ v) := h.setCell (p := ⟨g, 0, none⟩) hg _
theorem below_putObj {B l : Nat} {w W : World} (h : Below B w W) (hl : B ≤ l) (o : Obj) : Below B w (W.putObj l o) :=
  ⟨(grownBy_putObj' W l o).os.trans h.os, (grownBy_putObj' W l o).tape.trans h.tape, (grownBy_putObj' W l o).output.trans h.output, Nat.le_trans h.size (grownBy_putObj' W l o).size, fun k hk => (World.putObj_heap_other (by omega)).trans (h.block k hk)⟩

theorem none_up {lo N : Nat} {W : World} {β : Way → Option Nat} {μ : Way → Nat} {φ : Way → Option (ByteArray × Bool)} (h : TreeM lo N W β μ φ) : ∀ (r p : Way), β p = none → β (p ++ r) = none
  | [], p, hp => by simpa using hp
  | x :: r, p, hp => by
    have h1 : β (p ++ [x]) = none := by
      cases hc : β (p ++ [x]) with
      | none => rfl
      | some c => exact absurd hp (h.up p x (by rw [hc]; simp))
    have := none_up h r (p ++ [x]) h1
    rwa [List.append_assoc] at this

def FindPost (β : Way → Option Nat) (ps : Way) (w : World) (e : Ending) (w' : World) : Prop := e = .returned (ptrV (β ps)) ∧ Below w.heap.size w w'

set_option maxRecDepth 100000 in
set_option maxHeartbeats 4000000 in
theorem find_any (lo N root : Nat) (w : World) (β : Way → Option Nat) (μ : Way → Nat) (φ : Way → Option (ByteArray × Bool)) (hT : TreeM lo N w β μ φ) (hr : β [] = some root) (s : ByteArray) (hs : s.size ≤ 1099511627776) :
    Calls Try.prog 34 #[.pointer (some ⟨root, 0, none⟩), .string s] w fun e w' => FindPost β (partsB s) w e w' := by
  refine (callsIn_wide (n := 5)).1 ?_
  refine callsIn_of_wp_marks Try.func34 rfl trivial ?_ rfl
  simp only [Try.ntmps34, List.size_toArray, List.length_cons, List.length_nil, Nat.reduceAdd, Nat.reduceSub, Array.replicate_succ, Array.replicate_zero, List.push_toArray, List.append_toArray, List.nil_append, List.cons_append]
  gi_wp2_with (refine ⟨trivial, ?_⟩; gi_at_call 50; refine (callsIn_wide.2 (partsOf_any s _)).mono ?_; rintro e w' ⟨rfl, rfl⟩)
  have b1 := Boxed.new w 56 (.pointer (some ⟨root, 0, none⟩))
  have b2 := Boxed.new (w.alloc (.cells #[.pointer (some ⟨root, 0, none⟩)] 56)) 56 (.pointer none)
  have b3 := Boxed.new ((w.alloc (.cells #[.pointer (some ⟨root, 0, none⟩)] 56)).alloc (.cells #[.pointer none] 56)) 9 (.string s)
  simp only [World.size_alloc] at b2 b3
  have hB0 : Below w.heap.size w (((w.alloc (.cells #[.pointer (some ⟨root, 0, none⟩)] 56)).alloc (.cells #[.pointer none] 56)).alloc (.cells #[.string s] 9)) :=
    (((Below.refl _ w).alloc (Nat.le_refl _) _).alloc (by simp) _).alloc (by simp; omega) _
  have hsz : (((w.alloc (.cells #[.pointer (some ⟨root, 0, none⟩)] 56)).alloc (.cells #[.pointer none] 56)).alloc (.cells #[.string s] 9)).heap.size ≥ w.heap.size + 3 := by simp
  have b1 := (b1.alloc (.cells #[.pointer none] 56)).alloc (.cells #[.string s] 9)
  have b2 := b2.alloc (.cells #[.string s] 9)
  generalize ((w.alloc (.cells #[.pointer (some ⟨root, 0, none⟩)] 56)).alloc (.cells #[.pointer none] 56)).alloc (.cells #[.string s] 9) = Wl at *
  refine range_parts (n := 5) (by omega) (w.heap.size + 1 + 1) s hs (by omega) b3.cell rfl rfl (FindI w.heap.size w β) (FindX w.heap.size w β)
    (fun pre W o h => ?_) (fun pre W k h => ?_) (fun pre W l o hl h => ?_) (fun pre W l o hl h => ?_)
    ⟨root, hr, b1, b2, hB0⟩
    (fun x => { tmps := #[.pointer (some ⟨root, 0, none⟩), .string s, .pointer (some ⟨w.heap.size, 0, none⟩), undef, .pointer (some ⟨w.heap.size + 1, 0, none⟩), .string x, .string s, .func (.func 64) #[] #[.pointer (some ⟨w.heap.size + 1 + 1, 0, none⟩)], .string x, undef, undef, undef, undef, undef, undef, undef, undef, undef], defers := [] }) ?assign ?body ?done ?stop
  · obtain ⟨b, h0, h1, h2, h3⟩ := h
    exact ⟨b, h0, h1.alloc _, h2.alloc _, h3.alloc h3.size _⟩
  · obtain ⟨b, h0, h1, h2, h3⟩ := h
    exact ⟨b, h0, h1, h2, h3.trans ⟨rfl, rfl, rfl, Nat.le_refl _, fun _ _ => rfl⟩⟩
  · obtain ⟨b, h0, h1, h2, h3⟩ := h
    exact ⟨b, h0, boxed_block h1 (World.putObj_heap_other (by omega)), boxed_block h2 (World.putObj_heap_other (by omega)), below_putObj h3 (by omega) _⟩
  · obtain ⟨h0, h2, h3⟩ := h
    exact ⟨h0, boxed_block h2 (World.putObj_heap_other (by omega)), below_putObj h3 (by omega) _⟩
  case assign =>
    intro l x W K hK
    gi_wp2
    exact hK
  case body =>
    rintro l pre x W ⟨b, h0, h1, h2, hB⟩ ⟨r, hr'⟩ hlt
    have hxs : x.size ≤ 1099511627776 := by have := parts_size (s := s) (x := x) (by rw [hr']; simp); omega
    obtain ⟨hob, hlb, hlm, hkd⟩ := (hT.below hB).node pre b h0
    obtain ⟨c0, c3, cf, _, _⟩ := node_cells hob
    have d1 := h1.cell
    have d2 := h2.cell
    have e1 := h1.frozen
    have e2 := h2.frozen
    have hlk := hkd.look x hxs
    have HT : Keep (Wl.heap.size ≥ w.heap.size + 3) := ⟨hsz⟩
    cases hk : β (pre ++ [x]) with
    | some c =>
      rw [hk] at hlk
      unfold ptrV at hlk
      gi_wp2
      exact ⟨two_set W _ (by omega), c, hk, h1.set _, h2.other (by omega) _, below_set hB (Nat.le_refl _) _⟩
    | none =>
      rw [hk] at hlk
      unfold ptrV at hlk
      gi_wp2
      exact ⟨(two_set W _ (by omega)).trans (two_set _ _ (by omega)), hk, (h2.other (by omega) _).set _, below_set (below_set hB (Nat.le_refl _) _) (by omega) _⟩
  case done =>
    rintro W ⟨b, h0, h1, h2, hB⟩ hK
    have c1 := h1.cell
    have c2 := h2.cell
    have f2 := h2.frozen
    gi_wp2
    have hB2 := below_set hB (show w.heap.size ≤ w.heap.size + 1 by omega) (.pointer (some ⟨b, 0, none⟩))
    have hb2 := h2.set (.pointer (some ⟨b, 0, none⟩))
    have hK2 : (W.setCell ⟨w.heap.size + 1, 0, none⟩ (.pointer (some ⟨b, 0, none⟩))).heap[Wl.heap.size]? = some (.deferred (some [])) :=
      ((two_set W (.pointer (some ⟨b, 0, none⟩)) (show w.heap.size + 1 < Wl.heap.size by omega)).1).trans hK
    generalize W.setCell ⟨w.heap.size + 1, 0, none⟩ (.pointer (some ⟨b, 0, none⟩)) = W3 at *
    refine ⟨by simp, .inl ⟨_, _, rfl, run_takeDeferred hK2, ?_⟩⟩
    have hb4 := (boxed_block hb2 (World.putObj_heap_other (o := .deferred none) (show w.heap.size + 1 ≠ Wl.heap.size by omega))).cell
    refine ⟨.pointer (some ⟨b, 0, none⟩), ?_, by rw [h0]; rfl, below_putObj hB2 (by omega) _⟩
    simp [results, Try.f34, go_sem, hb4]
  case stop =>
    rintro pre W ⟨r, hr'⟩ ⟨h0, h2, hB⟩ hK
    gi_wp2
    refine ⟨by simp, .inl ⟨_, _, rfl, run_takeDeferred hK, ?_⟩⟩
    have hb4 := (boxed_block h2 (World.putObj_heap_other (o := .deferred none) (show w.heap.size + 1 ≠ Wl.heap.size by omega))).cell
    refine ⟨.pointer none, ?_, by rw [← hr', none_up hT r pre h0]; rfl, below_putObj hB (by omega) _⟩
    simp [results, Try.f34, go_sem, hb4]
end Go.Proofs.Ytmeodgcnnjkilaa
