/-
  impl's reach: the node under a path, made where it is not there.
-/
import Derived.Test.YtockgapdfcapnaaNewNode
import Derived.Test.YtockgapdfcapnaaRangeP
import Derived.Test.YtockgapdfcapnaaSpecParts
import Derived.RangeFuncNested
namespace Go.Proofs.Ytockgapdfcapnaa
open Go.RowKit Go.Shelf

attribute [local go_sem] Oper.semAt_some

/-- What a tree has become on the way along ps. -/
structure Along (lo N z : Nat) (μ : Way → Nat) (W : World) (β β' : Way → Option Nat) (μ' : Way → Nat) (φ : Way → Option (ByteArray × Bool)) (pre : Way) (b : Nat) : Prop where
  tree : TreeM lo (N + pre.length) W β' μ' φ
  here : β' pre = some b
  grown : ∀ q, β' q ≠ none ↔ β q ≠ none ∨ q <+: pre
  free : ∀ q, q <+: pre → q ≠ pre → φ q = none
  root : β' [] = β []
  old : ∀ q, β q ≠ none → β' q = β q ∧ μ' q = μ q
  new : ∀ q b, β q = none → β' q = some b → z ≤ b ∧ z ≤ μ' q

/-- What is no block of the tree lies as it lay. -/
structure BT (β : Way → Option Nat) (μ : Way → Nat) (w W : World) : Prop where
  os : W.os = w.os
  tape : W.tape = w.tape
  output : W.output = w.output
  size : w.heap.size ≤ W.heap.size
  block : ∀ k, k < w.heap.size → ¬ TreeB β μ k → W.heap[k]? = w.heap[k]?
theorem BT.on {β : Way → Option Nat} {μ : Way → Nat} {w W W' : World} (h : BT β μ w W) (hb : W.grownBy W' none) : BT β μ w W' :=
  ⟨hb.os.trans h.os, hb.tape.trans h.tape, hb.output.trans h.output, Nat.le_trans h.size hb.size, fun k hk hn => (hb.block k (Nat.lt_of_lt_of_le hk h.size) (by simp)).trans (h.block k hk hn)⟩
theorem BT.row {β : Way → Option Nat} {μ : Way → Nat} {w W W' : World} {r : Nat} (h : BT β μ w W) (hb : W.grownBy W' (some r)) (hr : r < w.heap.size → TreeB β μ r) : BT β μ w W' :=
  ⟨hb.os.trans h.os, hb.tape.trans h.tape, hb.output.trans h.output, Nat.le_trans h.size hb.size, fun k hk hn => (hb.block k (Nat.lt_of_lt_of_le hk h.size) (by intro e; cases e; exact hn (hr hk))).trans (h.block k hk hn)⟩
theorem BT.below {lo N : Nat} {β : Way → Option Nat} {μ : Way → Nat} {φ : Way → Option (ByteArray × Bool)} {w W : World} (h : BT β μ w W) (hT : TreeM lo N w β μ φ) (hlo : lo ≤ w.heap.size) : Below lo w W :=
  ⟨h.os, h.tape, h.output, h.size, fun k hk => h.block k (by omega) (fun ht => by have := (hT.lt ht).1; omega)⟩
theorem BT.of_below {β : Way → Option Nat} {μ : Way → Nat} {w W : World} (h : Below w.heap.size w W) : BT β μ w W := ⟨h.os, h.tape, h.output, h.size, fun k hk _ => h.block k hk⟩
theorem BT.trans {β : Way → Option Nat} {μ : Way → Nat} {u w W : World} (h : BT β μ u w) (k : BT β μ w W) : BT β μ u W :=
  ⟨k.os.trans h.os, k.tape.trans h.tape, k.output.trans h.output, Nat.le_trans h.size k.size, fun i hi hn => (k.block i (Nat.lt_of_lt_of_le hi h.size) hn).trans (h.block i hi hn)⟩

/-- Between two rounds. -/
def ReachI (lo N Bn Bl : Nat) (W0 : World) (β : Way → Option Nat) (μ : Way → Nat) (φ : Way → Option (ByteArray × Bool)) (pre : Way) (W : World) : Prop :=
  ∃ β' μ' b, Along lo N Bn μ W β β' μ' φ pre b ∧ Boxed W Bn 111 (.pointer (some ⟨b, 0, none⟩)) ∧ Boxed W (Bn + 1) 111 (.pointer none) ∧ Boxed W (Bn + 1 + 1) 4 (.bool false) ∧ BT β μ W0 W ∧ ¬ TreeB β' μ' Bl ∧ ¬ TreeB β' μ' (Bl + 1)
/-- A file is in the way. -/
def ReachX (lo N Bn Bl : Nat) (W0 : World) (β : Way → Option Nat) (μ : Way → Nat) (φ : Way → Option (ByteArray × Bool)) (pre : Way) (W : World) : Prop :=
  ∃ β' μ' b q, Along lo N Bn μ W β β' μ' φ q b ∧ q <+: pre ∧ q ≠ pre ∧ φ q ≠ none ∧ Boxed W (Bn + 1) 111 (.pointer none) ∧ Boxed W (Bn + 1 + 1) 4 (.bool false) ∧ BT β μ W0 W ∧ ¬ TreeB β' μ' Bl ∧ ¬ TreeB β' μ' (Bl + 1)

theorem boxed_block {W W' : World} {B : Nat} {t : TypeId} {v : Value} (h : Boxed W B t v) (e : W'.heap[B]? = W.heap[B]?) : Boxed W' B t v := e.trans h
theorem TreeB.box {lo N : Nat} {W : World} {β : Way → Option Nat} {μ : Way → Nat} {φ : Way → Option (ByteArray × Bool)} (h : TreeM lo N W β μ φ) {B : Nat} {t : TypeId} {v : Value} (hb : Boxed W B t v) : ¬ TreeB β μ B :=
  h.notBox hb (box_notNode v t) (fun _ _ e => by cases e)

theorem Along.turn {lo N z : Nat} {μ : Way → Nat} {W W' : World} {β β' : Way → Option Nat} {μ' : Way → Nat} {φ : Way → Option (ByteArray × Bool)} {pre : Way} {b : Nat} (h : Along lo N z μ W β β' μ' φ pre b) (hk : ∀ k, TreeB β' μ' k → W'.heap[k]? = W.heap[k]?) : Along lo N z μ W' β β' μ' φ pre b :=
  ⟨h.tree.turn hk, h.here, h.grown, h.free, h.root, h.old, h.new⟩

theorem ReachI.alloc {lo N Bn Bl : Nat} {W0 : World} {β : Way → Option Nat} {μ : Way → Nat} {φ : Way → Option (ByteArray × Bool)} (pre : Way) (W : World) (o : Obj) (h : ReachI lo N Bn Bl W0 β μ φ pre W) : ReachI lo N Bn Bl W0 β μ φ pre (W.alloc o) := by
  obtain ⟨β', μ', b, hA, h1, h2, h3, hB, h4⟩ := h
  exact ⟨β', μ', b, hA.turn (fun k hk => Below.heap_alloc _ _ _ (hA.tree.lt hk).2), h1.alloc _, h2.alloc _, h3.alloc _, hB.on (World.grownBy_alloc W o none), h4⟩
theorem ReachI.drewN {lo N Bn Bl : Nat} {W0 : World} {β : Way → Option Nat} {μ : Way → Nat} {φ : Way → Option (ByteArray × Bool)} (pre : Way) (W : World) (k : Nat) (h : ReachI lo N Bn Bl W0 β μ φ pre W) : ReachI lo N Bn Bl W0 β μ φ pre (W.drewN k) := by
  obtain ⟨β', μ', b, hA, h1, h2, h3, hB, h4⟩ := h
  exact ⟨β', μ', b, hA.turn (fun _ _ => rfl), h1, h2, h3, hB.on (grown_drewN W k none), h4⟩
theorem ReachI.putObj {lo N Bn Bl : Nat} {W0 : World} {β : Way → Option Nat} {μ : Way → Nat} {φ : Way → Option (ByteArray × Bool)} (hW0 : W0.heap.size ≤ Bl) (hBn : Bn + 1 + 1 < Bl) (pre : Way) (W : World) (l : Nat) (o : Obj) (hl : l = Bl ∨ l = Bl + 1) (h : ReachI lo N Bn Bl W0 β μ φ pre W) : ReachI lo N Bn Bl W0 β μ φ pre (W.putObj l o) := by
  obtain ⟨β', μ', b, hA, h1, h2, h3, hB, h4, h5⟩ := h
  have hne : ∀ k, TreeB β' μ' k → k ≠ l := fun k hk e => by
    rcases hl with rfl | rfl
    · exact h4 (e ▸ hk)
    · exact h5 (e ▸ hk)
  refine ⟨β', μ', b, hA.turn (fun k hk => World.putObj_heap_other (hne k hk)), boxed_block h1 (World.putObj_heap_other (by omega)), boxed_block h2 (World.putObj_heap_other (by omega)), boxed_block h3 (World.putObj_heap_other (by omega)), ?_, h4, h5⟩
  exact hB.row (grownBy_putObj' W l o) (fun h => by omega)
theorem ReachX.putObj {lo N Bn Bl : Nat} {W0 : World} {β : Way → Option Nat} {μ : Way → Nat} {φ : Way → Option (ByteArray × Bool)} (hW0 : W0.heap.size ≤ Bl) (hBn : Bn + 1 + 1 < Bl) (pre : Way) (W : World) (l : Nat) (o : Obj) (hl : l = Bl ∨ l = Bl + 1) (h : ReachX lo N Bn Bl W0 β μ φ pre W) : ReachX lo N Bn Bl W0 β μ φ pre (W.putObj l o) := by
  obtain ⟨β', μ', b, q, hA, hq, hne, hf, h2, h3, hB, h4, h5⟩ := h
  have hne' : ∀ k, TreeB β' μ' k → k ≠ l := fun k hk e => by
    rcases hl with rfl | rfl
    · exact h4 (e ▸ hk)
    · exact h5 (e ▸ hk)
  exact ⟨β', μ', b, q, hA.turn (fun k hk => World.putObj_heap_other (hne' k hk)), hq, hne, hf, boxed_block h2 (World.putObj_heap_other (by omega)), boxed_block h3 (World.putObj_heap_other (by omega)), hB.row (grownBy_putObj' W l o) (fun h => by omega), h4, h5⟩

theorem Along.set {lo N z : Nat} {μ : Way → Nat} {W : World} {β β' : Way → Option Nat} {μ' : Way → Nat} {φ : Way → Option (ByteArray × Bool)} {pre : Way} {b B : Nat} (h : Along lo N z μ W β β' μ' φ pre b) (hn : ¬ TreeB β' μ' B) (v : Value) : Along lo N z μ (W.setCell ⟨B, 0, none⟩ v) β β' μ' φ pre b :=
  h.turn (fun k hk => Below.heap_setCell _ _ _ _ (fun e => hn (by rw [show k = B from e] at hk; exact hk)))
theorem grown_set1 (w : World) (g : Nat) (v : Value) : w.grownBy (w.setCell ⟨g, 0, none⟩ v) (some g) :=
  ⟨rfl, rfl, rfl, by simp, fun k _ hk => Below.heap_setCell _ _ _ _ (by simpa using hk)⟩
theorem two_set {Bl B : Nat} (W : World) (v : Value) (h : B < Bl) : Two Bl W (W.setCell ⟨B, 0, none⟩ v) :=
  ⟨Below.heap_setCell _ _ _ _ (by show Bl ≠ B; omega), Below.heap_setCell _ _ _ _ (by show Bl + 1 ≠ B; omega)⟩
theorem Two.trans {Bl : Nat} {A B C : World} (h : Two Bl A B) (k : Two Bl B C) : Two Bl A C := ⟨k.1.trans h.1, k.2.trans h.2⟩
theorem pre_snoc {q pre : Way} {x : ByteArray} : q <+: pre ++ [x] ↔ q <+: pre ∨ q = pre ++ [x] := by
  rw [List.prefix_concat_iff]
  exact Or.comm
/-- One part further. -/
theorem Along.next {lo N z : Nat} {μ : Way → Nat} {W : World} {β β' β'' : Way → Option Nat} {μ' μ'' : Way → Nat} {φ : Way → Option (ByteArray × Bool)} {pre : Way} {b c : Nat} {x : ByteArray} (h : Along lo N z μ W β β' μ' φ pre b) (hf : φ pre = none)
    {W' : World} (hT : TreeM lo (N + (pre ++ [x]).length) W' β'' μ'' φ) (hc : β'' (pre ++ [x]) = some c) (hs : ∀ q, q ≠ pre ++ [x] → β'' q = β' q ∧ μ'' q = μ' q) (ho : β (pre ++ [x]) ≠ none → β'' (pre ++ [x]) = β (pre ++ [x]) ∧ μ'' (pre ++ [x]) = μ (pre ++ [x])) (hn : β (pre ++ [x]) = none → z ≤ c ∧ z ≤ μ'' (pre ++ [x])) : Along lo N z μ W' β β'' μ'' φ (pre ++ [x]) c := by
  refine ⟨hT, hc, fun q => ?_, fun q h1 h2 => ?_, ?_, fun q hq => ?_, fun q b' hq hb' => ?_⟩
  · rw [pre_snoc]
    by_cases e : q = pre ++ [x]
    · rw [e, hc]; simp
    · rw [(hs q e).1, h.grown q]
      constructor
      · rintro (h1 | h1)
        · exact .inl h1
        · exact .inr (.inl h1)
      · rintro (h1 | h1 | h1)
        · exact .inl h1
        · exact .inr h1
        · exact absurd h1 e
  · rcases pre_snoc.1 h1 with h3 | h3
    · by_cases e : q = pre
      · rw [e]; exact hf
      · exact h.free q h3 e
    · exact absurd h3 h2
  · rw [(hs [] (fun h => by simp at h)).1]; exact h.root
  · by_cases e : q = pre ++ [x]
    · subst e; exact ho hq
    · rw [(hs q e).1, (hs q e).2]; exact h.old q hq
  · by_cases e : q = pre ++ [x]
    · subst e
      rw [hc] at hb'
      cases hb'
      exact hn hq
    · rw [(hs q e).1] at hb'
      rw [(hs q e).2]
      exact h.new q b' hq hb'

theorem node_cells {W : World} {b mb : Nat} {f : Option (ByteArray × Bool)} (h : W.heap[b]? = some (nodeObj f mb)) :
    W.cell? ⟨b, 0, none⟩ = some (.bool f.isSome) ∧ W.cell? ⟨b, 3, none⟩ = some (.map (some mb)) ∧ (∀ j, W.frozen? ⟨b, j, none⟩ = false) ∧
    W.cell? ⟨b, 1, none⟩ = some (.string ((f.map (·.1)).getD ⟨#[]⟩)) ∧ W.cell? ⟨b, 2, none⟩ = some (.bool ((f.map (·.2)).getD false)) := by
  cases f with
  | none =>
    have h' : W.heap[b]? = some (.cells #[.bool false, .string ⟨#[]⟩, .bool false, .map (some mb)] 132) := h
    refine ⟨?_, ?_, fun j => ?_, ?_, ?_⟩ <;> simp [World.cell?, World.frozen?, h']
  | some x =>
    obtain ⟨t, r⟩ := x
    have h' : W.heap[b]? = some (.cells #[.bool true, .string t, .bool r, .map (some mb)] 132) := h
    refine ⟨?_, ?_, fun j => ?_, ?_, ?_⟩ <;> simp [World.cell?, World.frozen?, h']

/-- What reach answers. -/
def ReachPost (lo N : Nat) (W0 : World) (β : Way → Option Nat) (μ : Way → Nat) (φ : Way → Option (ByteArray × Bool)) (ps : Way) (e : Ending) (W : World) : Prop :=
  (∃ β' μ' b, Along lo N W0.heap.size μ W β β' μ' φ ps b ∧ e = .returned (.tuple #[.pointer (some ⟨b, 0, none⟩), .bool true]) ∧ BT β μ W0 W) ∨
  (∃ β' μ' b q, Along lo N W0.heap.size μ W β β' μ' φ q b ∧ q <+: ps ∧ q ≠ ps ∧ φ q ≠ none ∧ e = .returned (.tuple #[.pointer none, .bool false]) ∧ BT β μ W0 W)

set_option maxRecDepth 100000 in
set_option maxHeartbeats 4000000 in
theorem reach_any (lo N root : Nat) (w : World) (β : Way → Option Nat) (μ : Way → Nat) (φ : Way → Option (ByteArray × Bool)) (hT : TreeM lo N w β μ φ) (hφ : ∀ q, φ q ≠ none → β q ≠ none) (hr : β [] = some root) (hN : N ≤ 100000) (s : ByteArray) (hs : s.size ≤ 100000) :
    Calls Try.prog 87 #[.pointer (some ⟨root, 0, none⟩), .string s] w fun e w' => ReachPost lo N w β μ φ (partsB s) e w' := by
  have hlo : lo ≤ w.heap.size := by have := hT.lt (k := root) (.inl ⟨[], hr⟩); omega
  refine (callsIn_wide (n := 5)).1 ?_
  refine callsIn_of_wp_marks Try.func87 rfl trivial ?_ rfl
  simp only [Try.ntmps87, List.size_toArray, List.length_cons, List.length_nil, Nat.reduceAdd, Nat.reduceSub, Array.replicate_succ, Array.replicate_zero, List.push_toArray, List.append_toArray, List.nil_append, List.cons_append]
  gi_wp2_with (refine ⟨trivial, ?_⟩; gi_at_call 89; refine (callsIn_wide.2 (partsOf_any s _)).mono ?_; rintro e w' ⟨rfl, rfl⟩)
  have b1 := Boxed.new w 111 (.pointer (some ⟨root, 0, none⟩))
  have b2 := Boxed.new (w.alloc (.cells #[.pointer (some ⟨root, 0, none⟩)] 111)) 111 (.pointer none)
  have b3 := Boxed.new ((w.alloc (.cells #[.pointer (some ⟨root, 0, none⟩)] 111)).alloc (.cells #[.pointer none] 111)) 4 (.bool false)
  have b4 := Boxed.new (((w.alloc (.cells #[.pointer (some ⟨root, 0, none⟩)] 111)).alloc (.cells #[.pointer none] 111)).alloc (.cells #[.bool false] 4)) 9 (.string s)
  simp only [World.size_alloc] at b2 b3 b4
  have hB0 : Below w.heap.size w ((((w.alloc (.cells #[.pointer (some ⟨root, 0, none⟩)] 111)).alloc (.cells #[.pointer none] 111)).alloc (.cells #[.bool false] 4)).alloc (.cells #[.string s] 9)) :=
    ((((Below.refl _ w).alloc (Nat.le_refl _) _).alloc (by simp) _).alloc (by simp; omega) _).alloc (by simp; omega) _
  have hsz : ((((w.alloc (.cells #[.pointer (some ⟨root, 0, none⟩)] 111)).alloc (.cells #[.pointer none] 111)).alloc (.cells #[.bool false] 4)).alloc (.cells #[.string s] 9)).heap.size ≥ w.heap.size + 4 := by simp
  have b1 := ((b1.alloc (.cells #[.pointer none] 111)).alloc (.cells #[.bool false] 4)).alloc (.cells #[.string s] 9)
  have b2 := (b2.alloc (.cells #[.bool false] 4)).alloc (.cells #[.string s] 9)
  have b3 := b3.alloc (.cells #[.string s] 9)
  generalize ((((w.alloc (.cells #[.pointer (some ⟨root, 0, none⟩)] 111)).alloc (.cells #[.pointer none] 111)).alloc (.cells #[.bool false] 4)).alloc (.cells #[.string s] 9)) = Wl at *
  have hTl := hT.below hB0
  have hBlo : BT β μ w Wl := BT.of_below hB0
  have hnB : ∀ k, Wl.heap.size ≤ k → ¬ TreeB β μ k := fun k hk h => by have := (hTl.lt h).2; omega
  have hA0 : Along lo N w.heap.size μ Wl β β μ φ [] root := ⟨hTl, hr, fun q => ⟨fun h => .inl h, fun h => h.elim id (fun h => by rw [List.prefix_nil.1 h]; exact hT.root)⟩, fun q h1 h2 => absurd (List.prefix_nil.1 h1) h2, rfl, fun _ _ => ⟨rfl, rfl⟩, fun q b hn hb => by rw [hn] at hb; cases hb⟩
  refine range_parts (n := 5) (by omega) (w.heap.size + 1 + 1 + 1) s (by omega) (by omega) b4.cell rfl rfl (ReachI lo N w.heap.size Wl.heap.size w β μ φ) (ReachX lo N w.heap.size Wl.heap.size w β μ φ)
    (fun pre W o h => ReachI.alloc pre W o h) (fun pre W k h => ReachI.drewN pre W k h) (fun pre W l o hl h => ReachI.putObj (by omega) (by omega) pre W l o hl h) (fun pre W l o hl h => ReachX.putObj (by omega) (by omega) pre W l o hl h)
    ⟨β, μ, root, hA0, b1, b2, b3, hBlo, hnB _ (Nat.le_refl _), hnB _ (by omega)⟩
    (fun x => { tmps := #[.pointer (some ⟨root, 0, none⟩), .string s, .pointer (some ⟨w.heap.size, 0, none⟩), undef, .pointer (some ⟨w.heap.size + 1, 0, none⟩), .pointer (some ⟨w.heap.size + 1 + 1, 0, none⟩), .string x, .string s, .func (.func 93) #[] #[.pointer (some ⟨w.heap.size + 1 + 1 + 1, 0, none⟩)], .string x, undef, undef, undef, undef, undef, undef, undef, undef, undef, undef, undef, undef, undef, undef, undef, undef, undef, undef, undef, undef, undef, undef, undef, undef, undef], defers := [] }) ?assign ?body ?done ?stop
  case assign =>
    intro l x W K hK
    gi_wp2
    exact hK
  case body =>
    rintro l pre x W ⟨β', μ', b, hA, h1, h2, h3, hB, h4, h5⟩ ⟨r, hr'⟩ hlt
    have hxs : x.size ≤ 100000 := by have := parts_size (s := s) (x := x) (by rw [hr']; simp); omega
    have hpl : pre.length ≤ 100001 := by
      have h1 := splitS_le s.data.toList
      have h2 : s.data.toList.length = s.size := (Lib.size_eq s).symm
      have h3 : (partsB s).length = (splitS s.data.toList).length := by rw [partsB, List.length_map]
      rw [hr'] at h3
      simp at h3
      omega
    obtain ⟨hob, hlb, hlm, hkd⟩ := hA.tree.node pre b hA.here
    obtain ⟨c0, c3, cf, _, _⟩ := node_cells hob
    have d1 := h1.cell
    have d2 := h2.cell
    have d3 := h3.cell
    have e1 := h1.frozen
    have e2 := h2.frozen
    have e3 := h3.frozen
    have hlk := hkd.look x (by omega)
    have hn1 := TreeB.box hA.tree h1
    have hn2 := TreeB.box hA.tree h2
    have hn3 := TreeB.box hA.tree h3
    have hpre : pre <+: pre ++ [x] := ⟨[x], rfl⟩
    cases hf : φ pre with
    | some f =>
      rw [hf] at c0
      gi_wp2
      refine ⟨(two_set W _ (by omega)).trans (two_set _ _ (by omega)), β', μ', b, pre, (hA.set hn2 _).set hn3 _, hpre, snoc_ne _ _, by rw [hf]; simp, (h2.set _).other (by omega) _, (h3.other (by omega) _).set _, (hB.row (grown_set1 W (w.heap.size + 1) _) (fun h => by omega)).row (grown_set1 _ (w.heap.size + 1 + 1) _) (fun h => by omega), h4, h5⟩
    | none =>
      rw [hf] at c0
      cases hk : β' (pre ++ [x]) with
      | some c =>
        rw [hk] at hlk
        unfold ptrV at hlk
        have hA2 := (hA.set hn1 (.pointer (some ⟨c, 0, none⟩))).next hf ((hA.set hn1 (.pointer (some ⟨c, 0, none⟩))).tree.mono (by simp)) hk (fun _ _ => ⟨rfl, rfl⟩) (fun h => hA.old _ h) (fun h => hA.new _ c h hk)
        gi_wp2
        exact ⟨two_set W _ (by omega), β', μ', c, hA2, h1.set _, h2.other (by omega) _, h3.other (by omega) _, hB.row (grown_set1 W w.heap.size _) (fun h => by omega), h4, h5⟩
      | none =>
        rw [hk] at hlk
        unfold ptrV at hlk
        have hφx : φ (pre ++ [x]) = none := by
          cases hx : φ (pre ++ [x]) with
          | none => rfl
          | some f => exact absurd hk ((hA.grown _).2 (.inl (hφ _ (by rw [hx]; simp))))
        obtain ⟨W2, hrun, hT2, hg2⟩ := (hA.turn (W' := W.drew) (fun _ _ => rfl)).tree.step hA.here hk hφx (by omega) (by omega)
        have hnew : CallsIn (Fence.wide.inRound l) 2 Try.prog 79 #[] W.drew fun e w' => e = .returned (.pointer (some ⟨W.heap.size + 1, 0, none⟩)) ∧ w'.cell? ⟨w.heap.size, 0, none⟩ = some (.pointer (some ⟨b, 0, none⟩)) ∧ w'.cell? ⟨b, 3, none⟩ = some (.map (some (μ' pre))) ∧ (Instr.mapUpdate 130 (.map (some (μ' pre))) (.string x) (.pointer (some ⟨W.heap.size + 1, 0, none⟩))).run Try.prog w' = .ok () W2 := by
          refine (CallsIn.inRound l (callsIn_wide.2 (newNode_any W.drew))).mono ?_
          rintro e w' ⟨rfl, rfl⟩
          exact ⟨rfl, cell_on _ (cell_on _ d1), cell_on _ (cell_on _ c3), hrun⟩
        have hold : ∀ k, k < W.heap.size → k ≠ μ' pre → W2.heap[k]? = W.heap[k]? := fun k hk1 hne => by
          rw [hg2.block k (by simp; omega) (by simp; exact hne)]
          exact (Below.heap_alloc _ _ k (by simp; omega)).trans (Below.heap_alloc _ _ k hk1)
        have hmB : TreeB β' μ' (μ' pre) := .inr ⟨pre, by rw [hA.here]; simp, rfl⟩
        have hmN : ∀ k, ¬ TreeB β' μ' k → k ≠ μ' pre := fun k hk1 e => hk1 (e ▸ hmB)
        have hb1 : Boxed W2 w.heap.size 111 (.pointer (some ⟨b, 0, none⟩)) := boxed_block h1 (hold _ h1.lt (hmN _ hn1))
        have hb2 : Boxed W2 (w.heap.size + 1) 111 (.pointer none) := boxed_block h2 (hold _ h2.lt (hmN _ hn2))
        have hb3 : Boxed W2 (w.heap.size + 1 + 1) 4 (.bool false) := boxed_block h3 (hold _ h3.lt (hmN _ hn3))
        have hh2 : upd β' (pre ++ [x]) (some (W.heap.size + 1)) pre = some b := by rw [upd_other _ _ (snoc_ne _ _)]; exact hA.here
        obtain ⟨hob2, _, _, hkd2⟩ := hT2.node pre b hh2
        rw [upd_other _ _ (snoc_ne pre x)] at hob2 hkd2
        obtain ⟨_, c32, _, _, _⟩ := node_cells hob2
        have hlk2 := hkd2.look x (by omega)
        rw [upd_same] at hlk2
        unfold ptrV at hlk2
        have g1 := hb1.cell
        have g2 := hb1.frozen
        have hmo : μ' pre < w.heap.size → TreeB β μ (μ' pre) := fun h => by
          cases hbp : β pre with
          | none => have := (hA.new pre b hbp hA.here).2; omega
          | some bb => have := (hA.old pre (by rw [hbp]; simp)).2; rw [this]; exact .inr ⟨pre, by rw [hbp]; simp, rfl⟩
        have hBW2 : BT β μ w W2 := ((hB.on (W' := W.drew) ⟨rfl, rfl, rfl, Nat.le_refl _, fun _ _ _ => rfl⟩).on (World.grownBy_alloc _ _ none)).on (World.grownBy_alloc _ _ none) |>.row hg2 hmo
        have hnT : ∀ k, k < W.heap.size → ¬ TreeB β' μ' k → ¬ TreeB (upd β' (pre ++ [x]) (some (W.heap.size + 1))) (upd μ' (pre ++ [x]) W.heap.size) k := fun k hk1 hk2 h => by
          rcases h with ⟨p, hp⟩ | ⟨p, hp, hm⟩
          · by_cases e : p = pre ++ [x]
            · rw [e, upd_same] at hp; cases hp; omega
            · rw [upd_other _ _ e] at hp; exact hk2 (.inl ⟨p, hp⟩)
          · by_cases e : p = pre ++ [x]
            · rw [e, upd_same] at hm; omega
            · rw [upd_other _ _ e] at hp hm; exact hk2 (.inr ⟨p, hp, hm⟩)
        have htwo : Two Wl.heap.size W W2 := ⟨hold _ (by omega) (hmN _ h4), hold _ hlt (hmN _ h5)⟩
        have hA2 : Along lo N w.heap.size μ W2 β (upd β' (pre ++ [x]) (some (W.heap.size + 1))) (upd μ' (pre ++ [x]) W.heap.size) φ (pre ++ [x]) (W.heap.size + 1) :=
          hA.next hf (by rw [List.length_append]; exact hT2) (upd_same _ _ _) (fun q hq => ⟨upd_other _ _ hq, upd_other _ _ hq⟩) (fun h => absurd hk ((hA.grown _).2 (.inl h))) (fun _ => by rw [upd_same]; have := hB.size; omega)
        have hA3 := hA2.set (hnT _ (Nat.lt_of_lt_of_le h1.lt (Nat.le_refl _)) hn1) (.pointer (some ⟨W.heap.size + 1, 0, none⟩))
        clear hrun hold hmB hmN hob2 hkd2 hT2 hg2
        gi_wp2
        gi_region_with (refine ⟨trivial, ?_⟩; gi_at_call 79; refine hnew.mono ?_; rintro e w' ⟨rfl, k1, k2, k3⟩)
        all_goals gi_wp2
        all_goals exact ⟨htwo.trans (two_set _ _ (by omega)), _, _, _, hA3, hb1.set _, hb2.other (by omega) _, hb3.other (by omega) _, hBW2.row (grown_set1 W2 w.heap.size _) (fun h => by omega), hnT _ (by omega) h4, hnT _ hlt h5⟩
  case done =>
    rintro W ⟨β', μ', b, hA, h1, h2, h3, hB, h4, h5⟩ hK
    have c1 := h1.cell
    have c2 := h2.cell
    have f2 := h2.frozen
    have c3 := h3.cell
    have f3 := h3.frozen
    gi_wp2
    have hn2 := TreeB.box hA.tree h2
    have hn3 := TreeB.box hA.tree h3
    have hA2 := (hA.set hn2 (.pointer (some ⟨b, 0, none⟩))).set hn3 (.bool true)
    have hB2 := (hB.row (grown_set1 W (w.heap.size + 1) (.pointer (some ⟨b, 0, none⟩))) (fun h => by omega)).row (grown_set1 _ (w.heap.size + 1 + 1) (.bool true)) (fun h => by omega)
    have hb2 := (h2.set (.pointer (some ⟨b, 0, none⟩))).other (B' := w.heap.size + 1 + 1) (by omega) (.bool true)
    have hb3 := (h3.other (B' := w.heap.size + 1) (by omega) (.pointer (some ⟨b, 0, none⟩))).set (.bool true)
    have hK2 : ((W.setCell ⟨w.heap.size + 1, 0, none⟩ (.pointer (some ⟨b, 0, none⟩))).setCell ⟨w.heap.size + 1 + 1, 0, none⟩ (.bool true)).heap[Wl.heap.size]? = some (.deferred (some [])) :=
      (((two_set W (.pointer (some ⟨b, 0, none⟩)) (show w.heap.size + 1 < Wl.heap.size by omega)).trans (two_set _ (.bool true) (show w.heap.size + 1 + 1 < Wl.heap.size by omega))).1).trans hK
    generalize (W.setCell ⟨w.heap.size + 1, 0, none⟩ (.pointer (some ⟨b, 0, none⟩))).setCell ⟨w.heap.size + 1 + 1, 0, none⟩ (.bool true) = W3 at *
    refine ⟨by simp, .inl ⟨_, _, rfl, run_takeDeferred hK2, ?_⟩⟩
    have hb4 := (boxed_block hb2 (World.putObj_heap_other (o := .deferred none) (show w.heap.size + 1 ≠ Wl.heap.size by omega))).cell
    have hb5 := (boxed_block hb3 (World.putObj_heap_other (o := .deferred none) (show w.heap.size + 1 + 1 ≠ Wl.heap.size by omega))).cell
    refine ⟨.tuple #[.pointer (some ⟨b, 0, none⟩), .bool true], ?_, .inl ⟨β', μ', b, hA2.turn (fun k hk => World.putObj_heap_other (fun e => h4 (e ▸ hk))), rfl, hB2.row (grownBy_putObj' _ _ _) (fun h => by omega)⟩⟩
    simp [results, Try.f87, go_sem, hb4, hb5]
  case stop =>
    rintro pre W hpre ⟨β', μ', b, q, hA, hq, hne, hf, h2, h3, hB, h4, h5⟩ hK
    gi_wp2
    refine ⟨by simp, .inl ⟨_, _, rfl, run_takeDeferred hK, ?_⟩⟩
    have hb4 := (boxed_block h2 (World.putObj_heap_other (o := .deferred none) (show w.heap.size + 1 ≠ Wl.heap.size by omega))).cell
    have hb5 := (boxed_block h3 (World.putObj_heap_other (o := .deferred none) (show w.heap.size + 1 + 1 ≠ Wl.heap.size by omega))).cell
    have hql : q ≠ partsB s := fun e => by
      have l1 := hpre.length_le
      have l2 := hq.length_le
      have : q.length = pre.length := by rw [e] at l2 ⊢; omega
      exact hne (hq.eq_of_length this)
    refine ⟨.tuple #[.pointer none, .bool false], ?_, .inr ⟨β', μ', b, q, hA.turn (fun k hk => World.putObj_heap_other (fun e => h4 (e ▸ hk))), hq.trans hpre, hql, hf, rfl, hB.row (grownBy_putObj' _ _ _) (fun h => by omega)⟩⟩
    simp [results, Try.f87, go_sem, hb4, hb5]
end Go.Proofs.Ytockgapdfcapnaa
