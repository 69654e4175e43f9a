/-
  Trees of impl's nodes in memory.
-/
import Derived.Test.YtockgapdfcapnaaTreeDo
import Derived.RangeFuncBox
namespace Go.Proofs.Ytockgapdfcapnaa
open Go.RowKit

abbrev Way := List ByteArray

theorem key_str (x : ByteArray) (h : x.size ≤ 1099511627776) : keyOf Try.prog 9 (.string x) = some (.string x.data.toList) := by
  have hm : x.size ≤ maxLen := by unfold maxLen; omega
  simp [keyOf, mapKey, Try.underlying9, hm]

theorem strKeyed : Maps.Keyed Try.prog 9 := Maps.string_keyed Try.underlying9
theorem zeroPtr (w : World) : (zeroValue 111).run Try.prog w = .ok (ptrV none) w := by kernel_rfl

/-- The cells of a node. -/
def nodeObj (f : Option (ByteArray × Bool)) (mb : Nat) : Obj :=
  match f with
  | none => .cells #[.bool false, .string ⟨#[]⟩, .bool false, .map (some mb)] 132
  | some (t, r) => .cells #[.bool true, .string t, .bool r, .map (some mb)] 132

/-- A map of kids. -/
structure Kids (W : World) (mb N : Nat) (kid : ByteArray → Option Nat) : Prop where
  own : ∃ n D, W.ownsMap Try.prog 9 ptrR mb n D ∧ n ≤ N ∧ (∀ x : ByteArray, x.size ≤ 1099511627776 → D.atKey (.string x.data.toList) (ptrL none) = ptrL (kid x)) ∧ (Maps.size D = 0 ↔ ∀ x, kid x = none) ∧ ∀ x : ByteArray, Maps.has D (.string x.data.toList) = true → kid x ≠ none

theorem Kids.block {W W' : World} {mb N : Nat} {kid : ByteArray → Option Nat} (h : Kids W mb N kid) (hb : W'.heap[mb]? = W.heap[mb]?) : Kids W' mb N kid := by
  obtain ⟨n, D, ⟨es, clock, h1, h2⟩, r⟩ := h.own
  exact ⟨n, D, ⟨es, clock, hb.trans h1, h2⟩, r⟩
theorem Kids.obj {W : World} {mb N : Nat} {kid : ByteArray → Option Nat} (h : Kids W mb N kid) : ∃ es clock, W.heap[mb]? = some (.map es clock) := by
  obtain ⟨n, D, ⟨es, clock, h1, h2⟩, r⟩ := h.own
  exact ⟨es, clock, h1⟩
theorem Kids.mono {W : World} {mb N N' : Nat} {kid : ByteArray → Option Nat} (h : Kids W mb N kid) (hN : N ≤ N') : Kids W mb N' kid := by
  obtain ⟨n, D, h1, h2, r⟩ := h.own
  exact ⟨n, D, h1, Nat.le_trans h2 hN, r⟩
theorem Kids.look {W : World} {mb N : Nat} {kid : ByteArray → Option Nat} (h : Kids W mb N kid) (x : ByteArray) (hx : x.size ≤ 1099511627776) :
    (Instr.lookup 130 (.map (some mb)) (.string x) false).run Try.prog W = .ok (ptrV (kid x)) W := by
  obtain ⟨n, D, h1, h2, h3, h4⟩ := h.own
  obtain ⟨v, ps, hrun, hv⟩ := h1.lookup strKeyed Try.underlying130 (zeroPtr W) (ptrR_mk none) (key_str x hx)
  rw [h3 x hx] at hv
  rw [hrun, ptrR_inv hv]
theorem Kids.len {W : World} {mb N : Nat} {kid : ByteArray → Option Nat} (h : Kids W mb N kid) (ty : TypeId) :
    ∃ c : Nat, (Builtin.len_ #[130] ty #[.map (some mb)]).run Try.prog W = .ok (.int .i64 c) W ∧ (c = 0 ↔ ∀ x, kid x = none) ∧ c ≤ N := by
  obtain ⟨n, D, h1, h2, h3, h4⟩ := h.own
  exact ⟨Maps.size D, h1.len Try.underlying130 ty, h4.1, Nat.le_trans h1.size_le h2⟩

/-- A tree of nodes: β says where the node of a way lies, μ where its map, φ what file is there. -/
structure TreeM (lo N : Nat) (W : World) (β : Way → Option Nat) (μ : Way → Nat) (φ : Way → Option (ByteArray × Bool)) : Prop where
  node : ∀ p b, β p = some b → W.heap[b]? = some (nodeObj (φ p) (μ p)) ∧ lo ≤ b ∧ lo ≤ μ p ∧ Kids W (μ p) N (fun x => β (p ++ [x]))
  inj : ∀ p q b, β p = some b → β q = some b → p = q
  minj : ∀ p q, β p ≠ none → β q ≠ none → μ p = μ q → p = q
  up : ∀ p x, β (p ++ [x]) ≠ none → β p ≠ none
  root : β [] ≠ none

/-- A block of the tree. -/
def TreeB (β : Way → Option Nat) (μ : Way → Nat) (k : Nat) : Prop := (∃ p, β p = some k) ∨ ∃ p, β p ≠ none ∧ μ p = k

theorem TreeM.turn {lo N : Nat} {W W' : World} {β : Way → Option Nat} {μ : Way → Nat} {φ : Way → Option (ByteArray × Bool)} (h : TreeM lo N W β μ φ) (hk : ∀ k, TreeB β μ k → W'.heap[k]? = W.heap[k]?) : TreeM lo N W' β μ φ := by
  refine ⟨fun p b hb => ?_, h.inj, h.minj, h.up, h.root⟩
  obtain ⟨h1, h2, h3, h4⟩ := h.node p b hb
  exact ⟨(hk b (.inl ⟨p, hb⟩)).trans h1, h2, h3, h4.block (hk _ (.inr ⟨p, by rw [hb]; simp, rfl⟩))⟩
theorem TreeM.lt {lo N : Nat} {W : World} {β : Way → Option Nat} {μ : Way → Nat} {φ : Way → Option (ByteArray × Bool)} (h : TreeM lo N W β μ φ) {k : Nat} (hk : TreeB β μ k) : lo ≤ k ∧ k < W.heap.size := by
  rcases hk with ⟨p, hp⟩ | ⟨p, hp, rfl⟩
  · obtain ⟨h1, h2, _, _⟩ := h.node p k hp
    exact ⟨h2, (Array.getElem?_eq_some_iff.1 h1).1⟩
  · cases hb : β p with
    | none => exact absurd hb hp
    | some b =>
      obtain ⟨_, _, h3, h4⟩ := h.node p b hb
      obtain ⟨es, cl, ho⟩ := h4.obj
      exact ⟨h3, (Array.getElem?_eq_some_iff.1 ho).1⟩
theorem TreeM.below {lo N : Nat} {W W' : World} {β : Way → Option Nat} {μ : Way → Nat} {φ : Way → Option (ByteArray × Bool)} (h : TreeM lo N W β μ φ) (hb : Below W.heap.size W W') : TreeM lo N W' β μ φ :=
  h.turn (fun k hk => hb.block k (h.lt hk).2)
theorem TreeM.mono {lo N N' : Nat} {W : World} {β : Way → Option Nat} {μ : Way → Nat} {φ : Way → Option (ByteArray × Bool)} (h : TreeM lo N W β μ φ) (hN : N ≤ N') : TreeM lo N' W β μ φ :=
  ⟨fun p b hb => by obtain ⟨h1, h2, h3, h4⟩ := h.node p b hb; exact ⟨h1, h2, h3, h4.mono hN⟩, h.inj, h.minj, h.up, h.root⟩
/-- What else lies in memory is no block of the tree. -/
theorem TreeM.notBox {lo N : Nat} {W : World} {β : Way → Option Nat} {μ : Way → Nat} {φ : Way → Option (ByteArray × Bool)} (h : TreeM lo N W β μ φ) {k : Nat} {o : Obj} (ho : W.heap[k]? = some o) (hn : ∀ f m, o ≠ nodeObj f m) (hm : ∀ es cl, o ≠ .map es cl) : ¬ TreeB β μ k := by
  rintro (⟨p, hp⟩ | ⟨p, hp, rfl⟩)
  · obtain ⟨h1, _⟩ := h.node p k hp
    rw [ho] at h1
    exact hn _ _ (Option.some.inj h1)
  · cases hb : β p with
    | none => exact hp hb
    | some b =>
      obtain ⟨_, _, _, h4⟩ := h.node p b hb
      obtain ⟨es, cl, h5⟩ := h4.obj
      rw [ho] at h5
      exact hm _ _ (Option.some.inj h5)
theorem box_notNode (v : Value) (t : TypeId) (f : Option (ByteArray × Bool)) (m : Nat) : Obj.cells #[v] t ≠ nodeObj f m := by
  unfold nodeObj
  split <;> (intro e; injection e with e1; simp at e1)

def upd {α : Type} (f : Way → α) (p : Way) (v : α) : Way → α := fun q => if q = p then v else f q
theorem upd_same {α : Type} (f : Way → α) (p : Way) (v : α) : upd f p v p = v := by simp [upd]
theorem upd_other {α : Type} (f : Way → α) {p q : Way} (v : α) (h : q ≠ p) : upd f p v q = f q := by simp [upd, h]
theorem snoc_ne (p : Way) (x : ByteArray) : p ≠ p ++ [x] := fun h => by have := congrArg List.length h; simp at this
theorem snoc_inj {p q : Way} {x y : ByteArray} (h : p ++ [x] = q ++ [y]) : p = q ∧ x = y := by
  have h1 := congrArg List.dropLast h
  have h2 := congrArg List.getLast? h
  simp at h1 h2
  exact ⟨h1, h2⟩
theorem str_lit {x y : ByteArray} (h : y ≠ x) : (Lit.string y.data.toList) ≠ Lit.string x.data.toList := fun e => by
  injection e with e
  exact h (WideShapes.bytes_inj e)

theorem Kids.put {W' : World} {mb N n : Nat} {D : DataW Unit} {kid : ByteArray → Option Nat} (x : ByteArray) (c : Nat) (hh : ∀ x : ByteArray, Maps.has D (.string x.data.toList) = true → kid x ≠ none) (h3 : ∀ x : ByteArray, x.size ≤ 1099511627776 → D.atKey (.string x.data.toList) (ptrL none) = ptrL (kid x)) (hD : Maps.IsMap D) (hn : n ≤ N)
    (ho : W'.ownsMap Try.prog 9 ptrR mb (n + 1) (D.put (.string x.data.toList) (ptrL (some c)))) (hs : Maps.size (D.put (.string x.data.toList) (ptrL (some c))) ≠ 0) :
    Kids W' mb (N + 1) (fun y => if y = x then some c else kid y) := by
  refine ⟨n + 1, _, ho, by omega, fun y hy => ?_, ⟨fun h => absurd h hs, fun h => ?_⟩, fun y hy => ?_⟩
  · by_cases e : y = x
    · subst e
      rw [Maps.atKey_put_same hD (show WideAt.IsKeyLit (.string _) from trivial)]
      simp
    · rw [Maps.atKey_put_other (str_lit e), h3 y hy]
      simp [e]
  · have := h x
    simp at this
  · by_cases e : y = x
    · simp [e]
    · rw [Maps.has_put_other (str_lit e)] at hy
      simpa [e] using hh y hy

theorem TreeM.add {lo N n : Nat} {W W2 : World} {β : Way → Option Nat} {μ : Way → Nat} {φ : Way → Option (ByteArray × Bool)} {p : Way} {b : Nat} {x : ByteArray} {D : DataW Unit} (h : TreeM lo N W β μ φ) (hb : β p = some b) (hx : β (p ++ [x]) = none) (hφ : φ (p ++ [x]) = none)
    (hh : ∀ x : ByteArray, Maps.has D (.string x.data.toList) = true → β (p ++ [x]) ≠ none) (h3 : ∀ x : ByteArray, x.size ≤ 1099511627776 → D.atKey (.string x.data.toList) (ptrL none) = ptrL (β (p ++ [x]))) (hD : Maps.IsMap D) (hn : n ≤ N)
    (ho : W2.ownsMap Try.prog 9 ptrR (μ p) (n + 1) (D.put (.string x.data.toList) (ptrL (some (W.heap.size + 1))))) (hs : Maps.size (D.put (.string x.data.toList) (ptrL (some (W.heap.size + 1)))) ≠ 0)
    (hg : ((W.alloc (.map #[] 0)).alloc (nodeObj none W.heap.size)).grownBy W2 (some (μ p))) :
    TreeM lo (N + 1) W2 (upd β (p ++ [x]) (some (W.heap.size + 1))) (upd μ (p ++ [x]) W.heap.size) φ := by
  have hmp : TreeB β μ (μ p) := .inr ⟨p, by rw [hb]; simp, rfl⟩
  obtain ⟨hlo, hmlt⟩ := h.lt hmp
  have hold : ∀ k, k < W.heap.size → k ≠ μ p → W2.heap[k]? = W.heap[k]? := fun k hk hne => by
    rw [hg.block k (by simp; omega) (by simp; exact hne)]
    exact (Below.heap_alloc _ _ k (by simp; omega)).trans (Below.heap_alloc _ _ k hk)
  have hM : W2.heap[W.heap.size]? = some (.map #[] 0) := by
    rw [hg.block W.heap.size (by simp; omega) (by simp; omega)]
    exact (Below.heap_alloc _ _ _ (by simp)).trans (World.alloc_heap_new W _)
  have hN : W2.heap[W.heap.size + 1]? = some (nodeObj none W.heap.size) := by
    rw [hg.block (W.heap.size + 1) (by simp) (by simp; omega)]
    have := World.alloc_heap_new (W.alloc (.map #[] 0)) (nodeObj none W.heap.size)
    rwa [World.size_alloc] at this
  have hmade : (W.alloc (.map #[] 0)).ownsMap Try.prog 9 ptrR W.heap.size 0 (.map []) := World.ownsMap_made _ _ _ _
  have hbne : ∀ q bq, β q = some bq → bq ≠ μ p := fun q bq hq e => by
    obtain ⟨h1, _⟩ := h.node q bq hq
    obtain ⟨_, _, _, h4⟩ := h.node p b hb
    obtain ⟨es, cl, h5⟩ := h4.obj
    rw [e, h5] at h1
    unfold nodeObj at h1
    split at h1 <;> cases h1
  refine ⟨fun q bq hq => ?_, fun q r c hq hr => ?_, fun q r hq hr e => ?_, fun q y hq => ?_, ?_⟩
  · by_cases e : q = p ++ [x]
    · subst e
      rw [upd_same] at hq
      cases hq
      refine ⟨by rw [upd_same, hφ]; exact hN, by omega, by rw [upd_same]; omega, ?_⟩
      rw [upd_same]
      obtain ⟨es, cl, m1, m2⟩ := hmade
      have m1' : (W.alloc (.map #[] 0)).heap[W.heap.size]? = some (.map #[] 0) := World.alloc_heap_new W _
      rw [m1'] at m1
      refine ⟨0, .map [], ⟨es, cl, hM.trans m1, m2⟩, Nat.zero_le _, fun y _ => ?_, ⟨fun _ y => ?_, fun _ => rfl⟩, fun y hy => by rw [Maps.has_eq] at hy; simp at hy⟩
      · have : β (p ++ [x] ++ [y]) = none := by
          cases hc : β (p ++ [x] ++ [y]) with
          | none => rfl
          | some c => exact absurd hx (h.up (p ++ [x]) y (by rw [hc]; simp))
        rw [upd_other _ _ (Ne.symm (snoc_ne _ _)), this]
        rfl
      · rw [upd_other _ _ (Ne.symm (snoc_ne _ _))]
        cases hc : β (p ++ [x] ++ [y]) with
        | none => rfl
        | some c => exact absurd hx (h.up (p ++ [x]) y (by rw [hc]; simp))
    · rw [upd_other _ _ e] at hq
      obtain ⟨h1, h2, h3', h4⟩ := h.node q bq hq
      have hlt := (Array.getElem?_eq_some_iff.1 h1).1
      refine ⟨by rw [upd_other _ _ e]; exact (hold bq hlt (hbne q bq hq)).trans h1, h2, by rw [upd_other _ _ e]; exact h3', ?_⟩
      rw [upd_other _ _ e]
      by_cases eq : q = p
      · subst eq
        have hk := Kids.put (kid := fun y => β (q ++ [y])) x (W.heap.size + 1) hh h3 hD hn ho hs
        have hfun : (fun y => upd β (q ++ [x]) (some (W.heap.size + 1)) (q ++ [y])) = fun y => if y = x then some (W.heap.size + 1) else β (q ++ [y]) := by
          funext y
          by_cases ey : y = x
          · subst ey; rw [upd_same]; simp
          · rw [upd_other _ _ (fun h => ey (snoc_inj h).2)]; simp [ey]
        rw [hfun]
        exact hk
      · have hmne : μ q ≠ μ p := fun e' => eq (h.minj q p (by rw [hq]; simp) (by rw [hb]; simp) e')
        obtain ⟨es, cl, h5⟩ := h4.obj
        have hfun : (fun y => upd β (p ++ [x]) (some (W.heap.size + 1)) (q ++ [y])) = fun y => β (q ++ [y]) := by
          funext y
          exact upd_other _ _ (fun h => eq (snoc_inj h).1)
        rw [hfun]
        exact (h4.block (hold _ (Array.getElem?_eq_some_iff.1 h5).1 hmne)).mono (by omega)
  · by_cases e1 : q = p ++ [x]
    · by_cases e2 : r = p ++ [x]
      · rw [e1, e2]
      · rw [e1, upd_same] at hq
        rw [upd_other _ _ e2] at hr
        cases hq
        have := (h.lt (.inl ⟨r, hr⟩)).2
        omega
    · rw [upd_other _ _ e1] at hq
      by_cases e2 : r = p ++ [x]
      · rw [e2, upd_same] at hr
        cases hr
        have := (h.lt (.inl ⟨q, hq⟩)).2
        omega
      · rw [upd_other _ _ e2] at hr
        exact h.inj q r c hq hr
  · by_cases e1 : q = p ++ [x]
    · by_cases e2 : r = p ++ [x]
      · rw [e1, e2]
      · rw [e1, upd_same, upd_other _ _ e2] at e
        rw [upd_other _ _ e2] at hr
        have := (h.lt (.inr ⟨r, hr, rfl⟩)).2
        omega
    · rw [upd_other _ _ e1] at hq
      by_cases e2 : r = p ++ [x]
      · rw [e2, upd_same, upd_other _ _ e1] at e
        have := (h.lt (.inr ⟨q, hq, rfl⟩)).2
        omega
      · rw [upd_other _ _ e2] at hr
        rw [upd_other _ _ e1, upd_other _ _ e2] at e
        exact h.minj q r hq hr e
  · by_cases e1 : q ++ [y] = p ++ [x]
    · obtain ⟨rfl, rfl⟩ := snoc_inj e1
      rw [upd_other _ _ (snoc_ne _ _), hb]
      simp
    · rw [upd_other _ _ e1] at hq
      have := h.up q y hq
      by_cases e2 : q = p ++ [x]
      · rw [e2, upd_same]; simp
      · rw [upd_other _ _ e2]; exact this
  · rw [upd_other _ _ (fun h => by simp at h)]
    exact h.root

/-- A new node is put among the kids. -/
theorem TreeM.step {lo N : Nat} {W : World} {β : Way → Option Nat} {μ : Way → Nat} {φ : Way → Option (ByteArray × Bool)} {p : Way} {b : Nat} {x : ByteArray} (h : TreeM lo N W β μ φ) (hb : β p = some b) (hx : β (p ++ [x]) = none) (hφ : φ (p ++ [x]) = none) (hxs : x.size ≤ 1099511627776) (hN : N ≤ 1000000) :
    ∃ W2, (Instr.mapUpdate 130 (.map (some (μ p))) (.string x) (.pointer (some ⟨W.heap.size + 1, 0, none⟩))).run Try.prog ((W.alloc (.map #[] 0)).alloc (.cells #[.bool false, .string ⟨#[]⟩, .bool false, .map (some W.heap.size)] 132)) = .ok () W2 ∧
      TreeM lo (N + 1) W2 (upd β (p ++ [x]) (some (W.heap.size + 1))) (upd μ (p ++ [x]) W.heap.size) φ ∧
      ((W.alloc (.map #[] 0)).alloc (.cells #[.bool false, .string ⟨#[]⟩, .bool false, .map (some W.heap.size)] 132)).grownBy W2 (some (μ p)) := by
  obtain ⟨_, _, _, h4⟩ := h.node p b hb
  obtain ⟨n, D, h1, h2, h3, _, hh⟩ := h4.own
  have hal : Below W.heap.size W ((W.alloc (.map #[] 0)).alloc (.cells #[.bool false, .string ⟨#[]⟩, .bool false, .map (some W.heap.size)] 132)) := ((Below.refl _ _).alloc (Nat.le_refl _) _).alloc (by simp) _
  have h1' : ((W.alloc (.map #[] 0)).alloc (.cells #[.bool false, .string ⟨#[]⟩, .bool false, .map (some W.heap.size)] 132)).ownsMap Try.prog 9 ptrR (μ p) n D := by
    have hlt := h1.lt
    obtain ⟨es, clock, m1, m2⟩ := h1
    exact ⟨es, clock, (hal.block _ hlt).trans m1, m2⟩
  obtain ⟨W2, hrun, ho, ht⟩ := h1'.store strKeyed Try.underlying130 (by unfold maxLen; omega) (key_str x hxs) (ptrR_mk (some (W.heap.size + 1)))
  have hs : Maps.size (D.put (.string x.data.toList) (ptrL (some (W.heap.size + 1)))) ≠ 0 := by
    rw [Maps.size_put (h1.tidy strKeyed)]
    split
    · rename_i hh
      intro e
      obtain ⟨es, rfl⟩ := h1.isMap
      have h0 : es = [] := List.eq_nil_of_length_eq_zero e
      rw [h0, Maps.has_eq] at hh
      simp at hh
    · omega
  exact ⟨W2, hrun, h.add hb hx hφ hh h3 h1.isMap h2 ho hs ht.grown, ht.grown⟩
end Go.Proofs.Ytockgapdfcapnaa
