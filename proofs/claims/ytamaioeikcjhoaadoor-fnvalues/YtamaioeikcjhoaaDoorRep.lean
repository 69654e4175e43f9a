/-
  How impl's parts lie in memory: 'Rep w ok t v': v is tree t in world w, over blocks that are ok.
-/
import Derived.Test.YtamaioeikcjhoaaDoorParts
namespace Go.Proofs.YtamaioeikcjhoaaDoor
open Go.RowKit

/-- One after the other in a block. -/
def rowR (w : World) (b : Nat) : Nat → List (Value → Prop) → Prop
  | _, [] => True
  | off, p :: r => (∃ u, w.cell? ⟨b, off, none⟩ = some u ∧ p u) ∧ rowR w b (off + 1) r
def rowF (w : World) (b : Nat) : Nat → List ByteArray → List (Value → Prop) → Prop
  | _, _, [] => True
  | off, ns, p :: r => w.cell? ⟨b, off, none⟩ = some (.string (ns.headD ⟨#[]⟩)) ∧ (∃ u, w.cell? ⟨b, off + 1, none⟩ = some u ∧ p u) ∧ rowF w b (off + 2) ns.tail r
def Rep (w : World) (ok : Nat → Prop) : T → Value → Prop
  | ⟨.inl (.inl n)⟩ => fun v => v = .iface 122 (.agg #[.int .i64 n])
  | ⟨.inl (.inr n)⟩ => fun v => v = .iface 123 (.agg #[.int .i64 n])
  | ⟨.inr (.inl s)⟩ => fun v => v = .iface 125 (.agg #[.string s])
  | ⟨.inr (.inr (.inl ks))⟩ => fun v => ∃ ad cap, v = .iface 128 (.agg #[.slice ad ks.length cap]) ∧ ks.length ≤ 300 ∧ (ks.length = 0 ∨ ∃ b, ad = some ⟨b, 0, none⟩ ∧ ok b ∧ rowR w b 0 (ks.map fun k => Rep w ok k))
  | ⟨.inr (.inr (.inr (ns, vs)))⟩ => fun v => ∃ ad cap, v = .iface 133 (.agg #[.slice ad vs.length cap]) ∧ ns.length = vs.length ∧ vs.length ≤ 300 ∧ (vs.length = 0 ∨ ∃ b, ad = some ⟨b, 0, none⟩ ∧ ok b ∧ rowF w b 0 ns (vs.map fun k => Rep w ok k))
def RepL (w : World) (ok : Nat → Prop) (b : Nat) : Nat → List T → Prop
  | _, [] => True
  | off, t :: r => (∃ u, w.cell? ⟨b, off, none⟩ = some u ∧ Rep w ok t u) ∧ RepL w ok b (off + 1) r
def RepF (w : World) (ok : Nat → Prop) (b : Nat) : Nat → List ByteArray → List T → Prop
  | _, _, [] => True
  | off, ns, t :: r => w.cell? ⟨b, off, none⟩ = some (.string (ns.headD ⟨#[]⟩)) ∧ (∃ u, w.cell? ⟨b, off + 1, none⟩ = some u ∧ Rep w ok t u) ∧ RepF w ok b (off + 2) ns.tail r
theorem rowR_map (w : World) (ok : Nat → Prop) (b : Nat) : ∀ (off : Nat) (ks : List T), rowR w b off (ks.map fun k => Rep w ok k) = RepL w ok b off ks
  | _, [] => rfl
  | off, t :: r => by simp only [List.map_cons, rowR, RepL, rowR_map w ok b (off + 1) r]
theorem rowF_map (w : World) (ok : Nat → Prop) (b : Nat) : ∀ (off : Nat) (ns : List ByteArray) (ks : List T), rowF w b off ns (ks.map fun k => Rep w ok k) = RepF w ok b off ns ks
  | _, _, [] => rfl
  | off, ns, t :: r => by simp only [List.map_cons, rowF, RepF, rowF_map w ok b (off + 2) ns.tail r]
theorem Rep.flag (w : World) (ok : Nat → Prop) (n : Int) (v : Value) : Rep w ok (T.flag n) v = (v = .iface 122 (.agg #[.int .i64 n])) := by rw [Rep]
theorem Rep.num (w : World) (ok : Nat → Prop) (n : Int) (v : Value) : Rep w ok (T.num n) v = (v = .iface 123 (.agg #[.int .i64 n])) := by rw [Rep]
theorem Rep.text (w : World) (ok : Nat → Prop) (s : ByteArray) (v : Value) : Rep w ok (T.text s) v = (v = .iface 125 (.agg #[.string s])) := by rw [Rep]
theorem Rep.list (w : World) (ok : Nat → Prop) (ks : List T) (v : Value) : Rep w ok (T.list ks) v = ∃ ad cap, v = .iface 128 (.agg #[.slice ad ks.length cap]) ∧ ks.length ≤ 300 ∧ (ks.length = 0 ∨ ∃ b, ad = some ⟨b, 0, none⟩ ∧ ok b ∧ RepL w ok b 0 ks) := by rw [Rep]; simp only [rowR_map]
theorem Rep.recd (w : World) (ok : Nat → Prop) (ns : List ByteArray) (vs : List T) (v : Value) : Rep w ok (T.recd ns vs) v = ∃ ad cap, v = .iface 133 (.agg #[.slice ad vs.length cap]) ∧ ns.length = vs.length ∧ vs.length ≤ 300 ∧ (vs.length = 0 ∨ ∃ b, ad = some ⟨b, 0, none⟩ ∧ ok b ∧ RepF w ok b 0 ns vs) := by rw [Rep]; simp only [rowF_map]

theorem RepL.on {w w' : World} {ok ok' : Nat → Prop} {b : Nat} (hb : w'.heap[b]? = w.heap[b]?) : ∀ (off : Nat) (ks : List T), (∀ t ∈ ks, ∀ v, Rep w ok t v → Rep w' ok' t v) → RepL w ok b off ks → RepL w' ok' b off ks
  | _, [], _, _ => by simp only [RepL]
  | off, t :: r, ih, h => by
    simp only [RepL] at h ⊢
    obtain ⟨⟨u, hc, hu⟩, hr⟩ := h
    exact ⟨⟨u, (World.cell?_of_block (w := w) hb).trans hc, ih t (by simp) u hu⟩, RepL.on hb (off + 1) r (fun x hx => ih x (by simp [hx])) hr⟩
theorem RepF.on {w w' : World} {ok ok' : Nat → Prop} {b : Nat} (hb : w'.heap[b]? = w.heap[b]?) : ∀ (off : Nat) (ns : List ByteArray) (vs : List T), (∀ t ∈ vs, ∀ v, Rep w ok t v → Rep w' ok' t v) → RepF w ok b off ns vs → RepF w' ok' b off ns vs
  | _, _, [], _, _ => by simp only [RepF]
  | off, ns, t :: r, ih, h => by
    simp only [RepF] at h ⊢
    obtain ⟨h1, ⟨u, hc, hu⟩, hr⟩ := h
    exact ⟨(World.cell?_of_block (w := w) hb).trans h1, ⟨u, (World.cell?_of_block (w := w) hb).trans hc, ih t (by simp) u hu⟩, RepF.on hb (off + 2) ns.tail r (fun x hx => ih x (by simp [hx])) hr⟩
theorem Rep.mono {w w' : World} {ok ok' : Nat → Prop} (hw : ∀ b, ok b → w'.heap[b]? = w.heap[b]?) (hok : ∀ b, ok b → ok' b) (t : T) : ∀ (v : Value), Rep w ok t v → Rep w' ok' t v := by
  refine T.ind (P := fun t => ∀ v, Rep w ok t v → Rep w' ok' t v) ?_ ?_ ?_ ?_ ?_ t
  · intro n v h; simpa only [Rep.flag] using h
  · intro n v h; simpa only [Rep.num] using h
  · intro s v h; simpa only [Rep.text] using h
  · intro ks ih v h
    simp only [Rep.list] at h ⊢
    obtain ⟨ad, cap, hv, h3, h | ⟨b, ha, hb, hr⟩⟩ := h
    · exact ⟨ad, cap, hv, h3, .inl h⟩
    · exact ⟨ad, cap, hv, h3, .inr ⟨b, ha, hok b hb, RepL.on (hw b hb) 0 ks ih hr⟩⟩
  · intro ns vs ih v h
    simp only [Rep.recd] at h ⊢
    obtain ⟨ad, cap, hv, hl, h3, h | ⟨b, ha, hb, hr⟩⟩ := h
    · exact ⟨ad, cap, hv, hl, h3, .inl h⟩
    · exact ⟨ad, cap, hv, hl, h3, .inr ⟨b, ha, hok b hb, RepF.on (hw b hb) 0 ns vs ih hr⟩⟩
theorem RepL.mono {w w' : World} {ok ok' : Nat → Prop} (hw : ∀ b, ok b → w'.heap[b]? = w.heap[b]?) (hok : ∀ b, ok b → ok' b) (b : Nat) (hb : ok b) (off : Nat) (ks : List T) (h : RepL w ok b off ks) : RepL w' ok' b off ks :=
  RepL.on (hw b hb) off ks (fun t _ => Rep.mono hw hok t) h
theorem RepF.mono {w w' : World} {ok ok' : Nat → Prop} (hw : ∀ b, ok b → w'.heap[b]? = w.heap[b]?) (hok : ∀ b, ok b → ok' b) (b : Nat) (hb : ok b) (off : Nat) (ns : List ByteArray) (vs : List T) (h : RepF w ok b off ns vs) : RepF w' ok' b off ns vs :=
  RepF.on (hw b hb) off ns vs (fun t _ => Rep.mono hw hok t) h

theorem RepL.get {w : World} {ok : Nat → Prop} {b : Nat} : ∀ {off : Nat} {ks : List T}, RepL w ok b off ks → ∀ i (h : i < ks.length), ∃ u, w.cell? ⟨b, off + i, none⟩ = some u ∧ Rep w ok ks[i] u
  | _, [], _, i, h => by simp at h
  | off, t :: r, hr, i, h => by
    simp only [RepL] at hr
    cases i with
    | zero => simpa using hr.1
    | succ i =>
      obtain ⟨u, h1, h2⟩ := RepL.get hr.2 i (by simpa using h)
      exact ⟨u, by rw [← h1]; congr 2; omega, by simpa using h2⟩
theorem RepL.mk {w : World} {ok : Nat → Prop} {b : Nat} : ∀ {off : Nat} {ks : List T}, (∀ i (h : i < ks.length), ∃ u, w.cell? ⟨b, off + i, none⟩ = some u ∧ Rep w ok ks[i] u) → RepL w ok b off ks
  | _, [], _ => by simp only [RepL]
  | off, t :: r, h => by
    simp only [RepL]
    refine ⟨h 0 (by simp), RepL.mk fun i hi => ?_⟩
    obtain ⟨u, h1, h2⟩ := h (i + 1) (by simpa using hi)
    exact ⟨u, by rw [← h1]; congr 2; omega, by simpa using h2⟩
theorem RepF.get {w : World} {ok : Nat → Prop} {b : Nat} : ∀ {off : Nat} {ns : List ByteArray} {vs : List T}, RepF w ok b off ns vs → ∀ i (h : i < vs.length), w.cell? ⟨b, off + 2 * i, none⟩ = some (.string (ns.getD i ⟨#[]⟩)) ∧ ∃ u, w.cell? ⟨b, off + 2 * i + 1, none⟩ = some u ∧ Rep w ok vs[i] u
  | _, _, [], _, i, h => by simp at h
  | off, ns, t :: r, hr, i, h => by
    simp only [RepF] at hr
    cases i with
    | zero => 
      refine ⟨?_, by simpa using hr.2.1⟩
      have := hr.1
      cases ns <;> simpa using this
    | succ i =>
      obtain ⟨h1, u, h2, h3⟩ := RepF.get hr.2.2 i (by simpa using h)
      refine ⟨?_, u, by rw [← h2]; congr 2; omega, by simpa using h3⟩
      rw [show off + 2 * (i + 1) = off + 2 + 2 * i by omega, h1]
      cases ns <;> simp
theorem RepF.mk {w : World} {ok : Nat → Prop} {b : Nat} : ∀ {off : Nat} {ns : List ByteArray} {vs : List T}, (∀ i (h : i < vs.length), w.cell? ⟨b, off + 2 * i, none⟩ = some (.string (ns.getD i ⟨#[]⟩)) ∧ ∃ u, w.cell? ⟨b, off + 2 * i + 1, none⟩ = some u ∧ Rep w ok vs[i] u) → RepF w ok b off ns vs
  | _, _, [], _ => by simp only [RepF]
  | off, ns, t :: r, h => by
    simp only [RepF]
    refine ⟨?_, (h 0 (by simp)).2, RepF.mk fun i hi => ?_⟩
    · have := (h 0 (by simp)).1
      cases ns <;> simpa using this
    · obtain ⟨h1, u, h2, h3⟩ := h (i + 1) (by simpa using hi)
      refine ⟨?_, u, by rw [← h2]; congr 2; omega, by simpa using h3⟩
      rw [show off + 2 + 2 * i = off + 2 * (i + 1) by omega, h1]
      cases ns <;> simp
end Go.Proofs.YtamaioeikcjhoaaDoor
