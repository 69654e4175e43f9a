/-
  How impl's parts lie in memory: 'Rep w ok t v': v is tree t in world w, over blocks that are ok.
-/
import Derived.Test.YtdjpohkionapiaaParts
namespace Go.Proofs.Ytdjpohkionapiaa
open Go.RowKit

mutual
def Rep (w : World) (ok : Nat → Prop) : T → Value → Prop
  | .flag n, v => v = .iface 63 (.agg #[.int .i64 n])
  | .num n, v => v = .iface 64 (.agg #[.int .i64 n])
  | .text s, v => v = .iface 66 (.agg #[.string s])
  | .list ks, v => ∃ ad cap, v = .iface 69 (.agg #[.slice ad ks.length cap]) ∧ ks.length ≤ 300 ∧ (ks.length = 0 ∨ ∃ b, ad = some ⟨b, 0, none⟩ ∧ ok b ∧ RepL w ok b 0 ks)
  | .recd ns vs, v => ∃ ad cap, v = .iface 74 (.agg #[.slice ad vs.length cap]) ∧ ns.length = vs.length ∧ vs.length ≤ 300 ∧ (vs.length = 0 ∨ ∃ b, ad = some ⟨b, 0, none⟩ ∧ ok b ∧ RepF w ok b 0 ns vs)
def RepL (w : World) (ok : Nat → Prop) (b : Nat) : Nat → List T → Prop
  | _, [] => True
  | off, t :: r => (∃ u, w.cell? ⟨b, off, none⟩ = some u ∧ Rep w ok t u) ∧ RepL w ok b (off + 1) r
def RepF (w : World) (ok : Nat → Prop) (b : Nat) : Nat → List ByteArray → List T → Prop
  | _, _, [] => True
  | off, ns, t :: r => w.cell? ⟨b, off, none⟩ = some (.string (ns.headD ⟨#[]⟩)) ∧ (∃ u, w.cell? ⟨b, off + 1, none⟩ = some u ∧ Rep w ok t u) ∧ RepF w ok b (off + 2) ns.tail r
end

mutual
theorem Rep.mono {w w' : World} {ok ok' : Nat → Prop} (hw : ∀ b, ok b → w'.heap[b]? = w.heap[b]?) (hok : ∀ b, ok b → ok' b) : ∀ (t : T) (v : Value), Rep w ok t v → Rep w' ok' t v
  | .flag _, _, h => by simpa only [Rep] using h
  | .num _, _, h => by simpa only [Rep] using h
  | .text _, _, h => by simpa only [Rep] using h
  | .list ks, v, h => by
    simp only [Rep] at h ⊢
    obtain ⟨ad, cap, hv, h3, h | ⟨b, ha, hb, hr⟩⟩ := h
    · exact ⟨ad, cap, hv, h3, .inl h⟩
    · exact ⟨ad, cap, hv, h3, .inr ⟨b, ha, hok b hb, RepL.mono hw hok b hb 0 ks hr⟩⟩
  | .recd ns vs, v, h => by
    simp only [Rep] at h ⊢
    obtain ⟨ad, cap, hv, hl, h3, h | ⟨b, ha, hb, hr⟩⟩ := h
    · exact ⟨ad, cap, hv, hl, h3, .inl h⟩
    · exact ⟨ad, cap, hv, hl, h3, .inr ⟨b, ha, hok b hb, RepF.mono hw hok b hb 0 ns vs hr⟩⟩
theorem RepL.mono {w w' : World} {ok ok' : Nat → Prop} (hw : ∀ b, ok b → w'.heap[b]? = w.heap[b]?) (hok : ∀ b, ok b → ok' b) (b : Nat) (hb : ok b) : ∀ (off : Nat) (ks : List T), RepL w ok b off ks → RepL w' ok' b off ks
  | _, [], _ => by simp only [RepL]
  | off, t :: r, h => by
    simp only [RepL] at h ⊢
    obtain ⟨⟨u, hc, hu⟩, hr⟩ := h
    exact ⟨⟨u, (World.cell?_of_block (w := w) (hw b hb)).trans hc, Rep.mono hw hok t u hu⟩, RepL.mono hw hok b hb (off + 1) r hr⟩
theorem RepF.mono {w w' : World} {ok ok' : Nat → Prop} (hw : ∀ b, ok b → w'.heap[b]? = w.heap[b]?) (hok : ∀ b, ok b → ok' b) (b : Nat) (hb : ok b) : ∀ (off : Nat) (ns : List ByteArray) (vs : List T), RepF w ok b off ns vs → RepF w' ok' b off ns vs
  | _, _, [], _ => by simp only [RepF]
  | off, ns, t :: r, h => by
    simp only [RepF] at h ⊢
    obtain ⟨h1, ⟨u, hc, hu⟩, hr⟩ := h
    exact ⟨(World.cell?_of_block (w := w) (hw b hb)).trans h1, ⟨u, (World.cell?_of_block (w := w) (hw b hb)).trans hc, Rep.mono hw hok t u hu⟩, RepF.mono hw hok b hb (off + 2) ns.tail r hr⟩
end

theorem RepL.get {w : World} {ok : Nat → Prop} {b : Nat} : ∀ {off : Nat} {ks : List T}, RepL w ok b off ks → ∀ i (h : i < ks.length), ∃ u, w.cell? ⟨b, off + i, none⟩ = some u ∧ Rep w ok ks[i] u
  | _, [], _, i, h => by simp at h
  | off, t :: r, hr, i, h => by
    simp only [RepL] at hr
    cases i with
    | zero => simpa using hr.1
    | succ i =>
      obtain ⟨u, h1, h2⟩ := RepL.get hr.2 i (by simpa using h)
      exact ⟨u, by rw [← h1]; congr 2; omega, by simpa using h2⟩
theorem RepL.mk {w : World} {ok : Nat → Prop} {b : Nat} : ∀ {off : Nat} {ks : List T}, (∀ i (h : i < ks.length), ∃ u, w.cell? ⟨b, off + i, none⟩ = some u ∧ Rep w ok ks[i] u) → RepL w ok b off ks
  | _, [], _ => by simp only [RepL]
  | off, t :: r, h => by
    simp only [RepL]
    refine ⟨h 0 (by simp), RepL.mk fun i hi => ?_⟩
    obtain ⟨u, h1, h2⟩ := h (i + 1) (by simpa using hi)
    exact ⟨u, by rw [← h1]; congr 2; omega, by simpa using h2⟩
theorem RepF.get {w : World} {ok : Nat → Prop} {b : Nat} : ∀ {off : Nat} {ns : List ByteArray} {vs : List T}, RepF w ok b off ns vs → ∀ i (h : i < vs.length), w.cell? ⟨b, off + 2 * i, none⟩ = some (.string (ns.getD i ⟨#[]⟩)) ∧ ∃ u, w.cell? ⟨b, off + 2 * i + 1, none⟩ = some u ∧ Rep w ok vs[i] u
  | _, _, [], _, i, h => by simp at h
  | off, ns, t :: r, hr, i, h => by
    simp only [RepF] at hr
    cases i with
    | zero => 
      refine ⟨?_, by simpa using hr.2.1⟩
      have := hr.1
      cases ns <;> simpa using this
    | succ i =>
      obtain ⟨h1, u, h2, h3⟩ := RepF.get hr.2.2 i (by simpa using h)
      refine ⟨?_, u, by rw [← h2]; congr 2; omega, by simpa using h3⟩
      rw [show off + 2 * (i + 1) = off + 2 + 2 * i by omega, h1]
      cases ns <;> simp
theorem RepF.mk {w : World} {ok : Nat → Prop} {b : Nat} : ∀ {off : Nat} {ns : List ByteArray} {vs : List T}, (∀ i (h : i < vs.length), w.cell? ⟨b, off + 2 * i, none⟩ = some (.string (ns.getD i ⟨#[]⟩)) ∧ ∃ u, w.cell? ⟨b, off + 2 * i + 1, none⟩ = some u ∧ Rep w ok vs[i] u) → RepF w ok b off ns vs
  | _, _, [], _ => by simp only [RepF]
  | off, ns, t :: r, h => by
    simp only [RepF]
    refine ⟨?_, (h 0 (by simp)).2, RepF.mk fun i hi => ?_⟩
    · have := (h 0 (by simp)).1
      cases ns <;> simpa using this
    · obtain ⟨h1, u, h2, h3⟩ := h (i + 1) (by simpa using hi)
      refine ⟨?_, u, by rw [← h2]; congr 2; omega, by simpa using h3⟩
      rw [show off + 2 + 2 * i = off + 2 * (i + 1) by omega, h1]
      cases ns <;> simp
end Go.Proofs.Ytdjpohkionapiaa
