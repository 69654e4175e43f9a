/-
  spec's l5Copy.
-/
import Derived.Test.YtiadabmbfpfbjaaEntL
import Derived.Test.YtiadabmbfpfbjaaLay
import Derived.Laws.AppendOwnNone
namespace Go.Proofs.Ytiadabmbfpfbjaa
open Go.RowKit

theorem frozen_blk {w w' : World} {g j : Nat} (h : w'.heap[g]? = w.heap[g]?) (hf : w.frozen? ⟨g, j, none⟩ = false) : w'.frozen? ⟨g, j, none⟩ = false := by
  unfold World.frozen? at hf ⊢
  simp only at hf ⊢
  rw [h]; exact hf
theorem ecells_len (us : List En) : (ecells us).length = us.length * 3 := by
  induction us with
  | nil => rfl
  | cons e us ih =>
    have hs : ecells (e :: us) = .string e.path :: .string e.text :: .bool e.runs :: ecells us := by simp [ecells, ecell]
    rw [hs]
    simp [ih]
    omega
theorem es_news {w : World} {b off : Nat} {ts : List En} (h : ∀ i (h : i < ts.length), w.cell? ⟨b, off + i * 3, none⟩ = some (.string ts[i].path) ∧ w.cell? ⟨b, off + i * 3 + 1, none⟩ = some (.string ts[i].text) ∧ w.cell? ⟨b, off + i * 3 + 2, none⟩ = some (.bool ts[i].runs)) :
    ∀ j u, (ecells ts)[j]? = some u → w.cell? ((⟨b, off, none⟩ : Addr).add j) = some u := fun j u hu => by
  have hl := (List.getElem?_eq_some_iff.1 hu).1
  rw [ecells_len] at hl
  have hi : j / 3 < ts.length := by omega
  obtain ⟨h0, h1, h2⟩ := h _ hi
  obtain ⟨e0, e1, e2⟩ := ecells_at ts _ hi
  rw [Go.WideShapes.add_plain]
  have hr : j % 3 = 0 ∨ j % 3 = 1 ∨ j % 3 = 2 := by omega
  rcases hr with hr | hr | hr
  · rw [show j / 3 * 3 = j by omega] at h0 e0
    rw [h0, ← e0, hu]
  · rw [show off + j / 3 * 3 + 1 = off + j by omega] at h1
    rw [show j / 3 * 3 + 1 = j by omega] at e1
    rw [h1, ← e1, hu]
  · rw [show off + j / 3 * 3 + 2 = off + j by omega] at h2
    rw [show j / 3 * 3 + 2 = j by omega] at e2
    rw [h2, ← e2, hu]
theorem ecells_one (us : List En) : ∀ u ∈ ecells us, u.oneCell' = true := fun u hu => by
  obtain ⟨e, _, h⟩ := List.mem_flatMap.1 hu
  exact one_3 e u h
theorem own_none (w : World) (B : Nat) (hB : B ≤ w.heap.size) : (w.alloc (.cells #[] 37)).ownsRow B 37 3 (.slice (some ⟨w.heap.size, 0, none⟩) 0 0) 0 (ecells []) :=
  ⟨by simp [ecells], .inr ⟨w.heap.size, 0, #[], rfl, hB, heap_alloc_new w _, Nat.le_refl _, by unfold maxLen; omega, rfl, by simp [ecells]⟩⟩

set_option maxRecDepth 20000 in
set_option maxHeartbeats 2000000 in
theorem l5Copy_any (b : Option Addr) (cb : Nat) (bs : List En) (w : World) (hbs : ES w b bs) (hn : bs.length ≤ 1048576) (hb : (∃ ad, b = some ad) ∨ (b = none ∧ cb = 0)) :
    Calls Try.prog 30 #[.agg #[.slice b bs.length cb]] w fun e w' => TreeQ bs w.heap.size e w' ∧ Below w.heap.size w w' := by
  obtain ⟨i0, hi, hz0, hz1, hzb⟩ := info_parts Try.infoEntry
  have hal : Below w.heap.size w (((w.alloc (.cells #[.slice b bs.length cb] 25)).alloc (.cells #[.slice none 0 0] 25)).alloc (.cells #[] 37)) := (((Below.refl _ _).alloc (Nat.le_refl _) _).alloc (by simp) _).alloc (by simp; omega) _
  have k0 : (((w.alloc (.cells #[.slice b bs.length cb] 25)).alloc (.cells #[.slice none 0 0] 25)).alloc (.cells #[] 37)).cell? ⟨w.heap.size + 1, 0, none⟩ = some (.slice none 0 0) := by simp [go_sem]
  have kf : (((w.alloc (.cells #[.slice b bs.length cb] 25)).alloc (.cells #[.slice none 0 0] 25)).alloc (.cells #[] 37)).frozen? ⟨w.heap.size + 1, 0, none⟩ = false := by simp [go_sem]
  have m0 : (((w.alloc (.cells #[.slice b bs.length cb] 25)).alloc (.cells #[.slice none 0 0] 25)).alloc (.cells #[] 37)).cell? ⟨w.heap.size, 0, none⟩ = some (.slice b bs.length cb) := by simp [go_sem]
  have hown0 : (((w.alloc (.cells #[.slice b bs.length cb] 25)).alloc (.cells #[.slice none 0 0] 25)).alloc (.cells #[] 37)).ownsRow (w.heap.size + 2) 37 3 (.slice (some ⟨w.heap.size + 1 + 1, 0, none⟩) 0 0) 0 (ecells []) := by simpa using own_none ((w.alloc (.cells #[.slice b bs.length cb] 25)).alloc (.cells #[.slice none 0 0] 25)) (w.heap.size + 2) (by simp)
  have hsz : w.heap.size + 3 ≤ (((w.alloc (.cells #[.slice b bs.length cb] 25)).alloc (.cells #[.slice none 0 0] 25)).alloc (.cells #[] 37)).heap.size := by simp
  rcases hb with ⟨ad, rfl⟩ | ⟨rfl, rfl⟩
  · have hnews : ∃ ad', ∀ n c, (Value.slice (some ad) bs.length c = .slice (some ad) n c → True) ∧ ad' = ad ∧ ∀ j u, (ecells bs)[j]? = some u → (((w.alloc (.cells #[.slice (some ad) bs.length cb] 25)).alloc (.cells #[.slice none 0 0] 25)).alloc (.cells #[] 37)).cell? (ad.add j) = some u := by
      refine ⟨ad, fun _ _ => ⟨fun _ => trivial, rfl, ?_⟩⟩
      rcases hbs with rfl | ⟨bb, off, h, hc⟩
      · intro j u hu; simp [ecells] at hu
      · cases h
        exact es_news (fun i hi => ⟨cell_later hal (hc i hi).1, cell_later hal (hc i hi).2.1, cell_later hal (hc i hi).2.2⟩)
    obtain ⟨_, h3⟩ := hnews
    obtain ⟨_, _, hnw⟩ := h3 0 0
    clear h3
    have hone := ecells_one bs
    have hlen := ecells_len bs
    go_enter Try.func30, Try.ntmps30
    go_wp2_with (first | (at_builtin; refine wpList_append_own _ rfl _ _ 23 rfl (w.heap.size + 2) 37 i0 _ 3 40 Try.underlying23 hi hz0 hz1 hzb rfl (by decide) (.slice (some ⟨w.heap.size + 1 + 1, 0, none⟩) 0 0) 0 (ecells []) rfl hown0 ad bs.length cb (ecells bs) rfl hlen hnw hone (by unfold maxLen; omega) (by omega) (by omega) ?_; intro v2 w2 hown2 hgrow2 _; have k2 := hgrow2.cell (a := ⟨w.heap.size + 1, 0, none⟩) k0 (by simp [Value.ownBlock]); have kf2 : w2.frozen? ⟨w.heap.size + 1, 0, none⟩ = false := frozen_blk (hgrow2.block (w.heap.size + 1) (by simp) (by simp [Value.ownBlock])) kf; obtain ⟨ad2, cp2, rfl⟩ := owns_slice hown2))
    have hb2 := hal.grown hgrow2 hal.size (fun j hj => by cases hj; simp; omega)
    replace hown2 : w2.ownsRow (w.heap.size + 2) 37 3 (.slice ad2 bs.length cp2) bs.length (ecells bs) := by simpa [ecells] using hown2
    have hel := el_of_row hown2
    have hel2 : EL w.heap.size (w2.setCell ⟨w.heap.size + 1, 0, none⟩ (.slice ad2 bs.length cp2)) ad2 bs := (hel.grown (row := some (w.heap.size + 1)) (grown_set0 w2 (w.heap.size + 1) 0 (.slice ad2 bs.length cp2)) (fun j _ hj _ e => by cases e; omega)).mono (by omega)
    refine bodyPost_ret (v := .agg #[.slice ad2 bs.length cp2]) ?_ rfl ⟨⟨ad2, cp2, rfl, hel2⟩, hb2.setCell (p := ⟨w.heap.size + 1, 0, none⟩) (by simp) _⟩
    go_light
    simp [results, Try.results30, go_sem, k2]
  · obtain rfl : bs = [] := by
      rcases hbs with h | ⟨bb, off, h, _⟩
      · exact h
      · cases h
    go_enter Try.func30, Try.ntmps30
    go_wp2_with (first | (at_builtin; refine wpList_append_own_none rfl _ _ 23 rfl (w.heap.size + 2) 37 i0 3 Try.underlying23 hi _ _ _ rfl hown0 rfl ?_))
    refine bodyPost_ret (v := .agg #[.slice (some ⟨w.heap.size + 1 + 1, 0, none⟩) ([] : List En).length 0]) ?_ rfl ⟨⟨_, _, rfl, EL.nil _ _ _⟩, (((Below.refl _ _).alloc (Nat.le_refl _) _).alloc (by simp) _).alloc (by simp; omega) _⟩
    go_light
    simp [results, Try.results30, go_sem]
end Go.Proofs.Ytiadabmbfpfbjaa
