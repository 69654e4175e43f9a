/-
  spec's l5Copy, whose answer is a row of its own.
-/
import Derived.Test.YtiadabmbfpfbjaaCopyT
namespace Go.Proofs.Ytiadabmbfpfbjaa
open Go.RowKit

set_option maxRecDepth 20000 in
set_option maxHeartbeats 2000000 in
theorem l5CopyR_any (b : Option Addr) (cb : Nat) (bs : List En) (w : World) (hbs : ES w b bs) (hn : bs.length ≤ 1048576) (hb : (∃ ad, b = some ad) ∨ (b = none ∧ cb = 0)) :
    Calls Try.prog 30 #[.agg #[.slice b bs.length cb]] w fun e w' => ∃ ad cp, e = .returned (.agg #[.slice ad bs.length cp]) ∧ w'.ownsRow w.heap.size 37 3 (.slice ad bs.length cp) bs.length (ecells bs) ∧ (∃ x, ad = some x) ∧ Below w.heap.size w w' := by
  obtain ⟨i0, hi, hz0, hz1, hzb⟩ := info_parts Try.infoEntry
  have hal : Below w.heap.size w (((w.alloc (.cells #[.slice b bs.length cb] 25)).alloc (.cells #[.slice none 0 0] 25)).alloc (.cells #[] 37)) := (((Below.refl _ _).alloc (Nat.le_refl _) _).alloc (by simp) _).alloc (by simp; omega) _
  have k0 : (((w.alloc (.cells #[.slice b bs.length cb] 25)).alloc (.cells #[.slice none 0 0] 25)).alloc (.cells #[] 37)).cell? ⟨w.heap.size + 1, 0, none⟩ = some (.slice none 0 0) := by simp [go_sem]
  have kf : (((w.alloc (.cells #[.slice b bs.length cb] 25)).alloc (.cells #[.slice none 0 0] 25)).alloc (.cells #[] 37)).frozen? ⟨w.heap.size + 1, 0, none⟩ = false := by simp [go_sem]
  have m0 : (((w.alloc (.cells #[.slice b bs.length cb] 25)).alloc (.cells #[.slice none 0 0] 25)).alloc (.cells #[] 37)).cell? ⟨w.heap.size, 0, none⟩ = some (.slice b bs.length cb) := by simp [go_sem]
  have hown0 : (((w.alloc (.cells #[.slice b bs.length cb] 25)).alloc (.cells #[.slice none 0 0] 25)).alloc (.cells #[] 37)).ownsRow (w.heap.size + 2) 37 3 (.slice (some ⟨w.heap.size + 1 + 1, 0, none⟩) 0 0) 0 (ecells []) := by simpa using own_none ((w.alloc (.cells #[.slice b bs.length cb] 25)).alloc (.cells #[.slice none 0 0] 25)) (w.heap.size + 2) (by simp)
  have hsz : w.heap.size + 3 ≤ (((w.alloc (.cells #[.slice b bs.length cb] 25)).alloc (.cells #[.slice none 0 0] 25)).alloc (.cells #[] 37)).heap.size := by simp
  rcases hb with ⟨ad, rfl⟩ | ⟨rfl, rfl⟩
  · have hnews : ∃ ad', ∀ n c, (Value.slice (some ad) bs.length c = .slice (some ad) n c → True) ∧ ad' = ad ∧ ∀ j u, (ecells bs)[j]? = some u → (((w.alloc (.cells #[.slice (some ad) bs.length cb] 25)).alloc (.cells #[.slice none 0 0] 25)).alloc (.cells #[] 37)).cell? (ad.add j) = some u := by
      refine ⟨ad, fun _ _ => ⟨fun _ => trivial, rfl, ?_⟩⟩
      rcases hbs with rfl | ⟨bb, off, h, hc⟩
      · intro j u hu; simp [ecells] at hu
      · cases h
        exact es_news (fun i hi => ⟨cell_later hal (hc i hi).1, cell_later hal (hc i hi).2.1, cell_later hal (hc i hi).2.2⟩)
    obtain ⟨_, h3⟩ := hnews
    obtain ⟨_, _, hnw⟩ := h3 0 0
    clear h3
    have hone := ecells_one bs
    have hlen := ecells_len bs
    go_enter Try.func30, Try.ntmps30
    go_wp2_with (first | (at_builtin; refine wpList_append_own _ rfl _ _ 23 rfl (w.heap.size + 2) 37 i0 _ 3 40 Try.underlying23 hi hz0 hz1 hzb rfl (by decide) (.slice (some ⟨w.heap.size + 1 + 1, 0, none⟩) 0 0) 0 (ecells []) rfl hown0 ad bs.length cb (ecells bs) rfl hlen hnw hone (by unfold maxLen; omega) (by omega) (by omega) ?_; intro v2 w2 hown2 hgrow2 hnn; have k2 := hgrow2.cell (a := ⟨w.heap.size + 1, 0, none⟩) k0 (by simp [Value.ownBlock]); have kf2 : w2.frozen? ⟨w.heap.size + 1, 0, none⟩ = false := frozen_blk (hgrow2.block (w.heap.size + 1) (by simp) (by simp [Value.ownBlock])) kf; obtain ⟨ad2, cp2, rfl⟩ := owns_slice hown2))
    have hb2 := hal.grown hgrow2 hal.size (fun j hj => by cases hj; simp; omega)
    replace hown2 : w2.ownsRow (w.heap.size + 2) 37 3 (.slice ad2 bs.length cp2) bs.length (ecells bs) := by simpa [ecells] using hown2
    have hrow2 : (w2.setCell ⟨w.heap.size + 1, 0, none⟩ (.slice ad2 bs.length cp2)).ownsRow (w.heap.size + 2) 37 3 (.slice ad2 bs.length cp2) bs.length (ecells bs) := hown2.kept (grown_set0 w2 (w.heap.size + 1) 0 (.slice ad2 bs.length cp2)) (Or.inr (fun e => by have := owns_row_ge hown2 e; omega))
    have hrow3 : (w2.setCell ⟨w.heap.size + 1, 0, none⟩ (.slice ad2 bs.length cp2)).ownsRow w.heap.size 37 3 (.slice ad2 bs.length cp2) bs.length (ecells bs) := by
      refine ⟨hrow2.1, ?_⟩
      rcases hrow2.2 with h' | ⟨gq, capq, curq, hv, h1, h2⟩
      · exact .inl h'
      · exact .inr ⟨gq, capq, curq, hv, by omega, h2⟩
    have hsome : ∃ x, ad2 = some x := by
      cases ad2 with
      | some x => exact ⟨x, rfl⟩
      | none =>
        exfalso
        rcases hown2.2 with ⟨h', _⟩ | ⟨gq, capq, curq, hv, _⟩
        · exact absurd (hnn.1 (by rw [Nat.zero_add]; exact h')) (fun h => by cases h.1)
        · cases hv
    refine bodyPost_ret (v := .agg #[.slice ad2 bs.length cp2]) ?_ rfl ⟨ad2, cp2, rfl, hrow3, hsome, hb2.setCell (p := ⟨w.heap.size + 1, 0, none⟩) (by simp) _⟩
    go_light
    simp [results, Try.results30, go_sem, k2]
  · obtain rfl : bs = [] := by
      rcases hbs with h | ⟨bb, off, h, _⟩
      · exact h
      · cases h
    go_enter Try.func30, Try.ntmps30
    go_wp2_with (first | (at_builtin; refine wpList_append_own_none rfl _ _ 23 rfl (w.heap.size + 2) 37 i0 3 Try.underlying23 hi _ _ _ rfl hown0 rfl ?_))
    have hownL : (((w.alloc (.cells #[.slice none 0 0] 25)).alloc (.cells #[.slice (some ⟨w.heap.size + 1 + 1, 0, none⟩) 0 0] 25)).alloc (.cells #[] 37)).ownsRow w.heap.size 37 3 (.slice (some ⟨w.heap.size + 1 + 1, 0, none⟩) 0 0) 0 (ecells []) := by simpa using own_none ((w.alloc (.cells #[.slice none 0 0] 25)).alloc (.cells #[.slice (some ⟨w.heap.size + 1 + 1, 0, none⟩) 0 0] 25)) w.heap.size (by simp; omega)
    refine bodyPost_ret (v := .agg #[.slice (some ⟨w.heap.size + 1 + 1, 0, none⟩) ([] : List En).length 0]) ?_ rfl ⟨_, _, rfl, (by exact hownL), ⟨_, rfl⟩, (((Below.refl _ _).alloc (Nat.le_refl _) _).alloc (by simp) _).alloc (by simp; omega) _⟩
    go_light
    simp [results, Try.results30, go_sem]
end Go.Proofs.Ytiadabmbfpfbjaa
