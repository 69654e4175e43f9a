/-
  impl.Get, spec.Get.
-/
import Derived.Test.YtocnnebbllkkeaaGetP
import Derived.Test.YtocnnebbllkkeaaGrow
namespace Go.Proofs.Ytocnnebbllkkeaa
open Go.RowKit

theorem got_find {ts : List En} {β : Way → Option Nat} {φ : Way → Option (ByteArray × Bool)} (hv : ValidTs ts) (hS : Shape ts β φ) {p t : ByteArray} {r : Bool} (h : φ (partsB p) = some (t, r)) : Got ts p (some ⟨p, t, r⟩) := by
  obtain ⟨e, he, hp⟩ := (hS.files (partsB p)).1 (by rw [h]; simp)
  have h2 := hS.vals e he
  rw [hp, h] at h2
  injection h2 with h2
  injection h2 with h3 h4
  refine .inl ⟨hv, e, he, partsB_inj hp, ?_⟩
  rw [h3, h4, ← partsB_inj hp]
theorem got_none {ts : List En} {β : Way → Option Nat} {φ : Way → Option (ByteArray × Bool)} (hS : Shape ts β φ) {p : ByteArray} (h : φ (partsB p) = none) : Got ts p none := by
  refine .inr ⟨.inr fun e he hp => ?_, rfl⟩
  have := hS.vals e he
  rw [hp, h] at this
  cases this

set_option maxRecDepth 100000 in
set_option maxHeartbeats 4000000 in
theorem implGet_any (a : Option Addr) (cap : Nat) (ts : List En) (p : ByteArray) (w : World) (hts : ES w a ts) (hn : ts.length ≤ 1048576) (hz : ∀ e ∈ ts, e.path.size ≤ 1048576 ∧ e.text.size ≤ 1048576) (hp : p.size ≤ 1048576) :
    Calls Try.prog 13 #[.agg #[.slice a ts.length cap], .string p] w fun e w' => GetPost ts p w e w' := by
  have hal : Below w.heap.size w ((w.alloc (.cells #[.slice a ts.length cap] 29)).alloc (.cells #[.string ⟨#[]⟩, .string ⟨#[]⟩, .bool false] 34)) := ((Below.refl _ _).alloc (Nat.le_refl _) _).alloc (by simp) _
  have k0 : ((w.alloc (.cells #[.slice a ts.length cap] 29)).alloc (.cells #[.string ⟨#[]⟩, .string ⟨#[]⟩, .bool false] 34)).cell? ⟨w.heap.size + 1, 0, none⟩ = some (.string ⟨#[]⟩) := by simp
  have k1 : ((w.alloc (.cells #[.slice a ts.length cap] 29)).alloc (.cells #[.string ⟨#[]⟩, .string ⟨#[]⟩, .bool false] 34)).cell? ⟨w.heap.size + 1, 1, none⟩ = some (.string ⟨#[]⟩) := by simp
  have k2 : ((w.alloc (.cells #[.slice a ts.length cap] 29)).alloc (.cells #[.string ⟨#[]⟩, .string ⟨#[]⟩, .bool false] 34)).cell? ⟨w.heap.size + 1, 2, none⟩ = some (.bool false) := by simp
  have kf : ∀ j, ((w.alloc (.cells #[.slice a ts.length cap] 29)).alloc (.cells #[.string ⟨#[]⟩, .string ⟨#[]⟩, .bool false] 34)).frozen? ⟨w.heap.size + 1, j, none⟩ = false := fun j => by simp
  have ks : w.heap.size + 1 < ((w.alloc (.cells #[.slice a ts.length cap] 29)).alloc (.cells #[.string ⟨#[]⟩, .string ⟨#[]⟩, .bool false] 34)).heap.size := by simp
  go_enter Try.func13, Try.ntmps13
  go_wp2_with fail
  refine (grow_any a cap ts _ (hts.below hal) hn (fun e he => (hz e he).1)).mono ?_
  rintro e w1 ⟨hb1, hpost⟩
  replace k0 := cell_later hb1 k0
  replace k1 := cell_later hb1 k1
  replace k2 := cell_later hb1 k2
  replace kf : ∀ j, w1.frozen? ⟨w.heap.size + 1, j, none⟩ = false := fun j => (hb1.frozen (p := ⟨w.heap.size + 1, j, none⟩) ks).trans (kf j)
  have ks1 : w.heap.size + 1 < w1.heap.size := Nat.lt_of_lt_of_le ks hb1.size
  have hbw := hal.trans (hb1.mono hal.size)
  clear hb1 hal hts
  generalize hg : w.heap.size + 1 = g at *
  have hgw : w.heap.size ≤ g := by omega
  clear hg
  rcases hpost with ⟨hv, root, rfl, lo, N, β, μ, φ, hlo, hN, hT, hroot, hS⟩ | ⟨hv, rfl⟩
  · go_wp2_with fail
    refine (find_any lo N root w1 β μ φ hT hroot p (by omega)).mono ?_
    rintro e w2 ⟨rfl, hb2⟩
    replace k0 := cell_later hb2 k0
    replace k1 := cell_later hb2 k1
    replace k2 := cell_later hb2 k2
    replace kf : ∀ j, w2.frozen? ⟨g, j, none⟩ = false := fun j => (hb2.frozen (p := ⟨g, j, none⟩) ks1).trans (kf j)
    have ks2 : g < w2.heap.size := Nat.lt_of_lt_of_le ks1 hb2.size
    have hbw2 := hbw.trans (hb2.mono hbw.size)
    have hT2 := hT.below hb2
    clear hb2 hT hbw
    cases hβ : β (partsB p) with
    | none =>
      have hφ : φ (partsB p) = none := by
        cases h : φ (partsB p) with
        | none => rfl
        | some f => exact absurd hβ (hS.files_nodes _ (by rw [h]; simp))
      unfold ptrV
      go_wp2
      refine bodyPost_ret (v := .tuple #[entV none, .bool false]) ?_ rfl ⟨none, got_none hS hφ, rfl, ?_⟩
      · go_light
        simp [results, Try.results13, go_sem, entV, k0, k1, k2]
      · exact ((hbw2.setCell (p := ⟨g, 0, none⟩) hgw _).setCell (p := ⟨g, 1, none⟩) hgw _).setCell (p := ⟨g, 2, none⟩) hgw _
    | some b =>
      obtain ⟨hob, _, _, _⟩ := hT2.node _ b hβ
      obtain ⟨c0, _, _, c1, c2⟩ := node_cells hob
      cases hφ : φ (partsB p) with
      | none =>
        rw [hφ] at c0
        unfold ptrV
        go_wp2
        refine bodyPost_ret (v := .tuple #[entV none, .bool false]) ?_ rfl ⟨none, got_none hS hφ, rfl, ?_⟩
        · go_light
          simp [results, Try.results13, go_sem, entV, k0, k1, k2]
        · exact ((hbw2.setCell (p := ⟨g, 0, none⟩) hgw _).setCell (p := ⟨g, 1, none⟩) hgw _).setCell (p := ⟨g, 2, none⟩) hgw _
      | some f =>
        obtain ⟨t, r⟩ := f
        have hgot := got_find hv hS hφ
        have htz : t.size ≤ 1048576 := by
          rcases hgot with ⟨_, e, he, _, h2⟩ | ⟨_, h2⟩
          · injection h2 with h2
            have := (hz e he).2
            rw [← h2] at this
            exact this
          · cases h2
        rw [hφ] at c0 c1 c2
        simp only [Option.map_some, Option.getD_some, Option.isSome_some] at c0 c1 c2
        unfold ptrV
        go_wp2_with fail
        refine (entry_any p t r w2 (by omega) (by omega)).mono ?_
        rintro e w3 ⟨rfl, hb3⟩
        replace k0 := cell_later hb3 k0
        replace k1 := cell_later hb3 k1
        replace k2 := cell_later hb3 k2
        replace kf : ∀ j, w3.frozen? ⟨g, j, none⟩ = false := fun j => (hb3.frozen (p := ⟨g, j, none⟩) ks2).trans (kf j)
        have hbw3 := hbw2.trans (hb3.mono hbw2.size)
        go_wp2
        refine bodyPost_ret (v := .tuple #[entV (some ⟨p, t, r⟩), .bool true]) ?_ rfl ⟨some ⟨p, t, r⟩, hgot, rfl, ?_⟩
        · go_light
          simp [results, Try.results13, go_sem, entV, k0, k1, k2]
        · exact ((hbw3.setCell (p := ⟨g, 0, none⟩) hgw _).setCell (p := ⟨g, 1, none⟩) hgw _).setCell (p := ⟨g, 2, none⟩) hgw _
  · go_wp2
    refine bodyPost_ret (v := .tuple #[entV none, .bool false]) ?_ rfl ⟨none, .inr ⟨.inl hv, rfl⟩, rfl, ?_⟩
    · go_light
      simp [results, Try.results13, go_sem, entV, k0, k1, k2]
    · exact ((hbw.setCell (p := ⟨g, 0, none⟩) hgw _).setCell (p := ⟨g, 1, none⟩) hgw _).setCell (p := ⟨g, 2, none⟩) hgw _
end Go.Proofs.Ytocnnebbllkkeaa
