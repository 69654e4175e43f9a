/-
  impl.Put.
-/
import Derived.Test.YtmeodgcnnjkilaaTreeT
import Derived.Test.YtmeodgcnnjkilaaPutP
import Derived.Test.YtmeodgcnnjkilaaGrow
import Derived.Test.YtmeodgcnnjkilaaFind
namespace Go.Proofs.Ytmeodgcnnjkilaa
open Go.RowKit

theorem el_setP {B g : Nat} {w : World} {a : Option Addr} {ts : List En} {u : Value} (h : EL B w a ts) (hg : g < B) : EL B (w.setCell ⟨g, 0, none⟩ u) a ts :=
  h.grown (row := some g) ⟨rfl, rfl, rfl, by simp, fun k _ hk => Below.heap_setCell _ _ _ _ (fun e => hk (by rw [e]))⟩ (fun k _ hk _ e => by cases e; omega)
theorem frozen_block {w w' : World} {g j : Nat} (h : w'.heap[g]? = w.heap[g]?) (hf : w.frozen? ⟨g, j, none⟩ = false) : w'.frozen? ⟨g, j, none⟩ = false := by
  unfold World.frozen? at hf ⊢
  simp only at hf ⊢
  rw [h]; exact hf

set_option maxRecDepth 100000 in
set_option maxHeartbeats 4000000 in
theorem implPut_any (a : Option Addr) (cap : Nat) (ts : List En) (en : En) (w : World) (hts : ES w a ts) (hn : ts.length ≤ 1048576) (hz : ∀ e ∈ ts, e.path.size ≤ 1048576 ∧ e.text.size ≤ 1048576) (hp : en.path.size ≤ 1048576) :
    Calls Try.prog 12 #[.agg #[.slice a ts.length cap], .agg #[.string en.path, .string en.text, .bool en.runs]] w fun e w' => PutPost ts en w e w' := by
  have hal : Below w.heap.size w (((w.alloc (.cells #[.slice a ts.length cap] 31)).alloc (.cells #[.string en.path, .string en.text, .bool en.runs] 35)).alloc (.cells #[.slice none 0 0] 31)) := (((Below.refl _ _).alloc (Nat.le_refl _) _).alloc (by simp) _).alloc (by simp; omega) _
  have e0 : (((w.alloc (.cells #[.slice a ts.length cap] 31)).alloc (.cells #[.string en.path, .string en.text, .bool en.runs] 35)).alloc (.cells #[.slice none 0 0] 31)).cell? ⟨w.heap.size + 1, 0, none⟩ = some (.string en.path) := by simp [go_sem]
  have e1 : (((w.alloc (.cells #[.slice a ts.length cap] 31)).alloc (.cells #[.string en.path, .string en.text, .bool en.runs] 35)).alloc (.cells #[.slice none 0 0] 31)).cell? ⟨w.heap.size + 1, 1, none⟩ = some (.string en.text) := by simp [go_sem]
  have e2 : (((w.alloc (.cells #[.slice a ts.length cap] 31)).alloc (.cells #[.string en.path, .string en.text, .bool en.runs] 35)).alloc (.cells #[.slice none 0 0] 31)).cell? ⟨w.heap.size + 1, 2, none⟩ = some (.bool en.runs) := by simp [go_sem]
  have k0 : (((w.alloc (.cells #[.slice a ts.length cap] 31)).alloc (.cells #[.string en.path, .string en.text, .bool en.runs] 35)).alloc (.cells #[.slice none 0 0] 31)).cell? ⟨w.heap.size + 1 + 1, 0, none⟩ = some (.slice none 0 0) := by simp [go_sem]
  have kf : (((w.alloc (.cells #[.slice a ts.length cap] 31)).alloc (.cells #[.string en.path, .string en.text, .bool en.runs] 35)).alloc (.cells #[.slice none 0 0] 31)).frozen? ⟨w.heap.size + 1 + 1, 0, none⟩ = false := by simp [go_sem]
  have ks : w.heap.size + 1 + 1 < (((w.alloc (.cells #[.slice a ts.length cap] 31)).alloc (.cells #[.string en.path, .string en.text, .bool en.runs] 35)).alloc (.cells #[.slice none 0 0] 31)).heap.size := by simp [go_sem]
  go_enter Try.func12, Try.ntmps12
  go_wp2_with fail
  refine (grow_any a cap ts _ (hts.below hal) hn (fun e he => (hz e he).1)).mono ?_
  rintro e w1 ⟨hb1, hpost⟩
  generalize ((w.alloc (.cells #[.slice a ts.length cap] 31)).alloc (.cells #[.string en.path, .string en.text, .bool en.runs] 35)).alloc (.cells #[.slice none 0 0] 31) = w0 at *
  obtain ⟨g, hg⟩ : ∃ g, g = w.heap.size + 1 + 1 := ⟨_, rfl⟩
  obtain ⟨be, hbe⟩ : ∃ be, be = w.heap.size + 1 := ⟨_, rfl⟩
  rw [← hg] at k0 kf ks ⊢
  rw [← hbe] at e0 e1 e2 ⊢
  have hgw : w.heap.size ≤ g := by omega
  have hbg : be < g := by omega
  clear hg hbe
  replace k0 := cell_later hb1 k0
  replace kf : w1.frozen? ⟨g, 0, none⟩ = false := (hb1.frozen (p := ⟨g, 0, none⟩) ks).trans kf
  replace e0 := cell_later hb1 e0
  replace e1 := cell_later hb1 e1
  replace e2 := cell_later hb1 e2
  have ks1 : g < w1.heap.size := Nat.lt_of_lt_of_le ks hb1.size
  have hbw := hal.trans (hb1.mono hal.size)
  clear hb1 hal hts
  rcases hpost with ⟨hv, root, rfl, lo, N, β, μ, φ, hlo, hN, hT, hroot, hS⟩ | ⟨hv, rfl⟩
  · have hglo : g < lo := Nat.lt_of_lt_of_le ks hlo
    clear ks hlo
    go_wp2_with fail
    refine (isEntry_any en (by omega) w1).mono ?_
    rintro e w2 ⟨rfl, hb2⟩
    replace k0 := cell_later hb2 k0
    replace kf : w2.frozen? ⟨g, 0, none⟩ = false := (hb2.frozen (p := ⟨g, 0, none⟩) ks1).trans kf
    replace e0 := cell_later hb2 e0
    replace e1 := cell_later hb2 e1
    replace e2 := cell_later hb2 e2
    have ks2 : g < w2.heap.size := Nat.lt_of_lt_of_le ks1 hb2.size
    have hbw2 := hbw.trans (hb2.mono hbw.size)
    have hT2 := hT.below hb2
    clear hb2 hT hbw ks1
    cases hok : enOk en with
    | false =>
      go_wp2
      refine bodyPost_ret (v := TreeV none ([] : List En).length 0 2) ?_ rfl ⟨[], 2, .inr (.inl ⟨hv, hok, rfl, rfl⟩), ⟨none, 0, rfl, EL.nil _ _ _⟩, hbw2.setCell (p := ⟨g, 0, none⟩) hgw _⟩
      go_light
      simp [results, Try.results12, go_sem, TreeV, k0]
    | true =>
      have hpk : pathOk pathB en.path = true := by simp only [enOk, Bool.and_eq_true] at hok; exact hok.1
      have htx : en.text.size ≤ 1500 := (enOk_parts hok).2.2
      obtain ⟨h6, h126⟩ := parts6 hok
      have HG : Keep (GoodT 100 β (upd φ (partsB en.path) none)) := ⟨(good_of_shape hv hS).strike _⟩
      have HBL : Keep (Blocked β (upd φ (partsB en.path) none) (partsB en.path) ↔ InWay ts en) := ⟨blocked_set hS en⟩
      have HTS : Keep (∀ us, Told (upd (upd φ (partsB en.path) none) (partsB en.path) (some (en.text, en.runs))) [] [] [] us → SetRel ts en us) := ⟨fun us h => told_set hS h⟩
      have HFN : Keep (∀ q, φ q ≠ none → β q ≠ none) := ⟨hS.files_nodes⟩
      have hpos := path_pos hpk
      go_wp2_with fail
      refine (find_any lo N root w2 β μ φ hT2 hroot en.path (by omega)).mono ?_
      rintro e w3 ⟨rfl, hb3⟩
      replace k0 := cell_later hb3 k0
      replace kf : w3.frozen? ⟨g, 0, none⟩ = false := (hb3.frozen (p := ⟨g, 0, none⟩) ks2).trans kf
      replace e0 := cell_later hb3 e0
      replace e1 := cell_later hb3 e1
      replace e2 := cell_later hb3 e2
      have ks3 : g < w3.heap.size := Nat.lt_of_lt_of_le ks2 hb3.size
      have hbw3 := hbw2.trans (hb3.mono hbw2.size)
      have hT3 := hT2.below hb3
      clear hb3 hT2 hbw2 ks2 hS
      -- the old file is struck, if there is one; then on from there
      have hon : ∀ W, TreeM lo N W β μ (upd φ (partsB en.path) none) → W.cell? ⟨g, 0, none⟩ = some (.slice none 0 0) → W.frozen? ⟨g, 0, none⟩ = false → g < W.heap.size → Below w.heap.size w W → W.heap.size ≥ lo →
          Calls Try.prog 35 #[.pointer (some ⟨root, 0, none⟩), .agg #[.string en.path, .string en.text, .bool en.runs]] W fun e w' => ∃ bl : Bool, e = .returned (.bool bl) ∧ (bl = false ↔ InWay ts en) ∧ w'.cell? ⟨g, 0, none⟩ = some (.slice none 0 0) ∧ w'.frozen? ⟨g, 0, none⟩ = false ∧ g < w'.heap.size ∧ Below w.heap.size w w' ∧
            (bl = true → ∃ β' μ', TreeM lo (N + 6) w' β' μ' (upd (upd φ (partsB en.path) none) (partsB en.path) (some (en.text, en.runs))) ∧ β' [] = some root ∧ GoodT 101 β' (upd (upd φ (partsB en.path) none) (partsB en.path) (some (en.text, en.runs)))) := by
        intro W hTW hk0 hkf hks hbW hsz
        refine (lay_any lo N root W β μ _ hTW (fun q hq => HG.out.node q hq) hroot (by omega) en (by omega) hpos).mono ?_
        rintro e w' (⟨rfl, hnb, ⟨β', μ', hT', hgr, hr'⟩, hBT⟩ | ⟨rfl, hbl, _, hBT⟩)
        · have hB := hBT.below hTW hsz
          exact ⟨true, rfl, ⟨fun h => (by cases h), fun h => absurd (HBL.out.2 h) hnb⟩, (hB.cell (p := ⟨g, 0, none⟩) hglo).trans hk0, (hB.frozen (p := ⟨g, 0, none⟩) hglo).trans hkf, Nat.lt_of_lt_of_le hks hB.size, hbW.trans (hB.mono (by omega)),
            fun _ => ⟨β', μ', hT'.mono (by omega), hr'.trans hroot, HG.out.lay hpk htx hnb hgr⟩⟩
        · have hB := hBT.below hTW hsz
          exact ⟨false, rfl, ⟨fun _ => HBL.out.1 hbl, fun _ => rfl⟩, (hB.cell (p := ⟨g, 0, none⟩) hglo).trans hk0, (hB.frozen (p := ⟨g, 0, none⟩) hglo).trans hkf, Nat.lt_of_lt_of_le hks hB.size, hbW.trans (hB.mono (by omega)), fun h => by cases h⟩
      have hlw : lo ≤ w3.heap.size := by
        obtain ⟨h1, h2, _⟩ := hT3.node [] root hroot
        have := (Array.getElem?_eq_some_iff.1 h1).1
        omega
      cases hβ : β (partsB en.path) with
      | none =>
        have hφ : φ (partsB en.path) = none := by
          cases h : φ (partsB en.path) with
          | none => rfl
          | some f => exact absurd hβ (HFN.out _ (by rw [h]; simp))
        have hcall := hon w3 (by rw [upd_none hφ]; exact hT3) k0 kf ks3 hbw3 hlw
        unfold ptrV
        go_wp2_with fail
        refine hcall.mono ?_
        rintro e w5 ⟨bl, rfl, hbl, q0, qf, qs, hb5, htree⟩
        clear hcall hon k0 kf e0 e1 e2
        cases bl with
        | false =>
          have hway := hbl.1 rfl
          clear hbl htree
          go_wp2
          refine bodyPost_ret (v := TreeV none ([] : List En).length 0 3) ?_ rfl ⟨[], 3, .inr (.inr (.inl ⟨hv, hok, hway, rfl, rfl⟩)), ⟨none, 0, rfl, EL.nil _ _ _⟩, hb5.setCell (p := ⟨g, 0, none⟩) hgw _⟩
          go_light
          simp [results, Try.results12, go_sem, TreeV, q0]
        | true =>
          have hfree : ¬ InWay ts en := fun h => by have := hbl.2 h; cases this
          obtain ⟨β', μ', hT5, hr5, hG5⟩ := htree rfl
          have htc := tree_any lo (N + 6) 101 (by omega) (by omega) β' μ' _ hG5 root w5 hT5 hr5
          clear hbl htree hT5 hG5
          go_wp2_with fail
          refine htc.mono ?_
          rintro e w6 ⟨us, ht, hb6, hres⟩
          have hset := HTS.out us ht
          have hb56 := hb5.trans (hb6.mono hb5.size)
          replace q0 := cell_later hb6 q0
          replace qf : w6.frozen? ⟨g, 0, none⟩ = false := (hb6.frozen (p := ⟨g, 0, none⟩) qs).trans qf
          clear htc hb6 ht
          unfold TreeR TreeV at hres
          rcases hres with ⟨h100, ad, cap6, rfl, _⟩ | ⟨h100, ad, cap6, rfl, hel⟩
          · go_wp2
            refine bodyPost_ret (v := TreeV ad ([] : List En).length cap6 4) ?_ rfl ⟨[], 4, .inr (.inr (.inr ⟨hv, hok, hfree, us, hset, .inl ⟨h100, rfl, rfl⟩⟩)), ⟨ad, cap6, rfl, EL.nil _ _ _⟩, hb56.setCell (p := ⟨g, 0, none⟩) hgw _⟩
            go_light
            simp [results, Try.results12, go_sem, TreeV, q0]
          · have hel6 := (el_setP (u := .slice ad us.length cap6) hel qs).mono hb5.size
            clear hel
            go_wp2
            refine bodyPost_ret (v := TreeV ad us.length cap6 0) ?_ rfl ⟨us, 0, .inr (.inr (.inr ⟨hv, hok, hfree, us, hset, .inr ⟨h100, rfl, rfl⟩⟩)), ⟨ad, cap6, rfl, hel6⟩, hb56.setCell (p := ⟨g, 0, none⟩) hgw _⟩
            go_light
            simp [results, Try.results12, go_sem, TreeV, q0]
      | some b =>
        obtain ⟨hob, hlb, _, _⟩ := hT3.node _ b hβ
        obtain ⟨c0, _, cf, c1, c2⟩ := node_cells hob
        have ne1 : be ≠ b := by omega
        have ne2 : g ≠ b := by omega
        have hcall := hon (setN w3 b) (hT3.strike hβ) ((World.cell?_of_block (setN_other ne2)).trans k0) (frozen_block (setN_other ne2) kf) (by unfold setN; simpa using ks3) (setN_below hbw3 (by omega)) (by unfold setN; simpa using hlw)
        have e0' : (setN w3 b).cell? ⟨be, 0, none⟩ = some (.string en.path) := (World.cell?_of_block (setN_other ne1)).trans e0
        have e1' : (setN w3 b).cell? ⟨be, 1, none⟩ = some (.string en.text) := (World.cell?_of_block (setN_other ne1)).trans e1
        have e2' : (setN w3 b).cell? ⟨be, 2, none⟩ = some (.bool en.runs) := (World.cell?_of_block (setN_other ne1)).trans e2
        have ne3 : ¬ b = be := by omega
        clear hob hlb ne1 ne2
        unfold ptrV
        go_wp2_with fail
        refine hcall.mono ?_
        rintro e w5 ⟨bl, rfl, hbl, q0, qf, qs, hb5, htree⟩
        clear hcall hon k0 kf e0 e1 e2 e0' e1' e2' c0 c1 c2 cf
        cases bl with
        | false =>
          have hway := hbl.1 rfl
          clear hbl htree
          go_wp2
          refine bodyPost_ret (v := TreeV none ([] : List En).length 0 3) ?_ rfl ⟨[], 3, .inr (.inr (.inl ⟨hv, hok, hway, rfl, rfl⟩)), ⟨none, 0, rfl, EL.nil _ _ _⟩, hb5.setCell (p := ⟨g, 0, none⟩) hgw _⟩
          go_light
          simp [results, Try.results12, go_sem, TreeV, q0]
        | true =>
          have hfree : ¬ InWay ts en := fun h => by have := hbl.2 h; cases this
          obtain ⟨β', μ', hT5, hr5, hG5⟩ := htree rfl
          have htc := tree_any lo (N + 6) 101 (by omega) (by omega) β' μ' _ hG5 root w5 hT5 hr5
          clear hbl htree hT5 hG5
          go_wp2_with fail
          refine htc.mono ?_
          rintro e w6 ⟨us, ht, hb6, hres⟩
          have hset := HTS.out us ht
          have hb56 := hb5.trans (hb6.mono hb5.size)
          replace q0 := cell_later hb6 q0
          replace qf : w6.frozen? ⟨g, 0, none⟩ = false := (hb6.frozen (p := ⟨g, 0, none⟩) qs).trans qf
          clear htc hb6 ht
          unfold TreeR TreeV at hres
          rcases hres with ⟨h100, ad, cap6, rfl, _⟩ | ⟨h100, ad, cap6, rfl, hel⟩
          · go_wp2
            refine bodyPost_ret (v := TreeV ad ([] : List En).length cap6 4) ?_ rfl ⟨[], 4, .inr (.inr (.inr ⟨hv, hok, hfree, us, hset, .inl ⟨h100, rfl, rfl⟩⟩)), ⟨ad, cap6, rfl, EL.nil _ _ _⟩, hb56.setCell (p := ⟨g, 0, none⟩) hgw _⟩
            go_light
            simp [results, Try.results12, go_sem, TreeV, q0]
          · have hel6 := (el_setP (u := .slice ad us.length cap6) hel qs).mono hb5.size
            clear hel
            go_wp2
            refine bodyPost_ret (v := TreeV ad us.length cap6 0) ?_ rfl ⟨us, 0, .inr (.inr (.inr ⟨hv, hok, hfree, us, hset, .inr ⟨h100, rfl, rfl⟩⟩)), ⟨ad, cap6, rfl, hel6⟩, hb56.setCell (p := ⟨g, 0, none⟩) hgw _⟩
            go_light
            simp [results, Try.results12, go_sem, TreeV, q0]
  · go_wp2
    refine bodyPost_ret (v := TreeV none ([] : List En).length 0 1) ?_ rfl ⟨[], 1, .inl ⟨hv, rfl, rfl⟩, ⟨none, 0, rfl, EL.nil _ _ _⟩, hbw.setCell (p := ⟨g, 0, none⟩) hgw _⟩
    go_light
    simp [results, Try.results12, go_sem, TreeV, k0]
end Go.Proofs.Ytmeodgcnnjkilaa
