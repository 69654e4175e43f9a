/-
  impl.Overlay.
-/
import Derived.Test.YtmeodgcnnjkilaaTreeT
import Derived.Test.YtmeodgcnnjkilaaOverP
import Derived.Test.YtmeodgcnnjkilaaImplTree
namespace Go.Proofs.Ytmeodgcnnjkilaa
open Go.RowKit

theorem el_setO {B g : Nat} {w : World} {a : Option Addr} {ts : List En} {u : Value} (h : EL B w a ts) (hg : g < B) : EL B (w.setCell ⟨g, 0, none⟩ u) a ts :=
  h.grown (row := some g) ⟨rfl, rfl, rfl, by simp, fun k _ hk => Below.heap_setCell _ _ _ _ (fun e => hk (by rw [e]))⟩ (fun k _ hk _ e => by cases e; omega)

set_option maxRecDepth 100000 in
set_option maxHeartbeats 4000000 in
theorem implOver_any (a b : Option Addr) (ca cb : Nat) (ts bs : List En) (w : World) (hts : ES w a ts) (hbs : ES w b bs) (hn : ts.length ≤ 1048576) (hnb : bs.length ≤ 1048576) (hz : ∀ e ∈ ts, e.path.size ≤ 1048576 ∧ e.text.size ≤ 1048576) (hzb : ∀ e ∈ bs, e.path.size ≤ 1048576 ∧ e.text.size ≤ 1048576) :
    Calls Try.prog 19 #[.agg #[.slice a ts.length ca], .agg #[.slice b bs.length cb]] w fun e w' => OverPost ts bs w e w' := by
  have hal : Below w.heap.size w (((w.alloc (.cells #[.slice a ts.length ca] 31)).alloc (.cells #[.slice b bs.length cb] 31)).alloc (.cells #[.slice none 0 0] 31)) := (((Below.refl _ _).alloc (Nat.le_refl _) _).alloc (by simp) _).alloc (by simp; omega) _
  have m0 : (((w.alloc (.cells #[.slice a ts.length ca] 31)).alloc (.cells #[.slice b bs.length cb] 31)).alloc (.cells #[.slice none 0 0] 31)).cell? ⟨w.heap.size, 0, none⟩ = some (.slice a ts.length ca) := by simp [go_sem]
  have k0 : (((w.alloc (.cells #[.slice a ts.length ca] 31)).alloc (.cells #[.slice b bs.length cb] 31)).alloc (.cells #[.slice none 0 0] 31)).cell? ⟨w.heap.size + 1 + 1, 0, none⟩ = some (.slice none 0 0) := by simp [go_sem]
  have kf : (((w.alloc (.cells #[.slice a ts.length ca] 31)).alloc (.cells #[.slice b bs.length cb] 31)).alloc (.cells #[.slice none 0 0] 31)).frozen? ⟨w.heap.size + 1 + 1, 0, none⟩ = false := by simp [go_sem]
  have ks : w.heap.size + 1 + 1 < (((w.alloc (.cells #[.slice a ts.length ca] 31)).alloc (.cells #[.slice b bs.length cb] 31)).alloc (.cells #[.slice none 0 0] 31)).heap.size := by simp [go_sem]
  go_enter Try.func19, Try.ntmps19
  go_wp2_with fail
  refine (grow_any b cb bs _ (hbs.below hal) hnb (fun e he => (hzb e he).1)).mono ?_
  rintro e w1 ⟨hb1, hpost⟩
  generalize ((w.alloc (.cells #[.slice a ts.length ca] 31)).alloc (.cells #[.slice b bs.length cb] 31)).alloc (.cells #[.slice none 0 0] 31) = w0 at *
  obtain ⟨g, hg⟩ : ∃ g, g = w.heap.size + 1 + 1 := ⟨_, rfl⟩
  obtain ⟨ta, hta⟩ : ∃ ta, ta = w.heap.size := ⟨_, rfl⟩
  rw [← hg] at k0 kf ks ⊢
  rw [← hta] at m0 ⊢
  have hgw : w.heap.size ≤ g := by omega
  have hag : ta < g := by omega
  clear hg hta
  replace k0 := cell_later hb1 k0
  replace kf : w1.frozen? ⟨g, 0, none⟩ = false := (hb1.frozen (p := ⟨g, 0, none⟩) ks).trans kf
  replace m0 := cell_later hb1 m0
  have ks1 : g < w1.heap.size := Nat.lt_of_lt_of_le ks hb1.size
  have hbw := hal.trans (hb1.mono hal.size)
  clear hb1 hal hbs
  rcases hpost with ⟨hv, root, rfl, lo, N, β, μ, φ, hlo, hN, hT, hroot, hS⟩ | ⟨hv, rfl⟩
  · have hglo : g < lo := Nat.lt_of_lt_of_le ks hlo
    have HWL : Keep (w.heap.size ≤ lo) := ⟨by omega⟩
    clear ks hlo
    have hvt := implTree_any a ca ts w1 (hts.below hbw) hn (fun e he => (hz e he).1)
    go_wp2_with fail
    refine hvt.mono ?_
    rintro e w2 ⟨bl, rfl, hbl, hb2⟩
    clear hvt
    replace k0 := cell_later hb2 k0
    replace kf : w2.frozen? ⟨g, 0, none⟩ = false := (hb2.frozen (p := ⟨g, 0, none⟩) ks1).trans kf
    replace m0 := cell_later hb2 m0
    have ks2 : g < w2.heap.size := Nat.lt_of_lt_of_le ks1 hb2.size
    have hbw2 := hbw.trans (hb2.mono hbw.size)
    have hT2 := hT.below hb2
    clear hb2 hT hbw ks1
    cases bl with
    | false =>
      have hnv : ¬ ValidTs ts := fun h => by have := hbl.2 h; cases this
      clear hbl
      go_wp2
      refine bodyPost_ret (v := TreeV none ([] : List En).length 0 1) ?_ rfl ⟨[], 1, .inl ⟨fun h => hnv h.1, rfl, rfl⟩, ⟨none, 0, rfl, EL.nil _ _ _⟩, hbw2.setCell (p := ⟨g, 0, none⟩) hgw _⟩
      go_light
      simp [results, Try.results19, go_sem, TreeV, k0]
    | true =>
      have hvT := hbl.1 rfl
      have HV : Keep (ValidTs ts ∧ ValidTs bs) := ⟨⟨hvT, hv⟩⟩
      have hn100 : ts.length ≤ 100 := hvT.1
      have hlw : lo ≤ w2.heap.size := by
        obtain ⟨h1, h2, _⟩ := hT2.node [] root hroot
        have := (Array.getElem?_eq_some_iff.1 h1).1
        omega
      have HG : Keep (GoodT 100 β φ) := ⟨good_of_shape hv hS⟩
      have HS : Keep (Shape (laid ts bs 0) β φ) := ⟨by rw [laid_zero]; exact hS⟩
      clear hbl hvT hv hS
      go_wp2
      go_loopw [26] (fun i wr => ∃ (k N' : Nat) (β' : Way → Option Nat) (μ' : Way → Nat) (φ' : Way → Option (ByteArray × Bool)), i = .int .i64 k ∧ k ≤ ts.length ∧ TreeM lo N' wr β' μ' φ' ∧ N' ≤ 1000 + 6 * k ∧ β' [] = some root ∧ Keep (Shape (laid ts bs k) β' φ') ∧ Keep (GoodT (100 + k) β' φ') ∧ Below lo w2 wr) (fun i _ => ts.length - (intOf i).toNat)
      case atStart => exact ⟨0, N, β, μ, φ, rfl, Nat.zero_le _, hT2, by omega, hroot, HS, HG, Below.refl _ _⟩
      case round =>
        clear HS HG hT2 hroot
        obtain ⟨k, N', β', μ', φ', rfl, hk, hT, hN', hr, HS, HG, hB⟩ := hrel
        have K0 := (hB.cell (p := ⟨g, 0, none⟩) hglo).trans k0
        have KF : wr.frozen? ⟨g, 0, none⟩ = false := (hB.frozen (p := ⟨g, 0, none⟩) hglo).trans kf
        have hzr : g < wr.heap.size := Nat.lt_of_lt_of_le ks2 hB.size
        have hbwr : Below w.heap.size w wr := hbw2.trans (hB.mono HWL.out)
        have hEr := hts.below hbwr
        have hlr : lo ≤ wr.heap.size := Nat.le_trans hlw hB.size
        by_cases hlt : k < ts.length
        · have hlt' : (k : Int) < ts.length := by omega
          obtain ⟨bb, off, rfl, hc⟩ := hEr.at hlt
          obtain ⟨x0, x1, x2⟩ := hc k hlt
          clear hc hEr
          have hals : Below wr.heap.size wr (wr.alloc (.cells #[.string ts[k].path, .string ts[k].text, .bool ts[k].runs] 35)) := (Below.refl _ _).alloc (Nat.le_refl _) _
          have hTa := hT.below hals
          have hBa := hB.alloc hlr (.cells #[.string ts[k].path, .string ts[k].text, .bool ts[k].runs] 35)
          have hok := valid_en HV.out.1 (List.getElem_mem hlt)
          obtain ⟨h6, h126⟩ := parts6 hok
          have hpk : pathOk pathB ts[k].path = true := by simp only [enOk, Bool.and_eq_true] at hok; exact hok.1
          have htx : ts[k].text.size ≤ 1500 := (enOk_parts hok).2.2
          have hlay := lay_any lo N' root _ β' μ' φ' hTa (fun q hq => HG.out.node q hq) hr (by omega) ts[k] (by omega) (path_pos hpk)
          have HBL : Keep (Blocked β' φ' (partsB ts[k].path) ↔ freeB bs ts[k].path = false) := ⟨blocked_over HV.out.1 hlt HS.out⟩
          have HTM : Keep (TreeM lo N' wr β' μ' φ') := ⟨hT⟩
          have hlra : lo ≤ (wr.alloc (.cells #[.string ts[k].path, .string ts[k].text, .bool ts[k].runs] 35)).heap.size := Nat.le_trans hlr hals.size
          clear hT hok hals
          go_wp2_with fail
          refine hlay.mono ?_
          clear hlay
          rintro e w3 (⟨rfl, hnb, ⟨β2, μ2, hT3, hgr, hr3⟩, hBT⟩ | ⟨rfl, hbl, ⟨β2, μ2, q, b2, hq, hβq, hT3, _, hgr, hr3⟩, hBT⟩)
          · have hB3 := hBa.trans (hBT.below hTa hlra)
            have hfr : freeB bs ts[k].path = true := by
              cases h : freeB bs ts[k].path with
              | true => rfl
              | false => exact absurd (HBL.out.2 h) hnb
            have HS3 : Keep (Shape (laid ts bs (k + 1)) β2 (upd φ' (partsB ts[k].path) (some (ts[k].text, ts[k].runs)))) := ⟨by
              rw [laid_free hlt hfr]
              refine HS.out.laid ts[k] ?_ hgr
              cases hx : φ' (partsB ts[k].path) with
              | none => rfl
              | some f => exact absurd (.inr (.inl (by rw [hx]; simp))) hnb⟩
            have HG3 : Keep (GoodT (100 + (k + 1)) β2 (upd φ' (partsB ts[k].path) (some (ts[k].text, ts[k].runs)))) := ⟨HG.out.lay hpk htx hnb hgr⟩
            have hT3' := hT3.mono (show N' + (partsB ts[k].path).length ≤ N' + 6 by omega)
            clear hnb hfr hgr hT3 HBL HS HG hTa hBT x0 x1 x2
            go_wp2
            go_roundw
            case rel => exact ⟨k + 1, N' + 6, β2, μ2, _, by congr 1, hlt, hT3', by omega, hr3.trans hr, HS3, HG3, hB3⟩
            case measure => simp only [intOf]; omega
          · have hB3 := hBa.trans (hBT.below hTa hlra)
            have hfr : freeB bs ts[k].path = false := HBL.out.1 hbl
            have hsame := same_nodes HTM.out hβq hgr
            have HS3 : Keep (Shape (laid ts bs (k + 1)) β2 φ') := ⟨by rw [laid_not hlt hfr]; exact HS.out.same hsame⟩
            have HG3 : Keep (GoodT (100 + (k + 1)) β2 φ') := ⟨(HG.out.same hsame).wide (by omega)⟩
            have hT3' := hT3.mono (show N' + q.length ≤ N' + 6 by have := hq.length_le; omega)
            clear hbl hfr hgr hT3 HBL HS HG hTa hBT hsame hq hβq x0 x1 x2
            go_wp2
            go_roundw
            case rel => exact ⟨k + 1, N' + 6, β2, μ2, _, by congr 1, hlt, hT3', by omega, hr3.trans hr, HS3, HG3, hB3⟩
            case measure => simp only [intOf]; omega
        · obtain rfl : k = ts.length := by omega
          have htc := tree_any lo N' (100 + ts.length) (by omega) (by omega) β' μ' φ' HG.out root wr hT hr
          have HTO : Keep (∀ us, Told φ' [] [] [] us → OverRel ts bs us) := ⟨fun us h => told_over HS.out h⟩
          clear HS HG hT hEr
          go_wp2_with fail
          refine htc.mono ?_
          rintro e w6 ⟨us, ht, hb6, hres⟩
          have hset := HTO.out us ht
          have hb56 := hbwr.trans (hb6.mono hbwr.size)
          replace K0 := cell_later hb6 K0
          replace KF : w6.frozen? ⟨g, 0, none⟩ = false := (hb6.frozen (p := ⟨g, 0, none⟩) hzr).trans KF
          clear htc hb6 ht
          unfold TreeR TreeV at hres
          rcases hres with ⟨h100, ad, cap6, rfl, _⟩ | ⟨h100, ad, cap6, rfl, hel⟩
          · go_wp2
            refine bodyPost_ret (v := TreeV ad ([] : List En).length cap6 4) ?_ rfl ⟨[], 4, .inr ⟨HV.out.1, HV.out.2, us, hset, .inl ⟨h100, rfl, rfl⟩⟩, ⟨ad, cap6, rfl, EL.nil _ _ _⟩, hb56.setCell (p := ⟨g, 0, none⟩) hgw _⟩
            go_light
            simp [results, Try.results19, go_sem, TreeV, K0]
          · have hel6 := (el_setO (u := .slice ad us.length cap6) hel hzr).mono hbwr.size
            clear hel
            go_wp2
            refine bodyPost_ret (v := TreeV ad us.length cap6 0) ?_ rfl ⟨us, 0, .inr ⟨HV.out.1, HV.out.2, us, hset, .inr ⟨h100, rfl, rfl⟩⟩, ⟨ad, cap6, rfl, hel6⟩, hb56.setCell (p := ⟨g, 0, none⟩) hgw _⟩
            go_light
            simp [results, Try.results19, go_sem, TreeV, K0]
  · go_wp2
    refine bodyPost_ret (v := TreeV none ([] : List En).length 0 1) ?_ rfl ⟨[], 1, .inl ⟨fun h => hv h.2, rfl, rfl⟩, ⟨none, 0, rfl, EL.nil _ _ _⟩, hbw.setCell (p := ⟨g, 0, none⟩) hgw _⟩
    go_light
    simp [results, Try.results19, go_sem, TreeV, k0]
end Go.Proofs.Ytmeodgcnnjkilaa
