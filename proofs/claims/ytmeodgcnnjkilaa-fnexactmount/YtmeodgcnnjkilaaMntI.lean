/-
  impl.Mount.
-/
import Derived.Test.YtmeodgcnnjkilaaTreeT
import Derived.Test.YtmeodgcnnjkilaaMntP
import Derived.Test.YtmeodgcnnjkilaaGrow
namespace Go.Proofs.Ytmeodgcnnjkilaa
open Go.RowKit

theorem el_setM {B g : Nat} {w : World} {a : Option Addr} {ts : List En} {u : Value} (h : EL B w a ts) (hg : g < B) : EL B (w.setCell ⟨g, 0, none⟩ u) a ts :=
  h.grown (row := some g) ⟨rfl, rfl, rfl, by simp, fun k _ hk => Below.heap_setCell _ _ _ _ (fun e => hk (by rw [e]))⟩ (fun k _ hk _ e => by cases e; omega)

set_option maxRecDepth 100000 in
set_option maxHeartbeats 4000000 in
theorem implMnt_any (a b : Option Addr) (ca cb : Nat) (ts bs : List En) (dir : ByteArray) (w : World) (hts : ES w a ts) (hbs : ES w b bs) (hn : ts.length ≤ 1048576) (hnb : bs.length ≤ 1048576) (hz : ∀ e ∈ ts, e.path.size ≤ 1048576 ∧ e.text.size ≤ 1048576) (hzb : ∀ e ∈ bs, e.path.size ≤ 1048576 ∧ e.text.size ≤ 1048576) (hdz : dir.size ≤ 1048576) :
    Calls Try.prog 17 #[.agg #[.slice a ts.length ca], .string dir, .agg #[.slice b bs.length cb]] w fun e w' => MntPost ts dir bs w e w' := by
  have hal : Below w.heap.size w (((w.alloc (.cells #[.slice a ts.length ca] 31)).alloc (.cells #[.slice b bs.length cb] 31)).alloc (.cells #[.slice none 0 0] 31)) := (((Below.refl _ _).alloc (Nat.le_refl _) _).alloc (by simp) _).alloc (by simp; omega) _
  have m0 : (((w.alloc (.cells #[.slice a ts.length ca] 31)).alloc (.cells #[.slice b bs.length cb] 31)).alloc (.cells #[.slice none 0 0] 31)).cell? ⟨w.heap.size + 1, 0, none⟩ = some (.slice b bs.length cb) := by simp [go_sem]
  have k0 : (((w.alloc (.cells #[.slice a ts.length ca] 31)).alloc (.cells #[.slice b bs.length cb] 31)).alloc (.cells #[.slice none 0 0] 31)).cell? ⟨w.heap.size + 1 + 1, 0, none⟩ = some (.slice none 0 0) := by simp [go_sem]
  have kf : (((w.alloc (.cells #[.slice a ts.length ca] 31)).alloc (.cells #[.slice b bs.length cb] 31)).alloc (.cells #[.slice none 0 0] 31)).frozen? ⟨w.heap.size + 1 + 1, 0, none⟩ = false := by simp [go_sem]
  have ks : w.heap.size + 1 + 1 < (((w.alloc (.cells #[.slice a ts.length ca] 31)).alloc (.cells #[.slice b bs.length cb] 31)).alloc (.cells #[.slice none 0 0] 31)).heap.size := by simp [go_sem]
  go_enter Try.func17, Try.ntmps17
  go_wp2_with fail
  refine (grow_any a ca ts _ (hts.below hal) hn (fun e he => (hz e he).1)).mono ?_
  rintro e w1 ⟨hb1, hpost⟩
  generalize ((w.alloc (.cells #[.slice a ts.length ca] 31)).alloc (.cells #[.slice b bs.length cb] 31)).alloc (.cells #[.slice none 0 0] 31) = w0 at *
  obtain ⟨g, hg⟩ : ∃ g, g = w.heap.size + 1 + 1 := ⟨_, rfl⟩
  obtain ⟨tb, htb⟩ : ∃ tb, tb = w.heap.size + 1 := ⟨_, rfl⟩
  rw [← hg] at k0 kf ks ⊢
  rw [← htb] at m0 ⊢
  have hgw : w.heap.size ≤ g := by omega
  have hbg : tb < g := by omega
  clear hg htb
  replace k0 := cell_later hb1 k0
  replace kf : w1.frozen? ⟨g, 0, none⟩ = false := (hb1.frozen (p := ⟨g, 0, none⟩) ks).trans kf
  replace m0 := cell_later hb1 m0
  have ks1 : g < w1.heap.size := Nat.lt_of_lt_of_le ks hb1.size
  have hbw := hal.trans (hb1.mono hal.size)
  have hgr2 := grow_any b cb bs w1 (hbs.below hbw) hnb (fun e he => (hzb e he).1)
  clear hb1 hal hts
  rcases hpost with ⟨hv, root, rfl, lo, N, β, μ, φ, hlo, hN, hT, hroot, hS⟩ | ⟨hv, rfl⟩
  · have hglo : g < lo := Nat.lt_of_lt_of_le ks hlo
    clear ks hlo
    go_wp2_with fail
    refine hgr2.mono ?_
    rintro e w2 ⟨hb2, hpost2⟩
    clear hgr2
    replace k0 := cell_later hb2 k0
    replace kf : w2.frozen? ⟨g, 0, none⟩ = false := (hb2.frozen (p := ⟨g, 0, none⟩) ks1).trans kf
    replace m0 := cell_later hb2 m0
    have ks2 : g < w2.heap.size := Nat.lt_of_lt_of_le ks1 hb2.size
    have hbw2 := hbw.trans (hb2.mono hbw.size)
    have HT1 : Keep (∀ k, TreeB β μ k → k < w1.heap.size) := ⟨fun k hk => (hT.lt hk).2⟩
    have hT2 := hT.below hb2
    have HZ12 : Keep (w1.heap.size ≤ w2.heap.size) := ⟨hb2.size⟩
    clear hb2 hT hbw ks1
    rcases hpost2 with ⟨hv2, root2, rfl, lo2, N2, β2, μ2, φ2, hlo2, hN2, hU, hroot2, hS2⟩ | ⟨hv2, rfl⟩
    · have hvp := implPath_any dir (by omega) w2
      have HT2 : Keep (∀ k, TreeB β2 μ2 k → w1.heap.size ≤ k ∧ k < w2.heap.size) := ⟨fun k hk => by have := hU.lt hk; omega⟩
      have HLO : Keep (lo ≤ w1.heap.size ∧ lo ≤ lo2) := ⟨by have := HT1.out root (.inl ⟨[], hroot⟩); have := (hT2.lt (k := root) (.inl ⟨[], hroot⟩)).1; omega⟩
      clear hlo2
      go_wp2_with fail
      refine hvp.mono ?_
      rintro e w3 ⟨rfl, hb3⟩
      clear hvp
      replace k0 := cell_later hb3 k0
      replace kf : w3.frozen? ⟨g, 0, none⟩ = false := (hb3.frozen (p := ⟨g, 0, none⟩) ks2).trans kf
      replace m0 := cell_later hb3 m0
      have ks3 : g < w3.heap.size := Nat.lt_of_lt_of_le ks2 hb3.size
      have hbw3 := hbw2.trans (hb3.mono hbw2.size)
      have hT3 := hT2.below hb3
      have hU3 := hU.below hb3
      have HZ23 : Keep (w2.heap.size ≤ w3.heap.size) := ⟨hb3.size⟩
      clear hb3 hbw2 ks2 hT2 hU
      cases hpk : pathOk pathB dir with
      | false =>
        go_wp2
        refine bodyPost_ret (v := TreeV none ([] : List En).length 0 1) ?_ rfl ⟨[], 1, .inl ⟨fun h => (by rw [hpk] at h; cases h.2.2), rfl, rfl⟩, ⟨none, 0, rfl, EL.nil _ _ _⟩, hbw3.setCell (p := ⟨g, 0, none⟩) hgw _⟩
        go_light
        simp [results, Try.results17, go_sem, TreeV, k0]
      | true =>
        have HV : Keep (ValidTs ts ∧ ValidTs bs ∧ pathOk pathB dir = true) := ⟨⟨hv, hv2, hpk⟩⟩
        have hd126 : dir.size ≤ 126 := pathOk_size hpk
        clear hv hv2 hpk
        go_wp2
        go_loopw [40] (fun i wr => ∃ k : Nat, i = .int .i64 k ∧ k ≤ bs.length ∧ Keep (∀ e ∈ bs.take k, pathOk pathB (putE dir e).path = true) ∧ Below w3.heap.size w3 wr) (fun i _ => bs.length - (intOf i).toNat)
        case atStart => exact ⟨0, rfl, Nat.zero_le _, ⟨fun e he => by simp at he⟩, Below.refl _ _⟩
        case round =>
          obtain ⟨k, rfl, hk, HA, hB⟩ := hrel
          have K0 := cell_later hB k0
          have KF : wr.frozen? ⟨g, 0, none⟩ = false := (hB.frozen (p := ⟨g, 0, none⟩) ks3).trans kf
          have hzr : g < wr.heap.size := Nat.lt_of_lt_of_le ks3 hB.size
          have hbwr := hbw3.trans (hB.mono hbw3.size)
          by_cases hlt : k < bs.length
          · have hlt' : (k : Int) < bs.length := by omega
            obtain ⟨bb, off, rfl, hc⟩ := (hbs.below hbwr).at hlt
            obtain ⟨x0, x1, x2⟩ := hc k hlt
            have hals : Below wr.heap.size wr (wr.alloc (.cells #[.string bs[k].path, .string bs[k].text, .bool bs[k].runs] 35)) := (Below.refl _ _).alloc (Nat.le_refl _) _
            have hpz : (putE dir bs[k]).path.size ≤ 1099511627776 := by
              have := (hzb bs[k] (List.getElem_mem hlt)).1
              simp only [putE, ByteArray.size_append]
              show dir.size + 1 + bs[k].path.size ≤ _
              omega
            have hep := (hzb bs[k] (List.getElem_mem hlt)).1
            have hvp := implPath_any (putE dir bs[k]).path hpz (wr.alloc (.cells #[.string bs[k].path, .string bs[k].text, .bool bs[k].runs] 35))
            clear hc hpz
            cases hpe : pathOk pathB (putE dir bs[k]).path with
            | false =>
              rw [show (putE dir bs[k]).path = dir ++ ⟨#[47]⟩ ++ bs[k].path from rfl] at hvp hpe
              go_wp2_with fail
              refine hvp.mono ?_
              rintro e w5 ⟨rfl, hb5⟩
              have hb5' := hals.trans (hb5.mono hals.size)
              replace K0 := cell_later hb5' K0
              replace KF : w5.frozen? ⟨g, 0, none⟩ = false := (hb5'.frozen (p := ⟨g, 0, none⟩) hzr).trans KF
              have hbw5 := hbwr.trans (hb5'.mono hbwr.size)
              clear hvp
              rw [hpe]
              go_wp2
              refine bodyPost_ret (v := TreeV none ([] : List En).length 0 2) ?_ rfl ⟨[], 2, .inr (.inl ⟨HV.out, ⟨bs[k], List.getElem_mem hlt, hpe⟩, rfl, rfl⟩), ⟨none, 0, rfl, EL.nil _ _ _⟩, hbw5.setCell (p := ⟨g, 0, none⟩) hgw _⟩
              go_light
              simp [results, Try.results17, go_sem, TreeV, K0]
            | true =>
              have HA2 : Keep (∀ e ∈ bs.take (k + 1), pathOk pathB (putE dir e).path = true) := ⟨fun e he => by
                rcases (mem_take_succ hlt e).1 he with h | rfl
                · exact HA.out e h
                · exact hpe⟩
              rw [show (putE dir bs[k]).path = dir ++ ⟨#[47]⟩ ++ bs[k].path from rfl] at hvp hpe
              go_wp2_with fail
              refine hvp.mono ?_
              rintro e w5 ⟨rfl, hb5⟩
              have hb5' := hals.trans (hb5.mono hals.size)
              have hB5 := hB.trans (hb5'.mono hB.size)
              clear hvp
              rw [hpe]
              clear hpe
              go_wp2
              go_roundw
              case rel => exact ⟨k + 1, by congr 1, hlt, HA2, hB5⟩
              case measure => simp only [intOf]; omega
          · obtain rfl : k = bs.length := by omega
            rw [List.take_length] at HA
            have hT4 := hT3.below hB
            have hU4 := hU3.below hB
            have HZ34 : Keep (w3.heap.size ≤ wr.heap.size) := ⟨hB.size⟩
            have hre := reach_any lo N root wr β μ φ hT4 hS.files_nodes hroot (by omega) dir (by omega)
            go_wp2_with fail
            refine hre.mono ?_
            clear hre
            rintro e w5 (⟨β', μ', bn, hA, rfl, hBT⟩ | ⟨β', μ', bn, q, hA, hq, hne, hf, rfl, hBT⟩)
            · have hB5 := hBT.below hT4 (by have := HLO.out; have := HZ12.out; have := HZ23.out; have := HZ34.out; omega)
              have hU5 : TreeM lo2 N2 w5 β2 μ2 φ2 := hU4.turn (fun k hk => hBT.block k (by have := (HT2.out k hk).2; have := HZ23.out; have := HZ34.out; omega) (fun hk1 => by have := HT1.out k hk1; have := (HT2.out k hk).1; omega))
              have K5 := (hB5.cell (p := ⟨g, 0, none⟩) hglo).trans K0
              have KF5 : w5.frozen? ⟨g, 0, none⟩ = false := (hB5.frozen (p := ⟨g, 0, none⟩) hglo).trans KF
              have hz5 : g < w5.heap.size := Nat.lt_of_lt_of_le hzr hB5.size
              have hbw5 : Below w.heap.size w w5 := hbwr.trans (hB5.mono (by omega))
              have hdis : Keep (∀ k, TreeB β' μ' k → ¬ TreeB β2 μ2 k) := ⟨fun k hk hk2 => by
                have h2 := HT2.out k hk2
                have hz : k < wr.heap.size := by have := HZ23.out; have := HZ34.out; omega
                rcases hk with ⟨s, hs⟩ | ⟨s, hs, rfl⟩
                · cases hbs0 : β s with
                  | none => have := (hA.new s k hbs0 hs).1; omega
                  | some k' =>
                    have h3 := (hA.old s (by rw [hbs0]; simp)).1
                    rw [hs, hbs0] at h3
                    cases h3
                    have := HT1.out k (.inl ⟨s, hbs0⟩)
                    omega
                · cases hbs0 : β s with
                  | none =>
                    cases hbs1 : β' s with
                    | none => exact absurd hbs1 hs
                    | some k' => have := (hA.new s k' hbs0 hbs1).2; omega
                  | some k' =>
                    have h3 := (hA.old s (by rw [hbs0]; simp)).2
                    have := HT1.out (μ s) (.inr ⟨s, by rw [hbs0]; simp, rfl⟩)
                    omega⟩
              obtain ⟨hob, hlob, _, _⟩ := hA.tree.node _ bn hA.here
              obtain ⟨c0, c3, cf, _, _⟩ := node_cells hob
              obtain ⟨hob2, _, _, _⟩ := hU5.node _ root2 hroot2
              obtain ⟨_, d3, _, _, _⟩ := node_cells hob2
              have HIW : Keep (InWayD ts dir ↔ ∃ q, q <+: partsB dir ∧ φ q ≠ none) := ⟨inway_iff hS dir⟩
              cases hf : φ (partsB dir) with
              | some f =>
                rw [hf] at c0
                have hway : InWayD ts dir := HIW.out.2 ⟨_, List.prefix_refl _, by rw [hf]; simp⟩
                clear hob hob2 hA hU5
                go_wp2
                refine bodyPost_ret (v := TreeV none ([] : List En).length 0 3) ?_ rfl ⟨[], 3, .inr (.inr (.inl ⟨HV.out, HA.out, hway, rfl, rfl⟩)), ⟨none, 0, rfl, EL.nil _ _ _⟩, hbw5.setCell (p := ⟨g, 0, none⟩) hgw _⟩
                go_light
                simp [results, Try.results17, go_sem, TreeV, K5]
              | none =>
                rw [hf] at c0
                have hfree : ∀ q, q <+: partsB dir → φ q = none := fun q hq => by
                  by_cases e : q = partsB dir
                  · rw [e]; exact hf
                  · exact hA.free q hq e
                have hno : ¬ InWayD ts dir := fun h => by
                  obtain ⟨q, hq, hq2⟩ := HIW.out.1 h
                  exact hq2 (hfree q hq)
                have HNO : Keep (¬ InWayD ts dir) := ⟨hno⟩
                have hG := GoodT.graft (good_of_shape HV.out.1 hS) (good_of_shape HV.out.2.1 hS2) hA.grown hfree (path_parts HV.out.2.2) (deep_put hS2 HV.out.2.2 HA.out)
                have hpl : (partsB dir).length ≤ 6 := (path_parts HV.out.2.2).1
                have hTG := TreeM.graft hA.tree hU5 hA.here hf hdis.out HLO.out.2 2000 (by omega) (by omega)
                have hrG : graft (partsB dir) β' β2 [] = some root := by
                  rw [graft_out _ _ (fun h => parts_ne dir (List.prefix_nil.1 h)), hA.root, hroot]
                have HTO : Keep (∀ us, Told (graft (partsB dir) φ φ2) [] [] [] us → MntRel ts dir bs us) := ⟨fun us h => told_mnt hS hS2 h⟩
                have hbn : g < bn := by omega
                have hgn : g ≠ bn := by omega
                have hbnw : bn < w5.heap.size := (Array.getElem?_eq_some_iff.1 hob).1
                have K6 : (w5.setCell ⟨bn, 3, none⟩ (.map (some (μ2 [])))).cell? ⟨g, 0, none⟩ = some (.slice none 0 0) := (World.cell?_of_block (Below.heap_setCell _ _ _ _ hgn)).trans K5
                have KF6 : (w5.setCell ⟨bn, 3, none⟩ (.map (some (μ2 [])))).frozen? ⟨g, 0, none⟩ = false := (World.frozen?_setCell _ _ _ _).trans KF5
                have hbw6 := hbw5.setCell (p := ⟨bn, 3, none⟩) (by show w.heap.size ≤ bn; omega) (.map (some (μ2 [])))
                have hz6 : g < (w5.setCell ⟨bn, 3, none⟩ (.map (some (μ2 [])))).heap.size := by simpa using hz5
                have htc := tree_any lo 2000 200 (by omega) (by omega) _ _ _ hG root _ hTG hrG
                clear hob hob2 hA hU5 hG hTG hfree hno hB5 hBT hT4 hU4 hT3 hU3 hf
                go_wp2_with fail
                refine htc.mono ?_
                clear htc
                rintro e w7 ⟨us, ht, hb7, hres⟩
                generalize w5.setCell ⟨bn, 3, none⟩ (.map (some (μ2 []))) = w6 at *
                have hset := HTO.out us ht
                have hb67 := hbw6.trans (hb7.mono hbw6.size)
                replace K6 := cell_later hb7 K6
                replace KF6 : w7.frozen? ⟨g, 0, none⟩ = false := (hb7.frozen (p := ⟨g, 0, none⟩) hz6).trans KF6
                clear hb7 ht
                unfold TreeR TreeV at hres
                rcases hres with ⟨h100, ad, cap6, rfl, _⟩ | ⟨h100, ad, cap6, rfl, hel⟩
                · go_wp2
                  refine bodyPost_ret (v := TreeV ad ([] : List En).length cap6 4) ?_ rfl ⟨[], 4, .inr (.inr (.inr ⟨HV.out, HA.out, HNO.out, us, hset, .inl ⟨h100, rfl, rfl⟩⟩)), ⟨ad, cap6, rfl, EL.nil _ _ _⟩, hb67.setCell (p := ⟨g, 0, none⟩) hgw _⟩
                  go_light
                  simp [results, Try.results17, go_sem, TreeV, K6]
                · have hel6 := (el_setM (u := .slice ad us.length cap6) hel hz6).mono hbw6.size
                  clear hel
                  go_wp2
                  refine bodyPost_ret (v := TreeV ad us.length cap6 0) ?_ rfl ⟨us, 0, .inr (.inr (.inr ⟨HV.out, HA.out, HNO.out, us, hset, .inr ⟨h100, rfl, rfl⟩⟩)), ⟨ad, cap6, rfl, hel6⟩, hb67.setCell (p := ⟨g, 0, none⟩) hgw _⟩
                  go_light
                  simp [results, Try.results17, go_sem, TreeV, K6]
            · have hB5 := hBT.below hT4 (by have := HLO.out; have := HZ12.out; have := HZ23.out; have := HZ34.out; omega)
              have K5 := (hB5.cell (p := ⟨g, 0, none⟩) hglo).trans K0
              have KF5 : w5.frozen? ⟨g, 0, none⟩ = false := (hB5.frozen (p := ⟨g, 0, none⟩) hglo).trans KF
              have hbw5 : Below w.heap.size w w5 := hbwr.trans (hB5.mono (by omega))
              have hway : InWayD ts dir := (inway_iff hS dir).2 ⟨q, hq, hf⟩
              clear hA hT4 hU4 hT3 hU3 hBT hB5
              go_wp2
              refine bodyPost_ret (v := TreeV none ([] : List En).length 0 3) ?_ rfl ⟨[], 3, .inr (.inr (.inl ⟨HV.out, HA.out, hway, rfl, rfl⟩)), ⟨none, 0, rfl, EL.nil _ _ _⟩, hbw5.setCell (p := ⟨g, 0, none⟩) hgw _⟩
              go_light
              simp [results, Try.results17, go_sem, TreeV, K5]
    · go_wp2
      refine bodyPost_ret (v := TreeV none ([] : List En).length 0 1) ?_ rfl ⟨[], 1, .inl ⟨fun h => hv2 h.2.1, rfl, rfl⟩, ⟨none, 0, rfl, EL.nil _ _ _⟩, hbw2.setCell (p := ⟨g, 0, none⟩) hgw _⟩
      go_light
      simp [results, Try.results17, go_sem, TreeV, k0]
  · go_wp2_with fail
    refine hgr2.mono ?_
    rintro e w2 ⟨hb2, hpost2⟩
    clear hgr2
    replace k0 := cell_later hb2 k0
    replace kf : w2.frozen? ⟨g, 0, none⟩ = false := (hb2.frozen (p := ⟨g, 0, none⟩) ks1).trans kf
    have hbw2 := hbw.trans (hb2.mono hbw.size)
    clear hb2
    rcases hpost2 with ⟨_, root2, rfl, _⟩ | ⟨_, rfl⟩
    · go_wp2
      refine bodyPost_ret (v := TreeV none ([] : List En).length 0 1) ?_ rfl ⟨[], 1, .inl ⟨fun h => hv h.1, rfl, rfl⟩, ⟨none, 0, rfl, EL.nil _ _ _⟩, hbw2.setCell (p := ⟨g, 0, none⟩) hgw _⟩
      go_light
      simp [results, Try.results17, go_sem, TreeV, k0]
    · go_wp2
      refine bodyPost_ret (v := TreeV none ([] : List En).length 0 1) ?_ rfl ⟨[], 1, .inl ⟨fun h => hv h.1, rfl, rfl⟩, ⟨none, 0, rfl, EL.nil _ _ _⟩, hbw2.setCell (p := ⟨g, 0, none⟩) hgw _⟩
      go_light
      simp [results, Try.results17, go_sem, TreeV, k0]
end Go.Proofs.Ytmeodgcnnjkilaa
