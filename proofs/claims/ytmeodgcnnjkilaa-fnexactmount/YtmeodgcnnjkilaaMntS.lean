/-
  spec.Mount.
-/
import Derived.Test.YtmeodgcnnjkilaaMntP
import Derived.Test.YtmeodgcnnjkilaaOverS
namespace Go.Proofs.Ytmeodgcnnjkilaa
open Go.RowKit

theorem notUnder_take {ts : List En} {dir : ByteArray} {k : Nat} (h : k < ts.length) : (ts.take (k + 1)).filter (fun e => !beginsB dir e.path) = (ts.take k).filter (fun e => !beginsB dir e.path) ++ if beginsB dir ts[k].path then [] else [ts[k]] := by
  rw [List.take_succ_eq_append_getElem h, List.filter_append]
  cases hb : beginsB dir ts[k].path <;> simp [hb]

set_option maxRecDepth 100000 in
set_option maxHeartbeats 8000000 in
theorem specMnt_any (a b : Option Addr) (ca cb : Nat) (ts bs : List En) (dir : ByteArray) (w : World) (hts : ES w a ts) (hbs : ES w b bs) (hn : ts.length ≤ 1048576) (hnb : bs.length ≤ 1048576) (hzb : ∀ e ∈ bs, e.path.size ≤ 1048576 ∧ e.text.size ≤ 1048576) (hdz : dir.size ≤ 1048576) :
    Calls Try.prog 16 #[.agg #[.slice a ts.length ca], .string dir, .agg #[.slice b bs.length cb]] w fun e w' => MntPost ts dir bs w e w' := by
  obtain ⟨i0, hi, hz0, hz1, hzi⟩ := info_parts Try.infoEntry
  have hal : Below w.heap.size w (((w.alloc (.cells #[.slice a ts.length ca] 31)).alloc (.cells #[.slice b bs.length cb] 31)).alloc (.cells #[.slice none 0 0] 31)) := (((Below.refl _ _).alloc (Nat.le_refl _) _).alloc (by simp) _).alloc (by simp; omega) _
  have m0 : (((w.alloc (.cells #[.slice a ts.length ca] 31)).alloc (.cells #[.slice b bs.length cb] 31)).alloc (.cells #[.slice none 0 0] 31)).cell? ⟨w.heap.size, 0, none⟩ = some (.slice a ts.length ca) := by simp [go_sem]
  have n0 : (((w.alloc (.cells #[.slice a ts.length ca] 31)).alloc (.cells #[.slice b bs.length cb] 31)).alloc (.cells #[.slice none 0 0] 31)).cell? ⟨w.heap.size + 1, 0, none⟩ = some (.slice b bs.length cb) := by simp [go_sem]
  have k0 : (((w.alloc (.cells #[.slice a ts.length ca] 31)).alloc (.cells #[.slice b bs.length cb] 31)).alloc (.cells #[.slice none 0 0] 31)).cell? ⟨w.heap.size + 1 + 1, 0, none⟩ = some (.slice none 0 0) := by simp [go_sem]
  have kf : (((w.alloc (.cells #[.slice a ts.length ca] 31)).alloc (.cells #[.slice b bs.length cb] 31)).alloc (.cells #[.slice none 0 0] 31)).frozen? ⟨w.heap.size + 1 + 1, 0, none⟩ = false := by simp [go_sem]
  have ks : w.heap.size + 1 + 1 < (((w.alloc (.cells #[.slice a ts.length ca] 31)).alloc (.cells #[.slice b bs.length cb] 31)).alloc (.cells #[.slice none 0 0] 31)).heap.size := by simp [go_sem]
  go_enter Try.func16, Try.ntmps16
  go_wp2_with fail
  refine (specTree_any a ca ts _ (hts.below hal) hn).mono ?_
  rintro e w1 ⟨vb, rfl, hvb, hb1⟩
  generalize ((w.alloc (.cells #[.slice a ts.length ca] 31)).alloc (.cells #[.slice b bs.length cb] 31)).alloc (.cells #[.slice none 0 0] 31) = w0 at *
  obtain ⟨g, hg⟩ : ∃ g, g = w.heap.size + 1 + 1 := ⟨_, rfl⟩
  obtain ⟨tb, htb⟩ : ∃ tb, tb = w.heap.size + 1 := ⟨_, rfl⟩
  obtain ⟨ta, hta⟩ : ∃ ta, ta = w.heap.size := ⟨_, rfl⟩
  rw [← hg] at k0 kf ks ⊢
  rw [← htb] at n0 ⊢
  rw [← hta] at m0 ⊢
  have hgw : w.heap.size ≤ g := by omega
  have hag : ta < g := by omega
  have hbg : tb < g := by omega
  clear hg hta htb
  replace k0 := cell_later hb1 k0
  replace kf : w1.frozen? ⟨g, 0, none⟩ = false := (hb1.frozen (p := ⟨g, 0, none⟩) ks).trans kf
  replace m0 := cell_later hb1 m0
  replace n0 := cell_later hb1 n0
  have ks1 : g < w1.heap.size := Nat.lt_of_lt_of_le ks hb1.size
  have hbw := hal.trans (hb1.mono hal.size)
  have HV : Keep (vb = true ↔ ValidTs ts) := ⟨hvb⟩
  clear hvb hb1 hal ks
  cases vb with
  | false =>
    have hnv : ¬ ValidTs ts := fun h => by have := HV.out.2 h; cases this
    go_wp2
    refine bodyPost_ret (v := TreeV none ([] : List En).length 0 1) ?_ rfl ⟨[], 1, .inl ⟨fun h => hnv h.1, rfl, rfl⟩, ⟨none, 0, rfl, EL.nil _ _ _⟩, hbw.setCell (p := ⟨g, 0, none⟩) hgw _⟩
    go_light
    simp [results, Try.results16, go_sem, TreeV, k0]
  | true =>
    have hvT := HV.out.1 rfl
    clear HV
    have hvt2 := specTree_any b cb bs w1 (hbs.below hbw) hnb
    go_wp2_with fail
    refine hvt2.mono ?_
    rintro e w2 ⟨vb2, rfl, hvb2, hb2⟩
    clear hvt2
    replace k0 := cell_later hb2 k0
    replace kf : w2.frozen? ⟨g, 0, none⟩ = false := (hb2.frozen (p := ⟨g, 0, none⟩) ks1).trans kf
    replace m0 := cell_later hb2 m0
    replace n0 := cell_later hb2 n0
    have ks2 : g < w2.heap.size := Nat.lt_of_lt_of_le ks1 hb2.size
    have hbw2 := hbw.trans (hb2.mono hbw.size)
    have HV2 : Keep (vb2 = true ↔ ValidTs bs) := ⟨hvb2⟩
    clear hvb2 hb2 hbw ks1
    cases vb2 with
    | false =>
      have hnv : ¬ ValidTs bs := fun h => by have := HV2.out.2 h; cases this
      go_wp2
      refine bodyPost_ret (v := TreeV none ([] : List En).length 0 1) ?_ rfl ⟨[], 1, .inl ⟨fun h => hnv h.2.1, rfl, rfl⟩, ⟨none, 0, rfl, EL.nil _ _ _⟩, hbw2.setCell (p := ⟨g, 0, none⟩) hgw _⟩
      go_light
      simp [results, Try.results16, go_sem, TreeV, k0]
    | true =>
      have hvB := HV2.out.1 rfl
      clear HV2
      have hvp := specPath_any dir w2
      go_wp2_with fail
      refine hvp.mono ?_
      rintro e w3 ⟨rfl, hb3⟩
      clear hvp
      replace k0 := cell_later hb3 k0
      replace kf : w3.frozen? ⟨g, 0, none⟩ = false := (hb3.frozen (p := ⟨g, 0, none⟩) ks2).trans kf
      replace m0 := cell_later hb3 m0
      replace n0 := cell_later hb3 n0
      have ks3 : g < w3.heap.size := Nat.lt_of_lt_of_le ks2 hb3.size
      have hbw3 := hbw2.trans (hb3.mono hbw2.size)
      clear hb3 hbw2 ks2
      cases hpk : pathOk pathB dir with
      | false =>
        go_wp2
        refine bodyPost_ret (v := TreeV none ([] : List En).length 0 1) ?_ rfl ⟨[], 1, .inl ⟨fun h => (by rw [hpk] at h; cases h.2.2), rfl, rfl⟩, ⟨none, 0, rfl, EL.nil _ _ _⟩, hbw3.setCell (p := ⟨g, 0, none⟩) hgw _⟩
        go_light
        simp [results, Try.results16, go_sem, TreeV, k0]
      | true =>
        have HVV : Keep (ValidTs ts ∧ ValidTs bs ∧ pathOk pathB dir = true) := ⟨⟨hvT, hvB, hpk⟩⟩
        have n1 : ts.length ≤ 100 := hvT.1
        have n2 : bs.length ≤ 100 := HVV.out.2.1.1
        clear hvT hvB hpk
        go_wp2
        go_loopw [8] (fun i wr => ∃ k : Nat, i = .int .i64 k ∧ k ≤ bs.length ∧ Keep (∀ e ∈ bs.take k, pathOk pathB (putE dir e).path = true) ∧ Below w3.heap.size w3 wr) (fun i _ => bs.length - (intOf i).toNat)
        case atStart => exact ⟨0, rfl, Nat.zero_le _, ⟨fun e he => by simp at he⟩, Below.refl _ _⟩
        case round =>
          obtain ⟨k, rfl, hk, HA, hB⟩ := hrel
          have K0 := cell_later hB k0
          have KF : wr.frozen? ⟨g, 0, none⟩ = false := (hB.frozen (p := ⟨g, 0, none⟩) ks3).trans kf
          have M0 := cell_later hB m0
          have N0 := cell_later hB n0
          have hzr : g < wr.heap.size := Nat.lt_of_lt_of_le ks3 hB.size
          have hbwr := hbw3.trans (hB.mono hbw3.size)
          by_cases hlt : k < bs.length
          · have hlt' : (k : Int) < bs.length := by omega
            obtain ⟨bb, off, rfl, hc⟩ := (hbs.below hbwr).at hlt
            obtain ⟨x0, _, _⟩ := hc k hlt
            have hep := (hzb bs[k] (List.getElem_mem hlt)).1
            have hvp := specPath_any (putE dir bs[k]).path wr
            clear hc
            cases hpe : pathOk pathB (putE dir bs[k]).path with
            | false =>
              rw [show (putE dir bs[k]).path = dir ++ ⟨#[47]⟩ ++ bs[k].path from rfl] at hvp hpe
              go_wp2_with fail
              refine hvp.mono ?_
              rintro e w5 ⟨rfl, hb5⟩
              replace K0 := cell_later hb5 K0
              replace KF : w5.frozen? ⟨g, 0, none⟩ = false := (hb5.frozen (p := ⟨g, 0, none⟩) hzr).trans KF
              have hbw5 := hbwr.trans (hb5.mono hbwr.size)
              clear hvp
              rw [hpe]
              go_wp2
              refine bodyPost_ret (v := TreeV none ([] : List En).length 0 2) ?_ rfl ⟨[], 2, .inr (.inl ⟨HVV.out, ⟨bs[k], List.getElem_mem hlt, hpe⟩, rfl, rfl⟩), ⟨none, 0, rfl, EL.nil _ _ _⟩, hbw5.setCell (p := ⟨g, 0, none⟩) hgw _⟩
              go_light
              simp [results, Try.results16, go_sem, TreeV, K0]
            | true =>
              have HA2 : Keep (∀ e ∈ bs.take (k + 1), pathOk pathB (putE dir e).path = true) := ⟨fun e he => by
                rcases (mem_take_succ hlt e).1 he with h | rfl
                · exact HA.out e h
                · exact hpe⟩
              rw [show (putE dir bs[k]).path = dir ++ ⟨#[47]⟩ ++ bs[k].path from rfl] at hvp hpe
              go_wp2_with fail
              refine hvp.mono ?_
              rintro e w5 ⟨rfl, hb5⟩
              have hB5 := hB.trans (hb5.mono hB.size)
              clear hvp
              rw [hpe]
              clear hpe
              go_wp2
              go_roundw
              case rel => exact ⟨k + 1, by congr 1, hlt, HA2, hB5⟩
              case measure => simp only [intOf]; omega
          · obtain rfl : k = bs.length := by omega
            rw [List.take_length] at HA
            have hba := (Below.refl wr.heap.size wr).alloc (Nat.le_refl _) (.cells #[.slice none 0 0] 31)
            have o0 : (wr.alloc (.cells #[.slice none 0 0] 31)).cell? ⟨wr.heap.size, 0, none⟩ = some (.slice none 0 0) := by simp
            have of0 : (wr.alloc (.cells #[.slice none 0 0] 31)).frozen? ⟨wr.heap.size, 0, none⟩ = false := by simp
            have hst0 := OutSt.start o0 of0 (by simp)
            have N0r := N0
            replace K0 := cell_later hba K0
            replace KF : (wr.alloc (.cells #[.slice none 0 0] 31)).frozen? ⟨g, 0, none⟩ = false := (hba.frozen (p := ⟨g, 0, none⟩) hzr).trans KF
            replace M0 := cell_later hba M0
            replace N0 := cell_later hba N0
            have hbwA := hbwr.trans (hba.mono hbwr.size)
            have hobw : w.heap.size ≤ wr.heap.size := hbwr.size
            have hAz : wr.heap.size < (wr.alloc (.cells #[.slice none 0 0] 31)).heap.size := by simp
            clear hba hB hbwr k0 kf m0 n0 o0 of0 ks3 hbw3
            go_wp2
            clear N0r
            generalize wr.alloc (.cells #[.slice none 0 0] 31) = W0 at *
            generalize wr.heap.size = ob at *
            go_loopw [10] (fun i wr => ∃ (k : Nat) (v : Value) (us : List En), i = .int .i64 k ∧ k ≤ ts.length ∧ Keep (us = (ts.take k).filter (fun e => !beginsB dir e.path)) ∧ us.length ≤ k ∧ Keep (∀ x ∈ ts.take k, ¬ (x.path = dir ∨ Begins x.path dir)) ∧ OutSt ob W0 v us wr) (fun i _ => ts.length - (intOf i).toNat)
            case atStart => exact ⟨0, _, [], rfl, Nat.zero_le _, ⟨by simp⟩, Nat.zero_le _, ⟨fun x hx => by simp at hx⟩, hst0⟩
            case round =>
              clear hst0
              obtain ⟨k, v, us, rfl, hk, HU, hul, HW, hst⟩ := hrel
              have K1 := hst.keep K0 (by omega) (by omega)
              have KF1 : wr.frozen? ⟨g, 0, none⟩ = false := frozen_blk (hst.grown.block g (by omega) (fun e => by cases e; omega)) KF
              have M1 := hst.keep M0 (by omega) (by omega)
              have hbr := hst.below hbwA hobw
              have hEr := hts.below hbr
              have hWr := hst.grown.size
              have hzr1 : g < wr.heap.size := by omega
              by_cases hlt : k < ts.length
              · have hlt' : (k : Int) < ts.length := by omega
                obtain ⟨b1, off1, rfl, hc⟩ := hEr.at hlt
                obtain ⟨x0, x1, x2⟩ := hc k hlt
                clear hc hEr
                obtain ⟨xp, hxp⟩ : ∃ xp, xp = ts[k].path := ⟨_, rfl⟩
                rw [← hxp] at x0
                have HXP : Keep (xp = ts[k].path) := ⟨hxp⟩
                clear hxp
                cases hq : (xp.toList == dir.toList) with
                | true =>
                  have hway : InWayD ts dir := ⟨ts[k], List.getElem_mem hlt, .inl (by
                    rw [← HXP.out]
                    rw [beq_iff_eq, Lib.toList_data, Lib.toList_data] at hq
                    exact WideShapes.bytes_inj hq)⟩
                  go_wp2
                  refine bodyPost_ret (v := TreeV none ([] : List En).length 0 3) ?_ rfl ⟨[], 3, .inr (.inr (.inl ⟨HVV.out, HA.out, hway, rfl, rfl⟩)), ⟨none, 0, rfl, EL.nil _ _ _⟩, hbr.setCell (p := ⟨g, 0, none⟩) hgw _⟩
                  go_light
                  simp [results, Try.results16, go_sem, TreeV, K1]
                | false =>
                  have hne : xp ≠ dir := fun e => by rw [e] at hq; simp at hq
                  cases h1 : beginsB xp dir with
                  | true =>
                    have hway : InWayD ts dir := ⟨ts[k], List.getElem_mem hlt, .inr (by rw [← HXP.out]; exact beginsB_iff.1 h1)⟩
                    have hc1 := begins_lit (d := xp) (p := dir) true (by rw [← beginsB_iff, h1]) wr
                    clear hne
                    go_wp2_with fail
                    refine hc1.mono ?_
                    rintro e w5 ⟨rfl, hb5⟩
                    replace K1 := cell_later hb5 K1
                    replace KF1 : w5.frozen? ⟨g, 0, none⟩ = false := (hb5.frozen (p := ⟨g, 0, none⟩) hzr1).trans KF1
                    have hbw5 := hbr.trans (hb5.mono hbr.size)
                    clear hc1
                    go_wp2
                    refine bodyPost_ret (v := TreeV none ([] : List En).length 0 3) ?_ rfl ⟨[], 3, .inr (.inr (.inl ⟨HVV.out, HA.out, hway, rfl, rfl⟩)), ⟨none, 0, rfl, EL.nil _ _ _⟩, hbw5.setCell (p := ⟨g, 0, none⟩) hgw _⟩
                    go_light
                    simp [results, Try.results16, go_sem, TreeV, K1]
                  | false =>
                    have HW2 : Keep (∀ x ∈ ts.take (k + 1), ¬ (x.path = dir ∨ Begins x.path dir)) := ⟨fun x hx => by
                      rcases (mem_take_succ hlt x).1 hx with h | rfl
                      · exact HW.out x h
                      · rintro (h | h)
                        · exact hne (by rw [HXP.out]; exact h)
                        · rw [← HXP.out] at h
                          rw [beginsB_iff.2 h] at h1
                          cases h1⟩
                    have hc1 := begins_lit (d := xp) (p := dir) false (by rw [← beginsB_iff, h1]) wr
                    clear hne
                    go_wp2_with fail
                    refine hc1.mono ?_
                    rintro e w5 ⟨rfl, hb5⟩
                    clear hc1
                    cases h2 : beginsB dir xp with
                    | true =>
                      have HU2 : Keep (us = (ts.take (k + 1)).filter (fun e => !beginsB dir e.path)) := ⟨by rw [notUnder_take hlt, ← HXP.out, h2, HU.out]; simp⟩
                      have hc2 := begins_lit (d := dir) (p := xp) true (by rw [← beginsB_iff, h2]) w5
                      go_wp2_with fail
                      refine hc2.mono ?_
                      rintro e w6 ⟨rfl, hb6⟩
                      have hst6 := (hst.later hb5).later hb6
                      clear hc2 hst
                      go_wp2
                      go_roundw
                      case rel => exact ⟨k + 1, v, us, by congr 1, hlt, HU2, by omega, HW2, hst6⟩
                      case measure => simp only [intOf]; omega
                    | false =>
                      have HU2 : Keep (us ++ [ts[k]] = (ts.take (k + 1)).filter (fun e => !beginsB dir e.path)) := ⟨by rw [notUnder_take hlt, ← HXP.out, h2, HU.out]; simp⟩
                      have hc2 := begins_lit (d := dir) (p := xp) false (by rw [← beginsB_iff, h2]) w5
                      go_wp2_with fail
                      refine hc2.mono ?_
                      rintro e w6 ⟨rfl, hb6⟩
                      replace hst := (hst.later hb5).later hb6
                      have hb56 := hb5.trans (hb6.mono hb5.size)
                      have X0 := cell_later hb56 x0
                      rw [HXP.out] at X0
                      have X1 := cell_later hb56 x1
                      have X2 := cell_later hb56 x2
                      have MM := cell_later hb56 M1
                      have o1 := hst.cell
                      clear hc2 hb5 hb6 hb56 x0 x1 x2 M1 K1 KF1 hbr
                      have hb1 : Below w6.heap.size w6 ((w6.alloc (.cells #[.string ts[k].path, .string ts[k].text, .bool ts[k].runs] 35)).drew) := ((Below.refl _ _).alloc (Nat.le_refl _) _).drew
                      have o1a : ∀ o, (w6.alloc o).cell? ⟨ob, 0, none⟩ = some v := fun o => cell_later ((Below.refl _ _).alloc (Nat.le_refl _) _) o1
                      go_wp2_with fail
                      go_region_law (refine step_append_lies _ rfl _ _ 29 rfl W0.heap.size 35 i0 _ 3 40 Try.underlying29 hi hz0 hz1 hzi rfl (by decide) v us.length (ecells us) rfl (by exact owns_below hst.row hb1) ⟨w6.heap.size, 0, none⟩ 1 1 (ecell ts[k]) rfl rfl (by exact news_3 _ _ _ _ (by simp)) (by exact one_3 _) (by omega) (by unfold maxLen; omega) (by omega) (by have := hst.grown.size; simp; omega) (w6.heap.size + 1) (by simp) ?_; intro g3 cap3 w7 hown3 hgrow3 hat3 hlt3; obtain ⟨hc3, hf3⟩ := hst.mid hb1 hgrow3)
                      all_goals
                        have hst3 := hst.append hb1 hgrow3 hown3
                        have HU3 : Keep (us ++ [ts[k]] = (ts.take (k + 1)).filter (fun e => !beginsB dir e.path)) := ⟨HU2.out⟩
                        have hl3 : (us ++ [ts[k]]).length ≤ k + 1 := by simp; omega
                        clear hst hb1 hgrow3 hown3 hat3 hlt3 hc3 hf3 o1 o1a MM X0 X1 X2
                        go_wp2
                        go_roundw
                        case rel => exact ⟨k + 1, _, _, by congr 1, hlt, HU3, hl3, HW2, hst3⟩
                        case measure => simp only [intOf]; omega
              · obtain rfl : k = ts.length := by omega
                rw [List.take_length] at HU HW
                have HNO : Keep (¬ InWayD ts dir) := ⟨fun ⟨x, hx, h⟩ => HW.out x hx h⟩
                obtain ⟨ad0, cap0, rfl⟩ := owns_slice hst.row
                have hel0 := el_of_row hst.row
                have hstV : OvSt (g + 1) ob W0 ad0 cap0 us wr := ⟨hst.cell, hst.fz, hel0.mono (by omega), by
                  rcases hel0 with h | ⟨gg, rfl, hg2, _⟩
                  · exact .inl h
                  · exact .inr (fun e => by simp [blk] at e; omega), hst.grown, hst.lt⟩
                have HR0 : Keep (MntRel ts dir (bs.take 0) us) := ⟨by rw [List.take_zero, HU.out]; exact MntRel.start (valid_asc HVV.out.1)⟩
                clear hst hel0 HU HW hEr K1 KF1 hbr
                go_wp2
                clear M1
                go_loopw [12] (fun i wr => ∃ (k : Nat) (ad : Option Addr) (cap : Nat) (us : List En), i = .int .i64 k ∧ k ≤ bs.length ∧ Keep (MntRel ts dir (bs.take k) us) ∧ us.length ≤ ts.length + k ∧ OvSt (g + 1) ob W0 ad cap us wr) (fun i _ => bs.length - (intOf i).toNat)
                case atStart => exact ⟨0, ad0, cap0, us, rfl, Nat.zero_le _, HR0, by omega, hstV⟩
                case round =>
                  clear hstV HR0
                  obtain ⟨k, ad, cap, us, rfl, hk, HR, hul, hst⟩ := hrel
                  have K1 := hst.keep K0 (by omega) (by omega)
                  have KF1 := hst.keepF KF (by omega) (by omega)
                  have N1 := hst.keep N0 (by omega) (by omega)
                  have o1 := hst.cell
                  have hbr := hst.below hbwA hobw
                  have hEb := hbs.below hbr
                  have hWr := hst.grown.size
                  by_cases hlt : k < bs.length
                  · have hlt' : (k : Int) < bs.length := by omega
                    obtain ⟨b1, off1, rfl, hc⟩ := hEb.at hlt
                    obtain ⟨x0, x1, x2⟩ := hc k hlt
                    have hep := (hzb bs[k] (List.getElem_mem hlt)).1
                    clear hc hEb
                    have hal4 : Below wr.heap.size wr (wr.alloc (.cells #[.string (dir ++ ⟨#[47]⟩ ++ bs[k].path), .string bs[k].text, .bool bs[k].runs] 35)) := (Below.refl _ _).alloc (Nat.le_refl _) _
                    have hst4 := hst.later hal4
                    have hset := l5Set_any ad cap us (putE dir bs[k]) _ hst4.lst.es (by omega) HR.out.asc
                    have hobr : ob < (wr.alloc (.cells #[.string (dir ++ ⟨#[47]⟩ ++ bs[k].path), .string bs[k].text, .bool bs[k].runs] 35)).heap.size := Nat.lt_of_lt_of_le hst4.lt hst4.grown.size
                    have o2 := hst4.cell
                    have f2 := hst4.fz
                    rw [show (putE dir bs[k]).path = dir ++ ⟨#[47]⟩ ++ bs[k].path from rfl, show (putE dir bs[k]).text = bs[k].text from rfl, show (putE dir bs[k]).runs = bs[k].runs from rfl] at hset
                    clear K1 KF1
                    go_wp2_with fail
                    refine hset.mono ?_
                    rintro e w5 ⟨ad5, cap5, us5, rfl, hrel5, hel5, hb5, hlen5⟩
                    have o5 := cell_later hb5 o2
                    have f5 : w5.frozen? ⟨ob, 0, none⟩ = false := (hb5.frozen (p := ⟨ob, 0, none⟩) hobr).trans f2
                    have hst5 := (hst4.later hb5).put (cap' := cap5) hel5 hobr (by omega)
                    have HR5 : Keep (MntRel ts dir (bs.take (k + 1)) us5) := ⟨HR.out.set (valid_asc HVV.out.2.1) hlt hrel5⟩
                    clear hset hst hst4 o2 f2 o1 hb5 hel5 hrel5 x0 x1 x2 N1
                    go_wp2
                    go_roundw
                    case rel => exact ⟨k + 1, ad5, cap5, us5, by congr 1, hlt, HR5, by omega, hst5⟩
                    case measure => simp only [intOf]; omega
                  · obtain rfl : k = bs.length := by omega
                    rw [List.take_length] at HR
                    have hzr2 : g < wr.heap.size := by omega
                    by_cases h100 : (100 : Int) < us.length
                    · go_wp2
                      refine bodyPost_ret (v := TreeV none ([] : List En).length 0 4) ?_ rfl ⟨[], 4, .inr (.inr (.inr ⟨HVV.out, HA.out, HNO.out, us, HR.out, .inl ⟨by omega, rfl, rfl⟩⟩)), ⟨none, 0, rfl, EL.nil _ _ _⟩, hbr.setCell (p := ⟨g, 0, none⟩) hgw _⟩
                      go_light
                      simp [results, Try.results16, go_sem, TreeV, K1]
                    · have hel6 : EL w.heap.size (wr.setCell ⟨g, 0, none⟩ (.slice ad us.length cap)) ad us := (hst.lst.grown (row := some g) (grown_set0 wr g 0 (.slice ad us.length cap)) (fun j _ hj _ e => by cases e; omega)).mono (by omega)
                      go_wp2
                      refine bodyPost_ret (v := TreeV ad us.length cap 0) ?_ rfl ⟨us, 0, .inr (.inr (.inr ⟨HVV.out, HA.out, HNO.out, us, HR.out, .inr ⟨by omega, rfl, rfl⟩⟩)), ⟨ad, cap, rfl, hel6⟩, hbr.setCell (p := ⟨g, 0, none⟩) hgw _⟩
                      go_light
                      simp [results, Try.results16, go_sem, TreeV, K1]
end Go.Proofs.Ytmeodgcnnjkilaa
