/-
  spec.Show.
-/
import Derived.Test.YtlgdfeacnalekaaDoorShowT
import Derived.Test.YtlgdfeacnalekaaDoorHexS
import Derived.Test.YtlgdfeacnalekaaDoorSpecPath
import Derived.Test.YtlgdfeacnalekaaDoorSpecParts
namespace Go.Proofs.YtlgdfeacnalekaaDoor
open Go.RowKit

set_option maxRecDepth 20000 in
set_option maxHeartbeats 40000000 in
theorem specShow_any (sum path : ByteArray) (a : Option Addr) (cap : Nat) (ts : List ByteArray) (there : Bool) (text : ByteArray) (width : Int) (w : World) (hss : SS w a ts) (hn : ts.length ≤ 1048576) (hm : ∀ s ∈ ts, s.size ≤ 1048576) (htx : text.size ≤ 1048576) :
    Calls Tryd.prog 5 #[.string sum, .string path, .agg #[.slice a ts.length cap, .bool there, .string text], .int .i64 width] w fun e w' => ShowPost sum path ts there text width w e w' := by
  have hSH : SH w w.heap.size (w.heap.size + 1) a ts.length cap there text ((w.alloc (.cells #[.slice a ts.length cap, .bool there, .string text] 31)).alloc (.cells #[.int .i64 0, .bool false, .string ⟨#[]⟩, .string ⟨#[]⟩, .bool false] 29)) :=
    ⟨by simp [go_sem], by simp [go_sem], by simp [go_sem], by simp [go_sem], by simp [go_sem], by simp [go_sem], by simp [go_sem], by simp [go_sem], fun j => by simp [go_sem], ((Below.refl _ _).alloc (Nat.le_refl _) _).alloc (by simp) _, by omega⟩
  have HBAD : Keep (∀ (c : Nat), (c = 1 → ∀ wd X, ¬ GoodS path ts there text width wd X) → (c = 2 → ∃ wd X, GoodS path ts there text width wd X ∧ shA sum path there text wd X = ⟨2, false, false⟩) → (c = 1 ∨ c = 2) → ∀ W', Below w.heap.size w W' → ShowPost sum path ts there text width w (.returned (.agg #[.int .i64 c, .bool false, .string ⟨#[]⟩, .string ⟨#[]⟩, .bool false])) W') := ⟨fun c h1 h2 h3 W' hb => by
    rcases h3 with rfl | rfl
    · exact ⟨⟨1, false, false⟩, .inl ⟨h1 rfl, rfl⟩, rfl, hb⟩
    · obtain ⟨wd, X, g, e⟩ := h2 rfl
      exact ⟨⟨2, false, false⟩, .inr ⟨wd, X, g, e.symm⟩, rfl, hb⟩⟩
  go_enter Tryd.func5, Tryd.ntmps5
  go_upto_region 1 with fail
  generalize (w.alloc (.cells #[.slice a ts.length cap, .bool there, .string text] 31)).alloc (.cells #[.int .i64 0, .bool false, .string ⟨#[]⟩, .string ⟨#[]⟩, .bool false] 29) = W2 at *
  obtain ⟨rs, hrs⟩ : ∃ x, x = w.heap.size + 1 := ⟨_, rfl⟩
  obtain ⟨pb, hpb⟩ : ∃ x, x = w.heap.size := ⟨_, rfl⟩
  rw [← hrs, ← hpb] at hSH
  rw [← hrs, ← hpb]
  clear hrs hpb
  go_wp2_with fail
  refine (specPath_any path W2).mono ?_
  rintro e w1 ⟨rfl, hb1⟩
  replace hSH := hSH.later hb1
  clear hb1 W2
  cases hvp : pathOk pathB path with
  | false =>
    have r0 := hSH.r0; have r1 := hSH.r1; have r2 := hSH.r2; have r3 := hSH.r3; have r4 := hSH.r4; have rf := hSH.rf; have p0 := hSH.p0; have p1 := hSH.p1; have p2 := hSH.p2
    obtain ⟨k0, k1, k2, k3, k4, kb⟩ := hSH.set (.int .i64 1) (.bool false) (.string ⟨#[]⟩) (.string ⟨#[]⟩) (.bool false)
    have HP : Keep (ShowPost sum path ts there text width w (.returned (.agg #[.int .i64 1, .bool false, .string ⟨#[]⟩, .string ⟨#[]⟩, .bool false])) (set5 _ rs (.int .i64 1) (.bool false) (.string ⟨#[]⟩) (.string ⟨#[]⟩) (.bool false))) := ⟨HBAD.out 1 (fun _ wd X g => by have := g.path; rw [hvp] at this; cases this) (fun h => by cases h) (.inl rfl) _ kb⟩
    unfold set5 at k0 k1 k2 k3 k4 HP
    clear kb hSH
    go_wp2
    refine bodyPost_ret (v := .agg #[.int .i64 1, .bool false, .string ⟨#[]⟩, .string ⟨#[]⟩, .bool false]) ?_ rfl HP.out
    go_light
    simp [results, Tryd.results5, go_sem, k0, k1, k2, k3, k4]
  | true =>
    go_wp2_with fail
    refine (in_any width 1 8 w1).mono ?_
    rintro e w' ⟨rfl, rfl⟩
    cases hwi : (decide (1 ≤ width) && decide (width ≤ 8)) with
    | false =>
      have r0 := hSH.r0; have r1 := hSH.r1; have r2 := hSH.r2; have r3 := hSH.r3; have r4 := hSH.r4; have rf := hSH.rf; have p0 := hSH.p0; have p1 := hSH.p1; have p2 := hSH.p2
      obtain ⟨k0, k1, k2, k3, k4, kb⟩ := hSH.set (.int .i64 1) (.bool false) (.string ⟨#[]⟩) (.string ⟨#[]⟩) (.bool false)
      have HP : Keep (ShowPost sum path ts there text width w (.returned (.agg #[.int .i64 1, .bool false, .string ⟨#[]⟩, .string ⟨#[]⟩, .bool false])) (set5 _ rs (.int .i64 1) (.bool false) (.string ⟨#[]⟩) (.string ⟨#[]⟩) (.bool false))) := ⟨HBAD.out 1 (fun _ wd X g => by have h1 := g.width; have h2 := g.lo; have h3 := g.hi; rw [Bool.and_eq_false_iff] at hwi; simp only [decide_eq_false_iff_not] at hwi; omega) (fun h => by cases h) (.inl rfl) _ kb⟩
      unfold set5 at k0 k1 k2 k3 k4 HP
      clear kb hSH
      go_wp2
      refine bodyPost_ret (v := .agg #[.int .i64 1, .bool false, .string ⟨#[]⟩, .string ⟨#[]⟩, .bool false]) ?_ rfl HP.out
      go_light
      simp [results, Tryd.results5, go_sem, k0, k1, k2, k3, k4]
    | true =>
      obtain ⟨wd, hwd, hw1, hw8⟩ : ∃ wd : Nat, width = wd ∧ 1 ≤ wd ∧ wd ≤ 8 := ⟨width.toNat, by simp at hwi; omega, by simp at hwi; omega, by simp at hwi; omega⟩
      have HW : Keep (width = (wd : Int)) := ⟨hwd⟩
      clear hwi hwd
      have p0 := hSH.p0; have p1 := hSH.p1; have p2 := hSH.p2
      go_wp2_with fail
      refine (in_any (ts.length : Int) 1 7 _).mono ?_
      rintro e w' ⟨rfl, rfl⟩
      clear p0 p1 p2
      cases hln : (decide (1 ≤ (ts.length : Int)) && decide ((ts.length : Int) ≤ 7)) with
      | false =>
        have r0 := hSH.r0; have r1 := hSH.r1; have r2 := hSH.r2; have r3 := hSH.r3; have r4 := hSH.r4; have rf := hSH.rf; have p0 := hSH.p0; have p1 := hSH.p1; have p2 := hSH.p2
        obtain ⟨k0, k1, k2, k3, k4, kb⟩ := hSH.set (.int .i64 1) (.bool false) (.string ⟨#[]⟩) (.string ⟨#[]⟩) (.bool false)
        have HP : Keep (ShowPost sum path ts there text width w (.returned (.agg #[.int .i64 1, .bool false, .string ⟨#[]⟩, .string ⟨#[]⟩, .bool false])) (set5 _ rs (.int .i64 1) (.bool false) (.string ⟨#[]⟩) (.string ⟨#[]⟩) (.bool false))) := ⟨HBAD.out 1 (fun _ wd X g => by have h1 := g.few; have h2 := List.length_pos_iff.2 g.some; rw [Bool.and_eq_false_iff] at hln; simp only [decide_eq_false_iff_not] at hln; omega) (fun h => by cases h) (.inl rfl) _ kb⟩
        unfold set5 at k0 k1 k2 k3 k4 HP
        clear kb hSH
        go_wp2
        refine bodyPost_ret (v := .agg #[.int .i64 1, .bool false, .string ⟨#[]⟩, .string ⟨#[]⟩, .bool false]) ?_ rfl HP.out
        go_light
        simp [results, Tryd.results5, go_sem, k0, k1, k2, k3, k4]
      | true =>
        have HLN : Keep (1 ≤ ts.length ∧ ts.length ≤ 7) := ⟨by simp only [Bool.and_eq_true, decide_eq_true_eq] at hln; omega⟩
        clear hln
        by_cases htz : (1500 : Int) < text.size
        · 
          have r0 := hSH.r0; have r1 := hSH.r1; have r2 := hSH.r2; have r3 := hSH.r3; have r4 := hSH.r4; have rf := hSH.rf; have p0 := hSH.p0; have p1 := hSH.p1; have p2 := hSH.p2
          obtain ⟨k0, k1, k2, k3, k4, kb⟩ := hSH.set (.int .i64 1) (.bool false) (.string ⟨#[]⟩) (.string ⟨#[]⟩) (.bool false)
          have HP : Keep (ShowPost sum path ts there text width w (.returned (.agg #[.int .i64 1, .bool false, .string ⟨#[]⟩, .string ⟨#[]⟩, .bool false])) (set5 _ rs (.int .i64 1) (.bool false) (.string ⟨#[]⟩) (.string ⟨#[]⟩) (.bool false))) := ⟨HBAD.out 1 (fun _ wd X g => by have := g.file; unfold flS at this; rw [decide_eq_false (by omega)] at this; cases this) (fun h => by cases h) (.inl rfl) _ kb⟩
          unfold set5 at k0 k1 k2 k3 k4 HP
          clear kb hSH
          go_wp2
          refine bodyPost_ret (v := .agg #[.int .i64 1, .bool false, .string ⟨#[]⟩, .string ⟨#[]⟩, .bool false]) ?_ rfl HP.out
          go_light
          simp [results, Tryd.results5, go_sem, k0, k1, k2, k3, k4]
        · have HTZ : Keep (text.size ≤ 1500) := ⟨by omega⟩
          by_cases hfl : flS there text = true
          · have HFL : Keep (flS there text = true) := ⟨hfl⟩
            have htt : there = true ∨ (there = false ∧ text.toList = []) := by
              cases there with
              | true => exact .inl rfl
              | false => exact .inr ⟨rfl, by simpa [flS] using (Bool.and_eq_true_iff.1 hfl).2⟩
            clear hfl
            have p0 := hSH.p0; have p1 := hSH.p1; have p2 := hSH.p2
            rcases htt with hth | ⟨hth, hem⟩
            · have HT : Keep (there = true) := ⟨hth⟩
              rw [hth] at p1
              clear hth
              go_wp2
              have hal1 := belowS_one w1 (.cells #[] 40)
              have hown0 : (w1.alloc (.cells #[] 40)).ownsRow w1.heap.size 40 1 (.slice (some ⟨w1.heap.size, 0, none⟩) 0 0) 0 [] := ⟨by simp, .inr ⟨w1.heap.size, 0, #[], rfl, Nat.le_refl _, heap_alloc_new w1 _, Nat.le_refl _, by unfold maxLen; omega, rfl, by simp⟩⟩
              obtain ⟨i0, hi, hz0, hz1, hz2⟩ := info_parts Tryd.infoLL
              go_loopw [9, 10] (fun v i wr => ∃ (k : Nat) (xs : List SD) (vs : List Value), k ≤ ts.length ∧ i = .int .i64 k ∧ Keep (xs.length = k) ∧ Keep (vs.length = k) ∧ Keep (VsOk xs vs) ∧ Keep (∀ (i : Nat) t, i < k → ts[i]? = some t → ∃ x, xs[i]? = some x ∧ DirOf wd t x) ∧ Keep (∀ x ∈ xs, LineAt x wr) ∧ wr.ownsRow w1.heap.size 40 1 v k vs ∧ Below w1.heap.size w1 wr) (fun _ i _ => ts.length - (intOf i).toNat)
              case atStart => exact ⟨0, [], [], Nat.zero_le _, rfl, ⟨rfl⟩, ⟨rfl⟩, ⟨fun i x h => by simp at h⟩, ⟨fun i t h => absurd h (Nat.not_lt_zero _)⟩, ⟨fun x hx => absurd hx (by simp)⟩, hown0, hal1⟩
              case round =>
                obtain ⟨k, xs, vs, hk, rfl, HXL, HVL, HVS, HD, HM, hrow, hb⟩ := hrel
                have P0 := cell_later hb p0; have P1 := cell_later hb p1; have P2 := cell_later hb p2
                clear p0 p1 p2 hal1 hown0
                by_cases hlt : k < ts.length
                · obtain ⟨b', off, rfl, hc⟩ := hss.at hlt
                  have hck : wr.cell? ⟨b', off + k, none⟩ = some (.string ts[k]) := cell_later (hSH.bw.trans (hb.mono hSH.bw.size)) (hc k hlt)
                  have hsz := hm ts[k] (List.getElem_mem hlt)
                  have hcall : Calls Tryd.prog 13 #[.string ts[k], .int .i64 width] wr fun e w' => ReadPost ts[k] wd wr e w' := by rw [HW.out]; exact l9Read_any ts[k] wd wr hsz hw1 hw8
                  clear hc
                  go_wp2_with fail
                  refine hcall.mono ?_
                  rintro e w2 ⟨hb2, hpost⟩
                  replace hck := cell_later hb2 hck
                  replace P0 := cell_later hb2 P0
                  have hrow2 := row_laterD hb2 hrow
                  have HM2 : Keep (∀ x ∈ xs, LineAt x w2) := ⟨fun x hx => (HM.out x hx).later hb2⟩
                  clear HM P1 P2 hcall
                  have hbb := hb.trans (hb2.mono hb.size)
                  have hSHx := hSH.later hbb
                  rcases hpost with ⟨ds, ad, cp, d1, rfl, d3, d4⟩ | ⟨hno, ad, n, cp, rfl⟩
                  · obtain ⟨mb, rfl⟩ : ∃ mb, ad = some ⟨mb, 0, none⟩ := by
                      rcases d3.2 with ⟨h, _⟩ | ⟨g, _, _, h, _⟩
                      · injection h with h; exact absurd h d4
                      · injection h with h; exact ⟨g, h⟩
                    clear d4
                    by_cases h8 : (8000 : Int) < ts[k].size
                    · have HNO : Keep (∀ x, ¬ DirOf wd ts[k] x) := ⟨fun x hx => by have := hx.1; omega⟩
                      clear d3 d1
                      have r0 := hSHx.r0; have r1 := hSHx.r1; have r2 := hSHx.r2; have r3 := hSHx.r3; have r4 := hSHx.r4; have rf := hSHx.rf
                      obtain ⟨k0, k1, k2, k3, k4, kb⟩ := hSHx.set (.int .i64 1) (.bool false) (.string ⟨#[]⟩) (.string ⟨#[]⟩) (.bool false)
                      have HP : Keep (ShowPost sum path ts there text width w (.returned (.agg #[.int .i64 1, .bool false, .string ⟨#[]⟩, .string ⟨#[]⟩, .bool false])) (set5 w2 rs (.int .i64 1) (.bool false) (.string ⟨#[]⟩) (.string ⟨#[]⟩) (.bool false))) := ⟨HBAD.out 1 (fun _ wd' X g => by have e : wd = wd' := (by have h1 := g.width; have h2 := HW.out; omega); subst e; exact dirs_not (List.getElem_mem hlt) HNO.out X g.dirs) (fun h => by cases h) (.inl rfl) _ kb⟩
                      unfold set5 at k0 k1 k2 k3 k4 HP
                      clear kb hSHx
                      go_wp2
                      refine bodyPost_ret (v := .agg #[.int .i64 1, .bool false, .string ⟨#[]⟩, .string ⟨#[]⟩, .bool false]) ?_ rfl HP.out
                      go_light
                      simp [results, Tryd.results5, go_sem, k0, k1, k2, k3, k4]
                    · have HDO : Keep (DirOf wd ts[k] ⟨ds, sumStr ts[k].data.toList wd, mb⟩) := ⟨by omega, d1, rfl⟩
                      have HD2 : Keep (∀ (i : Nat) t, i < k + 1 → ts[i]? = some t → ∃ x, (xs ++ [⟨ds, sumStr ts[k].data.toList wd, mb⟩])[i]? = some x ∧ DirOf wd t x) := ⟨DirOfs.push HD.out hlt HXL.out HDO.out⟩
                      have HM3 : Keep (∀ x ∈ xs ++ [⟨ds, sumStr ts[k].data.toList wd, mb⟩], LineAt x w2) := ⟨fun x hx => by
                        rcases List.mem_append.1 hx with hx | hx
                        · exact HM2.out x hx
                        · simp only [List.mem_singleton] at hx
                          subst hx
                          exact ⟨_, _, d3⟩⟩
                      have HV2 : Keep (VsOk (xs ++ [⟨ds, sumStr ts[k].data.toList wd, mb⟩]) (vs ++ [.slice (some ⟨mb, 0, none⟩) ds.length cp])) := ⟨HVS.out.push (by rw [HXL.out, HVL.out]) ⟨ds, sumStr ts[k].data.toList wd, mb⟩ cp⟩
                      have HX2 : Keep ((xs ++ [(⟨ds, sumStr ts[k].data.toList wd, mb⟩ : SD)]).length = k + 1 ∧ (vs ++ [Value.slice (some ⟨mb, 0, none⟩) ds.length cp]).length = k + 1) := ⟨by simp [HXL.out], by simp [HVL.out]⟩
                      have hws := hbb.size
                      clear HDO HD HM2 HVS HXL d1 d3 hSHx hb2 hb hrow
                      generalize sumStr ts[k].data.toList wd = S at *
                      go_wp2_with (at_builtin; refine wpList_append_own _ rfl _ _ 39 rfl w1.heap.size 40 i0 _ 1 24 Tryd.underlying39 hi hz0 hz1 hz2 rfl (by decide) _ _ _ rfl (hrow2.alloc _) ⟨w2.heap.size, 0, none⟩ 1 1 [.slice (some ⟨mb, 0, none⟩) ds.length cp] rfl rfl (cell_one_new _ _ _) (by simp [Value.oneCell']) (by unfold maxLen; omega) (by omega) (by simp; omega) ?_; intro v4 w4 ho4 hg4 _)
                      have hb3 := hbb.alloc (o := .cells #[.slice (some ⟨mb, 0, none⟩) ds.length cp] 40) hws
                      go_roundw
                      case rel =>
                        refine ⟨k + 1, xs ++ [⟨ds, S, mb⟩], vs ++ [.slice (some ⟨mb, 0, none⟩) ds.length cp], by omega, by go_num, ⟨HX2.out.1⟩, ⟨HX2.out.2⟩, HV2, HD2, ⟨fun x hx => ?_⟩, ho4, hb3.grown hg4 hb3.size (fun j e => owns_base hrow2 j e)⟩
                        refine ((HM3.out x hx).later (belowS_one w2 _)).kept hg4 (fun g e => ?_)
                        have hlt2 := (hrow2.lt g e).2
                        obtain ⟨cur, hcu⟩ := row_block hrow2 e
                        exact ⟨cur, (Below.heap_alloc _ _ _ hlt2).trans hcu⟩
                      case measure => simp [intOf]; omega
                  · have HNO : Keep (∀ x, ¬ DirOf wd ts[k] x) := ⟨fun x hx => hno _ hx.2.1⟩
                    clear hno
                    have r0 := hSHx.r0; have r1 := hSHx.r1; have r2 := hSHx.r2; have r3 := hSHx.r3; have r4 := hSHx.r4; have rf := hSHx.rf
                    obtain ⟨k0, k1, k2, k3, k4, kb⟩ := hSHx.set (.int .i64 1) (.bool false) (.string ⟨#[]⟩) (.string ⟨#[]⟩) (.bool false)
                    have HP : Keep (ShowPost sum path ts there text width w (.returned (.agg #[.int .i64 1, .bool false, .string ⟨#[]⟩, .string ⟨#[]⟩, .bool false])) (set5 w2 rs (.int .i64 1) (.bool false) (.string ⟨#[]⟩) (.string ⟨#[]⟩) (.bool false))) := ⟨HBAD.out 1 (fun _ wd' X g => by have e : wd = wd' := (by have h1 := g.width; have h2 := HW.out; omega); subst e; exact dirs_not (List.getElem_mem hlt) HNO.out X g.dirs) (fun h => by cases h) (.inl rfl) _ kb⟩
                    unfold set5 at k0 k1 k2 k3 k4 HP
                    clear kb hSHx
                    go_wp2
                    refine bodyPost_ret (v := .agg #[.int .i64 1, .bool false, .string ⟨#[]⟩, .string ⟨#[]⟩, .bool false]) ?_ rfl HP.out
                    go_light
                    simp [results, Tryd.results5, go_sem, k0, k1, k2, k3, k4]
                · obtain rfl : k = ts.length := by omega
                  obtain ⟨hl1, hl7⟩ := HLN.out
                  obtain ⟨ad, cv, rfl⟩ := owns_slice hrow
                  obtain ⟨gb, rfl⟩ : ∃ gb, ad = some ⟨gb, 0, none⟩ := by
                    rcases hrow.2 with ⟨_, h1⟩ | ⟨g, c, cur, hv, _⟩
                    · omega
                    · injection hv with hv; exact ⟨g, hv⟩
                  have HDS : Keep (∀ (i : Nat) t, ts[i]? = some t → ∃ x, xs[i]? = some x ∧ DirOf wd t x) := ⟨fun i t h => HD.out i t (List.getElem?_eq_some_iff.1 h).1 h⟩
                  have HG : Keep (GoodS path ts there text width wd (plainD xs)) := ⟨⟨hvp, HW.out, hw1, hw8, HFL.out, (fun e => by rw [e] at hl1; simp at hl1), hl7, dirs_of HXL.out HDS.out⟩⟩
                  have HSUM : Keep (∀ i (h : i < ts.length) (h' : i < xs.length), xs[i].sum = sumStr ts[i].data.toList wd) := ⟨fun i h h' => by
                    obtain ⟨x, h1, h2⟩ := HDS.out i _ (List.getElem?_eq_getElem h)
                    rw [List.getElem?_eq_getElem h'] at h1
                    injection h1 with h1
                    rw [h1]
                    exact h2.2.2⟩
                  have HSA : Keep (∀ b : Bool, ((sumStr ts[0].data.toList wd).toList == sum.toList) = b → shA sum path there text wd (plainD xs) = if b = true then ansOf there text wd (fw (plainD xs) (partsB path)) else ⟨2, false, false⟩) := ⟨fun b hb => by
                    have h0 : 0 < xs.length := by rw [HXL.out]; omega
                    have e := drop_X (xs := xs) (k := 0) h0
                    rw [List.drop_zero, HSUM.out 0 (by omega) h0] at e
                    unfold shA
                    rw [e]
                    dsimp only
                    rw [hb, ← e]⟩
                  obtain ⟨b', off, rfl, hc⟩ := hss.at (k := 0) (by omega)
                  have hWr := hSH.bw.trans (hb.mono hSH.bw.size)
                  have hts : ∀ i (h : i < ts.length), wr.cell? ⟨b', off + i, none⟩ = some (.string ts[i]) := fun i h => cell_later hWr (hc i h)
                  have hSHr := hSH.later hb
                  have HCL : Keep (∀ i (h : i < xs.length), ∃ cp : Nat, wr.cell? ⟨gb, i, none⟩ = some (.slice (some ⟨xs[i].mb, 0, none⟩) xs[i].ds.length cp)) := ⟨fun i h => by
                    obtain ⟨cp, e⟩ := HVS.out i _ (List.getElem?_eq_getElem h)
                    exact ⟨cp, by rw [← e]; exact hrow.cellAt i (by rw [HXL.out] at h; omega)⟩⟩
                  clear hSH HD HVS HVL hc hss HLN hlt hk hrow hb hWr
                  go_upto_region 12 with fail
                  have hal2 := belowS_one wr (.cells #[.int .i64 2, .bool false, .string ⟨#[]⟩, .string ⟨#[]⟩, .bool false] 29)
                  have hNB : NBx wr.heap.size 2 (wr.alloc (.cells #[.int .i64 2, .bool false, .string ⟨#[]⟩, .string ⟨#[]⟩, .bool false] 29)) := ⟨by simp, by simp, by simp, by simp, by simp⟩
                  replace hSHr := hSHr.later hal2
                  replace hts : ∀ i (h : i < ts.length), (wr.alloc (.cells #[.int .i64 2, .bool false, .string ⟨#[]⟩, .string ⟨#[]⟩, .bool false] 29)).cell? ⟨b', off + i, none⟩ = some (.string ts[i]) := fun i h => cell_later hal2 (hts i h)
                  have HL3 : Keep (∀ x ∈ xs, LineAt x (wr.alloc (.cells #[.int .i64 2, .bool false, .string ⟨#[]⟩, .string ⟨#[]⟩, .bool false] 29))) := ⟨fun x hx => (HM.out x hx).later hal2⟩
                  have HC3 : Keep (∀ i (h : i < xs.length), ∃ cp : Nat, (wr.alloc (.cells #[.int .i64 2, .bool false, .string ⟨#[]⟩, .string ⟨#[]⟩, .bool false] 29)).cell? ⟨gb, i, none⟩ = some (.slice (some ⟨xs[i].mb, 0, none⟩) xs[i].ds.length cp)) := ⟨fun i h => by obtain ⟨cp, e⟩ := HCL.out i h; exact ⟨cp, cell_later hal2 e⟩⟩
                  clear HM HCL P0 P1 P2 hal2
                  generalize wr.alloc (.cells #[.int .i64 2, .bool false, .string ⟨#[]⟩, .string ⟨#[]⟩, .bool false] 29) = W3 at *
                  generalize wr.heap.size = nb at *
                  have HANS : Keep (∀ o W', shA sum path there text wd (plainD xs) = o → Below w.heap.size w W' → ShowPost sum path ts there text width w (.returned (shV path text o)) W') := ⟨fun o W' h hb => ⟨o, .inr ⟨wd, plainD xs, HG.out, h.symm⟩, rfl, hb⟩⟩
                  have HLE : Keep (∀ i (h : i < xs.length), xs[i].ds.length ≤ 1048576) := ⟨fun i h => by
                    have h' : i < ts.length := by rw [HXL.out] at h; exact h
                    obtain ⟨x, h1, h2⟩ := HDS.out i _ (List.getElem?_eq_getElem h')
                    rw [List.getElem?_eq_getElem h] at h1
                    injection h1 with h1
                    subst h1
                    have h3 := h2.2.1.len
                    have h4 := linesL_le ts[i].data.toList
                    have h5 := h2.1
                    rw [← Lib.size_eq] at h4
                    omega⟩
                  obtain ⟨S0, hS0⟩ : ∃ x, x = sumStr ts[0].data.toList wd := ⟨_, rfl⟩
                  have hsum : Calls Tryd.prog 14 #[.string ts[0], .int .i64 width] W3 fun e w' => e = .returned (.string S0) ∧ Below W3.heap.size W3 w' := by rw [HW.out, hS0]; exact specSum_any ts[0] wd W3 (by have := hm ts[0] (List.getElem_mem (by omega)); unfold maxLen; omega) hw1 hw8
                  rw [← hS0] at HSA
                  clear hS0
                  have t0 : W3.cell? ⟨b', off, none⟩ = some (.string ts[0]) := hts 0 (by omega)
                  have P0 := hSHr.p0
                  go_wp2_with fail
                  refine hsum.mono ?_
                  rintro e w4 ⟨rfl, hb4⟩
                  clear t0 P0 hsum
                  replace hSHr := hSHr.later hb4
                  replace hNB := hNB.later hb4
                  replace hts : ∀ i (h : i < ts.length), w4.cell? ⟨b', off + i, none⟩ = some (.string ts[i]) := fun i h => cell_later hb4 (hts i h)
                  replace HL3 : Keep (∀ x ∈ xs, LineAt x w4) := ⟨fun x hx => (HL3.out x hx).later hb4⟩
                  replace HC3 : Keep (∀ i (h : i < xs.length), ∃ cp : Nat, w4.cell? ⟨gb, i, none⟩ = some (.slice (some ⟨xs[i].mb, 0, none⟩) xs[i].ds.length cp)) := ⟨fun i h => by obtain ⟨cp, e⟩ := HC3.out i h; exact ⟨cp, cell_later hb4 e⟩⟩
                  clear hb4
                  cases hse : (S0.toList == sum.toList) with
                  | false =>
                    have hSHx := hSHr
                    have hNBx := hNB
                    have r0 := hSHx.r0; have r1 := hSHx.r1; have r2 := hSHx.r2; have r3 := hSHx.r3; have r4 := hSHx.r4; have rf := hSHx.rf
                    have n0 := hNBx.n0; have n1 := hNBx.n1; have n2 := hNBx.n2; have n3 := hNBx.n3; have n4 := hNBx.n4
                    obtain ⟨k0, k1, k2, k3, k4, kb⟩ := hSHx.set (.int .i64 2) (.bool false) (.string ⟨#[]⟩) (.string ⟨#[]⟩) (.bool false)
                    have HP : Keep (ShowPost sum path ts there text width w (.returned (.agg #[.int .i64 2, .bool false, .string ⟨#[]⟩, .string ⟨#[]⟩, .bool false])) (set5 w4 rs (.int .i64 2) (.bool false) (.string ⟨#[]⟩) (.string ⟨#[]⟩) (.bool false))) := ⟨HANS.out ⟨2, false, false⟩ _ (by rw [HSA.out false hse]; rfl) kb⟩
                    unfold set5 at k0 k1 k2 k3 k4 HP
                    clear kb hSHx hNBx
                    go_wp2
                    refine bodyPost_ret (v := .agg #[.int .i64 2, .bool false, .string ⟨#[]⟩, .string ⟨#[]⟩, .bool false]) ?_ rfl HP.out
                    go_light
                    simp [results, Tryd.results5, go_sem, k0, k1, k2, k3, k4]
                  | true =>
                    have HSB : Keep (shA sum path there text wd (plainD xs) = ansOf there text wd (fw (plainD xs) (partsB path))) := ⟨by rw [HSA.out true hse, if_pos rfl]⟩
                    have hprt := l4Parts_any path (Nat.le_trans (pathOk_size hvp) (by omega)) w4
                    clear HSA
                    go_wp2_with fail
                    refine hprt.mono ?_
                    rintro e w5 ⟨ap, cq, rfl, op, hb5⟩
                    clear hprt
                    have hpl : 0 < (partsB path).length := (by rw [partsB_cut]; simp)
                    obtain ⟨bp, rfl, hq⟩ : ∃ bp, ap = some ⟨bp, 0, none⟩ ∧ ∀ i (h : i < (partsB path).length), w5.cell? ⟨bp, i, none⟩ = some (.string (partsB path)[i]) := by
                      obtain ⟨b', e, _⟩ := own_cell op 0 hpl
                      refine ⟨b', e, fun i hi => ?_⟩
                      obtain ⟨b2, e2, h⟩ := own_cell op i hi
                      rw [e] at e2
                      cases e2
                      exact h
                    have hpn : (partsB path).length ≤ 1000001 := Nat.le_trans (partsB_le path) (Nat.le_trans (Nat.succ_le_succ (pathOk_size hvp)) (by omega))
                    clear op
                    obtain ⟨ps, hpe⟩ : ∃ x, partsB path = x := ⟨_, rfl⟩
                    rw [hpe] at HSB
                    have HPE : Keep (partsB path = ps) := ⟨hpe⟩
                    rw [hpe] at hpl
                    rw [hpe] at hpn
                    replace hq : ∀ i (h : i < ps.length), w5.cell? ⟨bp, i, none⟩ = some (.string ps[i]) := by subst hpe; exact hq
                    rw [hpe]
                    clear hpe
                    replace hSHr := hSHr.later hb5
                    replace hNB := hNB.later hb5
                    replace hts : ∀ i (h : i < ts.length), w5.cell? ⟨b', off + i, none⟩ = some (.string ts[i]) := fun i h => cell_later hb5 (hts i h)
                    replace HL3 : Keep (∀ x ∈ xs, LineAt x w5) := ⟨fun x hx => (HL3.out x hx).later hb5⟩
                    replace HC3 : Keep (∀ i (h : i < xs.length), ∃ cp : Nat, w5.cell? ⟨gb, i, none⟩ = some (.slice (some ⟨xs[i].mb, 0, none⟩) xs[i].ds.length cp)) := ⟨fun i h => by obtain ⟨cp, e⟩ := HC3.out i h; exact ⟨cp, cell_later hb5 e⟩⟩
                    clear hb5 hse
                    go_wp2
                    go_loopw [15] (fun i wr => ∃ (k : Nat), k < ps.length ∧ k < ts.length ∧ i = .int .i64 k ∧ Keep (fw (plainD xs) ps = fw ((plainD xs).drop k) (ps.drop k)) ∧ Below w5.heap.size w5 wr) (fun i _ => ps.length - (intOf i).toNat)
                    case atStart => exact ⟨0, hpl, by omega, rfl, ⟨by simp⟩, Below.refl _ _⟩
                    case round =>
                      obtain ⟨k, hkp, hkt, rfl, HF, hbr⟩ := hrel
                      have hkx : k < xs.length := by rw [HXL.out]; exact hkt
                      replace hSHr := hSHr.later hbr
                      replace hNB := hNB.later hbr
                      have htr : ∀ i (h : i < ts.length), wr.cell? ⟨b', off + i, none⟩ = some (.string ts[i]) := fun i h => cell_later hbr (hts i h)
                      obtain ⟨cp, X0⟩ := HC3.out k hkx
                      replace X0 := cell_later hbr X0
                      have Q0 := cell_later hbr (hq k hkp)
                      have hLN := ((HL3.out _ (List.getElem_mem hkx)).later hbr).lsp
                      obtain ⟨kd, nm, dg, hkd, HKD⟩ : ∃ (kd : Int) (nm dg : ByteArray), lkV (lk xs[k].ds ps[k]) = .agg #[.int .u8 kd, .string nm, .string dg] ∧ Keep ((∃ l, lk xs[k].ds ps[k] = some l ∧ kd = l.kind.toNat ∧ dg = l.dig) ∨ (lk xs[k].ds ps[k] = none ∧ kd = 0)) := by
                        cases h : lk xs[k].ds ps[k] with
                        | some l => exact ⟨_, _, _, rfl, ⟨.inl ⟨l, rfl, rfl, rfl⟩⟩⟩
                        | none => exact ⟨0, _, _, rfl, ⟨.inr ⟨rfl, rfl⟩⟩⟩
                      have HFI : Keep (∀ X, Below wr.heap.size wr X → Calls Tryd.prog 16 #[.slice (some ⟨xs[k].mb, 0, none⟩) xs[k].ds.length cp, .string ps[k]] X fun e w' => e = .returned (.agg #[.int .u8 kd, .string nm, .string dg]) ∧ Below X.heap.size X w') := ⟨fun X hX => by rw [← hkd]; exact l9Find_any xs[k].mb cp xs[k].ds ps[k] X (hLN.later hX) (HLE.out k hkx)⟩
                      clear hkd hLN
                      go_upto_region 18 with fail
                      go_cut [16] from 96 to 186 (fun pv wx => CutF (.int .u8 kd) (.string nm) (.string dg) wr pv wx)
                      case first =>
                        refine (wpIn_wide (n := 0)).1 ?_
                        refine wpIn_region_inv0 (by kernel_rfl) (by kernel_rfl) (fun T0 => LV T0 [102, 103, 104, 105, 106, 107, 108, 109, 110, 16, 1000] wr (lTab (.slice (some ⟨gb, 0, none⟩) ts.length cv) k (.pointer (some ⟨gb, k, none⟩)) (.slice (some ⟨xs[k].mb, 0, none⟩) xs[k].ds.length cp) (.slice (some ⟨bp, 0, none⟩) ps.length cq) (.pointer (some ⟨bp, k, none⟩)) ps[k] (.agg #[.int .u8 kd, .string nm, .string dg])) (.int .u8 kd) (.string nm) (.string dg) 16) ?_ ?_ ?_
                        · exact ⟨Sl2.start _, (Below.refl _ _).drew, (fun h => by rw [getD_repl] at h; cases h)⟩
                        · intro L a2 w9 hinv hall
                          obtain ⟨fb, f1, f2, _, f3⟩ := hinv.bx (hall 9 (by decide))
                          replace f3 := f3 (hall 10 (by decide))
                          have HX : Keep _ := ⟨hinv.sl.act⟩
                          have f5 := hinv.wd
                          clear hinv hall
                          rw [HX.out]
                          go_wp2_with fail
                          go_meet
                          case rel => exact ⟨fb, by simpa [Array.getD_eq_getD_getElem?] using evalD2 f1, f3, f2, f5⟩
                        · intro L a2 w9 i o hinv hcl hL ho hdep
                          have hi11 : i < 11 := (Array.getElem?_eq_some_iff.1 ho).1
                          have nd := (by decide : ([102, 103, 104, 105, 106, 107, 108, 109, 110, 16, 1000] : List Nat).Nodup)
                          unfold wpOpIn
                          rw [ho]
                          have c1 := cell_later hinv.wd X0
                          have c2 := cell_later hinv.wd Q0
                          have HC8 := HFI.out w9 hinv.wd
                          have hc10 : L.getD 9 true = false → L.getD 10 false = false := fun h9 => by
                            cases hb : L.getD 10 false with
                            | false => rfl
                            | true =>
                              have h := hcl 10 _ rfl hb ⟨9, .data⟩ (by simp) rfl
                              rw [getD_ft h9] at h
                              cases h
                          clear hcl
                          match i, hi11, hL, ho, hdep with
                          | 0, _, hL, ho, hdep =>
                            injection ho with ho; subst ho
                            dsimp only
                            rw [if_pos (by rfl)]
                            refine ⟨fun f _ => trivial, ?_⟩
                            have e9 : a2.tmps[9]?.getD undef = .slice (some ⟨gb, 0, none⟩) ts.length cv := hinv.sl.old (by decide)
                            go_simp
                            exact hinv.step nd (i := 0) (by decide) (show 102 < 188 by omega) (by decide) (by decide) (by decide) rfl (Below.refl _ _)
                          | 1, _, hL, ho, hdep =>
                            injection ho with ho; subst ho
                            dsimp only
                            rw [if_pos (by rfl)]
                            refine ⟨fun f _ => trivial, ?_⟩
                            have e15 : a2.tmps[15]?.getD undef = .int .i64 k := hinv.sl.old (by decide)
                            go_simp
                            exact hinv.step nd (i := 1) (by decide) (show 103 < 188 by omega) (by decide) (by decide) (by decide) rfl (Below.refl _ _)
                          | 2, _, hL, ho, hdep =>
                            injection ho with ho; subst ho
                            dsimp only
                            rw [if_pos (by rfl)]
                            refine ⟨fun f _ => trivial, ?_⟩
                            have ea0 : a2.tmps[102]?.getD undef = .slice (some ⟨gb, 0, none⟩) ts.length cv := hinv.sl.new (i := 0) (by decide) rfl (hdep ⟨0, .data⟩ (by simp) rfl)
                            have ea1 : a2.tmps[103]?.getD undef = .int .i64 k := hinv.sl.new (i := 1) (by decide) rfl (hdep ⟨1, .data⟩ (by simp) rfl)
                            go_simp
                            exact hinv.step nd (i := 2) (by decide) (show 104 < 188 by omega) (by decide) (by decide) (by decide) rfl (Below.refl _ _)
                          | 3, _, hL, ho, hdep =>
                            injection ho with ho; subst ho
                            dsimp only
                            rw [if_pos (by rfl)]
                            refine ⟨fun f _ => trivial, ?_⟩
                            have ea2 : a2.tmps[104]?.getD undef = .pointer (some ⟨gb, k, none⟩) := hinv.sl.new (i := 2) (by decide) rfl (hdep ⟨2, .data⟩ (by simp) rfl)
                            go_simp
                            exact hinv.step nd (i := 3) (by decide) (show 105 < 188 by omega) (by decide) (by decide) (by decide) rfl (Below.refl _ _)
                          | 4, _, hL, ho, hdep =>
                            injection ho with ho; subst ho
                            dsimp only
                            rw [if_pos (by rfl)]
                            refine ⟨fun f _ => trivial, ?_⟩
                            have e14 : a2.tmps[14]?.getD undef = .slice (some ⟨bp, 0, none⟩) ps.length cq := hinv.sl.old (by decide)
                            go_simp
                            exact hinv.step nd (i := 4) (by decide) (show 106 < 188 by omega) (by decide) (by decide) (by decide) rfl (Below.refl _ _)
                          | 5, _, hL, ho, hdep =>
                            injection ho with ho; subst ho
                            dsimp only
                            rw [if_pos (by rfl)]
                            refine ⟨fun f _ => trivial, ?_⟩
                            have e15 : a2.tmps[15]?.getD undef = .int .i64 k := hinv.sl.old (by decide)
                            go_simp
                            exact hinv.step nd (i := 5) (by decide) (show 107 < 188 by omega) (by decide) (by decide) (by decide) rfl (Below.refl _ _)
                          | 6, _, hL, ho, hdep =>
                            injection ho with ho; subst ho
                            dsimp only
                            rw [if_pos (by rfl)]
                            refine ⟨fun f _ => trivial, ?_⟩
                            have ea4 : a2.tmps[106]?.getD undef = .slice (some ⟨bp, 0, none⟩) ps.length cq := hinv.sl.new (i := 4) (by decide) rfl (hdep ⟨4, .data⟩ (by simp) rfl)
                            have ea5 : a2.tmps[107]?.getD undef = .int .i64 k := hinv.sl.new (i := 5) (by decide) rfl (hdep ⟨5, .data⟩ (by simp) rfl)
                            go_simp
                            exact hinv.step nd (i := 6) (by decide) (show 108 < 188 by omega) (by decide) (by decide) (by decide) rfl (Below.refl _ _)
                          | 7, _, hL, ho, hdep =>
                            injection ho with ho; subst ho
                            dsimp only
                            rw [if_pos (by rfl)]
                            refine ⟨fun f _ => trivial, ?_⟩
                            have ea6 : a2.tmps[108]?.getD undef = .pointer (some ⟨bp, k, none⟩) := hinv.sl.new (i := 6) (by decide) rfl (hdep ⟨6, .data⟩ (by simp) rfl)
                            go_simp
                            exact hinv.step nd (i := 7) (by decide) (show 109 < 188 by omega) (by decide) (by decide) (by decide) rfl (Below.refl _ _)
                          | 8, _, hL, ho, hdep =>
                            injection ho with ho; subst ho
                            dsimp only
                            rw [if_pos (by rfl)]
                            refine ⟨fun f _ => trivial, ?_⟩
                            have ea3 : a2.tmps[105]?.getD undef = .slice (some ⟨xs[k].mb, 0, none⟩) xs[k].ds.length cp := hinv.sl.new (i := 3) (by decide) rfl (hdep ⟨3, .data⟩ (by simp) rfl)
                            have ea7 : a2.tmps[109]?.getD undef = .string ps[k] := hinv.sl.new (i := 7) (by decide) rfl (hdep ⟨7, .data⟩ (by simp) rfl)
                            go_simp
                            refine ⟨rfl, CallsIn.mono (callsIn_wide.2 HC8) ?_⟩
                            rintro e w' ⟨rfl, hb'⟩
                            exact hinv.step nd (i := 8) (by decide) (show 110 < 188 by omega) (by decide) (by decide) (by decide) rfl hb'
                          | 9, _, hL, ho, hdep =>
                            injection ho with ho; subst ho
                            dsimp only
                            rw [if_pos (by rfl)]
                            refine ⟨fun f _ => trivial, ?_⟩
                            go_simp
                            exact LV.box (by decide) hinv nd (show 16 < 188 by omega) rfl (hc10 hL)
                          | 10, _, hL, ho, hdep =>
                            injection ho with ho; subst ho
                            dsimp only
                            rw [if_pos (by rfl)]
                            refine ⟨fun f _ => trivial, ?_⟩
                            obtain ⟨fb, f1, f2, f3, _⟩ := hinv.bx (hdep ⟨9, .data⟩ (by simp) rfl)
                            have f4 := f3 (getD_ft hL)
                            have ea : a2.tmps[16]?.getD undef = .pointer (some ⟨fb, 0, none⟩) := evalD2 f1
                            have eb : a2.tmps[110]?.getD undef = .agg #[.int .u8 kd, .string nm, .string dg] := hinv.sl.new (i := 8) (by decide) rfl (hdep ⟨8, .data⟩ (by simp) rfl)
                            have n0 := f4.c0; have n1 := f4.c1; have n2 := f4.c2; have nf := f4.fz
                            clear f3
                            go_simp
                            exact hinv.store rfl f1 f2 f4 hL
                      case rest =>
                        obtain ⟨fb, rfl, hF, hfb, hB1⟩ := hcut
                        clear X0 Q0 HFI
                        generalize hwx : wc = wx at *
                        clear hwx
                        have hBx := hbr.trans (hB1.mono hbr.size)
                        rename_i K2 hk2
                        refine hk2 _ _ ?_
                        clear hk2
                        have hSHx := hSHr.later hB1
                        have hNBx := hNB.later hB1
                        have p0 := hSHx.p0; have p1 := hSHx.p1; have p2 := hSHx.p2
                        rw [HT.out] at p1
                        have b0 := hF.c0; have b2 := hF.c2
                        have htq : ∀ i (h : i < ts.length), wx.cell? ⟨b', off + i, none⟩ = some (.string ts[i]) := fun i h => cell_later hB1 (htr i h)
                        clear hF hSHr hNB htr hts HL3 HC3 hq hB1 hbr
                        have hw2 : IntKind.i64.wrap ((k : Int) + 1) = (k : Int) + 1 := by rw [IntKind.wrap_i64]; omega
                        have HMX : Keep (k + 1 < xs.length ↔ k + 1 < ts.length) := ⟨by rw [HXL.out]⟩
                        by_cases hnp : k + 1 < ps.length
                        · have hni : (k : Int) + 1 < ps.length := by omega
                          have hnd : decide ((k : Int) + 1 < ps.length) = true := by simpa using hni
                          by_cases h100 : kd = 100
                          · subst h100
                            obtain ⟨l, hl1, hl2, hl3⟩ : ∃ l, lk xs[k].ds ps[k] = some l ∧ l.kind = 100 ∧ Keep (dg = l.dig) := by
                              rcases HKD.out with ⟨l, h1, h2, h3⟩ | ⟨h1, h2⟩
                              · exact ⟨l, h1, by
                                  have h4 : l.kind.toNat = 100 := by omega
                                  exact UInt8.toNat_inj.1 h4, ⟨h3⟩⟩
                              · omega
                            clear HKD
                            by_cases hmo : k + 1 < ts.length
                            · have hmi : (k : Int) + 1 < ts.length := by omega
                              have hmd : decide ((k : Int) + 1 < ts.length) = true := by simpa using hmi
                              have hmx : k + 1 < xs.length := HMX.out.2 hmo
                              obtain ⟨S1, hS1⟩ : ∃ x, x = sumStr ts[k + 1].data.toList wd := ⟨_, rfl⟩
                              obtain ⟨H, hH⟩ : ∃ H, H = lnB (hexL S1.data.toList) := ⟨_, rfl⟩
                              have HE : Keep ((H.toList == dg.toList) = (hexL xs[k + 1].sum.data.toList == l.dig.data.toList)) := ⟨by rw [hH, toL, lnB_list, hl3.out, toL, hS1, HSUM.out (k + 1) hmo hmx]⟩
                              have c5 : (0 : Int) ≤ (k : Int) + 1 := by omega
                              have HCs : Keep (∀ x : Later wx, Calls Tryd.prog 14 #[.string ts[k + 1], .int .i64 width] x.world fun e w'' => e = .returned (.string S1) ∧ ∃ y : Later wx, w'' = y.world) := ⟨fun x => x.call (by rw [HW.out, hS1]; exact specSum_any _ wd _ (by have := hm ts[k + 1] (List.getElem_mem hmo); unfold maxLen; omega) hw1 hw8)⟩
                              have HCh : Keep (∀ x : Later wx, Calls Tryd.prog 17 #[.string S1] x.world fun e w'' => e = .returned (.string H) ∧ ∃ y : Later wx, w'' = y.world) := ⟨fun x => x.call (by rw [hH]; exact l9Hex_any _ _ (by rw [hS1, sumStr_size]; omega))⟩
                              have P0 : ∀ x : Later wx, x.world.cell? ⟨pb, 0, none⟩ = some (.slice (some ⟨b', off, none⟩) ts.length cap) := fun x => (hSHx.later x.kept).p0
                              have T1 : ∀ x : Later wx, x.world.cell? ⟨b', off + (k + 1), none⟩ = some (.string ts[k + 1]) := fun x => cell_later x.kept (htq (k + 1) hmo)
                              have D2 : ∀ x : Later wx, x.world.cell? ⟨fb, 2, none⟩ = some (.string dg) := fun x => cell_later x.kept b2
                              clear hS1 hH
                              cases hhx : (H.toList == dg.toList) with
                              | true =>
                                have HG2 : Keep (fw (plainD xs) ps = fw ((plainD xs).drop (k + 1)) (ps.drop (k + 1))) := ⟨by rw [HF.out, fw_dir hkx hkp hnp hl1 hl2 hmx, ← HE.out, hhx, if_pos rfl]⟩
                                go_upto_region 21 with fail
                                clear p0 p1 p2
                                (haveI := later_any; refine wp_region_later (by kernel_rfl) (by kernel_rfl) ?_; (repeat (go_big_quiet_step (first | (go_at_call 14; exact HCs.out _) | (go_at_call 17; exact HCh.out _)))); refine wpQuiet_nil ?_; intro _ hwq; obtain ⟨xq, hwq2⟩ := hwq; subst hwq2)
                                have hbq3 := hBx.trans (xq.kept.mono hBx.size)
                                clear P0 T1 D2 HCs HCh
                                go_wp2
                                go_roundw
                                case rel => exact ⟨k + 1, hnp, hmo, by go_num, HG2, hbq3⟩
                                case measure => simp [intOf]; omega
                              | false =>
                                go_upto_region 21 with fail
                                clear p0 p1 p2
                                (haveI := later_any; refine wp_region_later (by kernel_rfl) (by kernel_rfl) ?_; (repeat (go_big_quiet_step (first | (go_at_call 14; exact HCs.out _) | (go_at_call 17; exact HCh.out _)))); refine wpQuiet_nil ?_; intro _ hwq; obtain ⟨xq, hwq2⟩ := hwq; subst hwq2)
                                replace hSHx := hSHx.later xq.kept
                                replace hNBx := hNBx.later xq.kept
                                clear P0 T1 D2 HCs HCh b0 b2
                                have r0 := hSHx.r0; have r1 := hSHx.r1; have r2 := hSHx.r2; have r3 := hSHx.r3; have r4 := hSHx.r4; have rf := hSHx.rf
                                have n0 := hNBx.n0; have n1 := hNBx.n1; have n2 := hNBx.n2; have n3 := hNBx.n3; have n4 := hNBx.n4
                                obtain ⟨k0, k1, k2, k3, k4, kb⟩ := hSHx.set (.int .i64 2) (.bool false) (.string ⟨#[]⟩) (.string ⟨#[]⟩) (.bool false)
                                have HP : Keep (ShowPost sum path ts there text width w (.returned (.agg #[.int .i64 2, .bool false, .string ⟨#[]⟩, .string ⟨#[]⟩, .bool false])) (set5 xq.world rs (.int .i64 2) (.bool false) (.string ⟨#[]⟩) (.string ⟨#[]⟩) (.bool false))) := ⟨HANS.out ⟨2, false, false⟩ _ (by rw [HSB.out, HF.out, fw_dir hkx hkp hnp hl1 hl2 hmx, ← HE.out, hhx, if_neg (by decide)]; rfl) kb⟩
                                unfold set5 at k0 k1 k2 k3 k4 HP
                                clear kb hSHx hNBx
                                go_wp2
                                refine bodyPost_ret (v := .agg #[.int .i64 2, .bool false, .string ⟨#[]⟩, .string ⟨#[]⟩, .bool false]) ?_ rfl HP.out
                                go_light
                                simp [results, Tryd.results5, go_sem, k0, k1, k2, k3, k4]
                            · have hmi : ¬ (k : Int) + 1 < ts.length := by omega
                              have hmd : decide ((k : Int) + 1 < ts.length) = false := by simpa using hmi
                              have hmx : ¬ k + 1 < xs.length := fun h => hmo (HMX.out.1 h)
                              go_upto_region 21 with fail
                              clear p0 p1 p2
                              (haveI := later_any; refine wp_region_later (by kernel_rfl) (by kernel_rfl) ?_; (repeat (go_big_quiet_step (fail))); refine wpQuiet_nil ?_; intro _ hwq; obtain ⟨xq, hwq2⟩ := hwq; subst hwq2)
                              replace hSHx := hSHx.later xq.kept
                              replace hNBx := hNBx.later xq.kept
                              clear b0 b2
                              have r0 := hSHx.r0; have r1 := hSHx.r1; have r2 := hSHx.r2; have r3 := hSHx.r3; have r4 := hSHx.r4; have rf := hSHx.rf
                              have n0 := hNBx.n0; have n1 := hNBx.n1; have n2 := hNBx.n2; have n3 := hNBx.n3; have n4 := hNBx.n4
                              obtain ⟨k0, k1, k2, k3, k4, kb⟩ := hSHx.set (.int .i64 2) (.bool false) (.string ⟨#[]⟩) (.string ⟨#[]⟩) (.bool false)
                              have HP : Keep (ShowPost sum path ts there text width w (.returned (.agg #[.int .i64 2, .bool false, .string ⟨#[]⟩, .string ⟨#[]⟩, .bool false])) (set5 xq.world rs (.int .i64 2) (.bool false) (.string ⟨#[]⟩) (.string ⟨#[]⟩) (.bool false))) := ⟨HANS.out ⟨2, false, false⟩ _ (by rw [HSB.out, HF.out, fw_end hkx hkp hnp hl1 hl2 hmx]; rfl) kb⟩
                              unfold set5 at k0 k1 k2 k3 k4 HP
                              clear kb hSHx hNBx
                              go_wp2
                              refine bodyPost_ret (v := .agg #[.int .i64 2, .bool false, .string ⟨#[]⟩, .string ⟨#[]⟩, .bool false]) ?_ rfl HP.out
                              go_light
                              simp [results, Tryd.results5, go_sem, k0, k1, k2, k3, k4]
                          · have c0 : (kd == 100) = false := by simpa using h100
                            have HOF : Keep (fw ((plainD xs).drop k) (ps.drop k) = if k + 1 < xs.length then none else some none) := ⟨fw_off hkx hkp hnp (fun l hl hk => by
                              rcases HKD.out with ⟨l', h1, h2, _⟩ | ⟨h1, _⟩
                              · rw [hl] at h1
                                cases h1
                                rw [hk] at h2
                                exact h100 h2
                              · rw [hl] at h1; cases h1)⟩
                            clear HKD
                            by_cases hmo : k + 1 < ts.length
                            · have hmi : (k : Int) + 1 < ts.length := by omega
                              have hmd : decide ((k : Int) + 1 < ts.length) = true := by simpa using hmi
                              have hmx : k + 1 < xs.length := HMX.out.2 hmo
                              have r0 := hSHx.r0; have r1 := hSHx.r1; have r2 := hSHx.r2; have r3 := hSHx.r3; have r4 := hSHx.r4; have rf := hSHx.rf
                              have n0 := hNBx.n0; have n1 := hNBx.n1; have n2 := hNBx.n2; have n3 := hNBx.n3; have n4 := hNBx.n4
                              obtain ⟨k0, k1, k2, k3, k4, kb⟩ := hSHx.set (.int .i64 2) (.bool false) (.string ⟨#[]⟩) (.string ⟨#[]⟩) (.bool false)
                              have HP : Keep (ShowPost sum path ts there text width w (.returned (.agg #[.int .i64 2, .bool false, .string ⟨#[]⟩, .string ⟨#[]⟩, .bool false])) (set5 wx rs (.int .i64 2) (.bool false) (.string ⟨#[]⟩) (.string ⟨#[]⟩) (.bool false))) := ⟨HANS.out ⟨2, false, false⟩ _ (by rw [HSB.out, HF.out, HOF.out, if_pos hmx]; rfl) kb⟩
                              unfold set5 at k0 k1 k2 k3 k4 HP
                              clear kb hSHx hNBx
                              go_wp2
                              refine bodyPost_ret (v := .agg #[.int .i64 2, .bool false, .string ⟨#[]⟩, .string ⟨#[]⟩, .bool false]) ?_ rfl HP.out
                              go_light
                              simp [results, Tryd.results5, go_sem, k0, k1, k2, k3, k4]
                            · have hmi : ¬ (k : Int) + 1 < ts.length := by omega
                              have hmd : decide ((k : Int) + 1 < ts.length) = false := by simpa using hmi
                              have hmx : ¬ k + 1 < xs.length := fun h => hmo (HMX.out.1 h)
                              have HO : Keep (fw ((plainD xs).drop k) (ps.drop k) = some none) := ⟨by rw [HOF.out, if_neg hmx]⟩
                              have HOA : Keep (ansOf there text wd (some none) = ⟨2, false, false⟩) := ⟨by rw [ansN_none, HT.out]; rfl⟩
                              have r0 := hSHx.r0; have r1 := hSHx.r1; have r2 := hSHx.r2; have r3 := hSHx.r3; have r4 := hSHx.r4; have rf := hSHx.rf
                              have n0 := hNBx.n0; have n1 := hNBx.n1; have n2 := hNBx.n2; have n3 := hNBx.n3; have n4 := hNBx.n4
                              obtain ⟨k0, k1, k2, k3, k4, kb⟩ := hSHx.set (.int .i64 2) (.bool false) (.string ⟨#[]⟩) (.string ⟨#[]⟩) (.bool false)
                              have HP : Keep (ShowPost sum path ts there text width w (.returned (.agg #[.int .i64 2, .bool false, .string ⟨#[]⟩, .string ⟨#[]⟩, .bool false])) (set5 wx rs (.int .i64 2) (.bool false) (.string ⟨#[]⟩) (.string ⟨#[]⟩) (.bool false))) := ⟨HANS.out ⟨2, false, false⟩ _ (by rw [HSB.out, HF.out, HO.out]; exact HOA.out) kb⟩
                              unfold set5 at k0 k1 k2 k3 k4 HP
                              clear kb hSHx hNBx
                              go_wp2
                              refine bodyPost_ret (v := .agg #[.int .i64 2, .bool false, .string ⟨#[]⟩, .string ⟨#[]⟩, .bool false]) ?_ rfl HP.out
                              go_light
                              simp [results, Tryd.results5, go_sem, k0, k1, k2, k3, k4]
                        · have hni : ¬ (k : Int) + 1 < ps.length := by omega
                          have hnd : decide ((k : Int) + 1 < ps.length) = false := by simpa using hni
                          by_cases hmo : k + 1 < ts.length
                          · have hmi : (k : Int) + 1 < ts.length := by omega
                            have hmd : decide ((k : Int) + 1 < ts.length) = true := by simpa using hmi
                            have hmx : k + 1 < xs.length := HMX.out.2 hmo
                            clear HKD
                            have r0 := hSHx.r0; have r1 := hSHx.r1; have r2 := hSHx.r2; have r3 := hSHx.r3; have r4 := hSHx.r4; have rf := hSHx.rf
                            have n0 := hNBx.n0; have n1 := hNBx.n1; have n2 := hNBx.n2; have n3 := hNBx.n3; have n4 := hNBx.n4
                            obtain ⟨k0, k1, k2, k3, k4, kb⟩ := hSHx.set (.int .i64 2) (.bool false) (.string ⟨#[]⟩) (.string ⟨#[]⟩) (.bool false)
                            have HP : Keep (ShowPost sum path ts there text width w (.returned (.agg #[.int .i64 2, .bool false, .string ⟨#[]⟩, .string ⟨#[]⟩, .bool false])) (set5 wx rs (.int .i64 2) (.bool false) (.string ⟨#[]⟩) (.string ⟨#[]⟩) (.bool false))) := ⟨HANS.out ⟨2, false, false⟩ _ (by rw [HSB.out, HF.out, fw_last hkx hkp (by omega), if_pos hmx]; rfl) kb⟩
                            unfold set5 at k0 k1 k2 k3 k4 HP
                            clear kb hSHx hNBx
                            go_wp2
                            refine bodyPost_ret (v := .agg #[.int .i64 2, .bool false, .string ⟨#[]⟩, .string ⟨#[]⟩, .bool false]) ?_ rfl HP.out
                            go_light
                            simp [results, Tryd.results5, go_sem, k0, k1, k2, k3, k4]
                          · have hmi : ¬ (k : Int) + 1 < ts.length := by omega
                            have hmd : decide ((k : Int) + 1 < ts.length) = false := by simpa using hmi
                            have hmx : ¬ k + 1 < xs.length := fun h => hmo (HMX.out.1 h)
                            by_cases h102 : kd = 102
                            · subst h102
                              obtain ⟨l, hl1, hl2, hl3⟩ : ∃ l, lk xs[k].ds ps[k] = some l ∧ l.kind = 102 ∧ Keep (dg = l.dig) := by
                                rcases HKD.out with ⟨l, h1, h2, h3⟩ | ⟨h1, h2⟩
                                · exact ⟨l, h1, by
                                    have h4 : l.kind.toNat = 102 := by omega
                                    exact UInt8.toNat_inj.1 h4, ⟨h3⟩⟩
                                · omega
                              have hlf : isFd l = true := by unfold isFd; rw [hl2]; rfl
                              have HO : Keep (fw ((plainD xs).drop k) (ps.drop k) = some (some l)) := ⟨by rw [fw_last hkx hkp (by omega), if_neg hmx, hl1]⟩
                              clear HKD
                              have HFZ : Keep ((ffB ++ text).size ≤ maxLen) := ⟨by
                                have h5 : ffB.size = 5 := rfl
                                have h6 := HTZ.out
                                simp only [ByteArray.size_append, h5]
                                unfold maxLen
                                omega⟩
                              obtain ⟨S1, hS1⟩ : ∃ x, x = sumStr (ffB ++ text).data.toList wd := ⟨_, rfl⟩
                              obtain ⟨H, hH⟩ : ∃ H, H = lnB (hexL S1.data.toList) := ⟨_, rfl⟩
                              have HE : Keep ((H.toList == dg.toList) = (hexL (sumStr (ffB ++ text).data.toList wd).data.toList == l.dig.data.toList)) := ⟨by rw [hH, toL, lnB_list, hl3.out, toL, hS1]⟩
                              have HCs : Keep (∀ x : Later wx, Calls Tryd.prog 14 #[.string (ffB ++ text), .int .i64 width] x.world fun e w'' => e = .returned (.string S1) ∧ ∃ y : Later wx, w'' = y.world) := ⟨fun x => x.call (by rw [HW.out, hS1]; exact specSum_any _ wd _ HFZ.out hw1 hw8)⟩
                              have HCh : Keep (∀ x : Later wx, Calls Tryd.prog 17 #[.string S1] x.world fun e w'' => e = .returned (.string H) ∧ ∃ y : Later wx, w'' = y.world) := ⟨fun x => x.call (by rw [hH]; exact l9Hex_any _ _ (by rw [hS1, sumStr_size]; omega))⟩
                              have P1 : ∀ x : Later wx, x.world.cell? ⟨pb, 1, none⟩ = some (.bool true) := fun x => by rw [← HT.out]; exact (hSHx.later x.kept).p1
                              have P2 : ∀ x : Later wx, x.world.cell? ⟨pb, 2, none⟩ = some (.string text) := fun x => (hSHx.later x.kept).p2
                              have D2 : ∀ x : Later wx, x.world.cell? ⟨fb, 2, none⟩ = some (.string dg) := fun x => cell_later x.kept b2
                              unfold ffB at HCs
                              clear hS1 hH
                              cases hhx : (H.toList == dg.toList) with
                              | true =>
                                go_upto_region 29 with fail
                                clear p0 p1 p2
                                (haveI := later_any; refine wp_region_later (by kernel_rfl) (by kernel_rfl) ?_; (repeat (go_big_quiet_step (first | (go_at_call 14; exact HCs.out _) | (go_at_call 17; exact HCh.out _)))); refine wpQuiet_nil ?_; intro _ hwq; obtain ⟨xq, hwq2⟩ := hwq; subst hwq2)
                                replace hSHx := hSHx.later xq.kept
                                have B0 := cell_later xq.kept b0
                                have p2 := hSHx.p2
                                clear P1 P2 D2 HCs HCh b0 b2
                                have r0 := hSHx.r0; have r1 := hSHx.r1; have r2 := hSHx.r2; have r3 := hSHx.r3; have r4 := hSHx.r4; have rf := hSHx.rf
                                obtain ⟨k0, k1, k2, k3, k4, kb⟩ := hSHx.set (.int .i64 0) (.bool true) (.string path) (.string text) (.bool false)
                                have HP : Keep (ShowPost sum path ts there text width w (.returned (.agg #[.int .i64 0, .bool true, .string path, .string text, .bool false])) (set5 xq.world rs (.int .i64 0) (.bool true) (.string path) (.string text) (.bool false))) := ⟨HANS.out ⟨0, true, false⟩ _ (by rw [HSB.out, HF.out, HO.out, ansF_yes HT.out hlf (by rw [← HE.out]; exact hhx), hl2]; rfl) kb⟩
                                unfold set5 at k0 k1 k2 k3 k4 HP
                                clear kb hSHx
                                go_wp2
                                refine bodyPost_ret (v := .agg #[.int .i64 0, .bool true, .string path, .string text, .bool false]) ?_ rfl HP.out
                                go_light
                                simp [results, Tryd.results5, go_sem, k0, k1, k2, k3, k4]
                              | false =>
                                go_upto_region 29 with fail
                                clear p0 p1 p2
                                (haveI := later_any; refine wp_region_later (by kernel_rfl) (by kernel_rfl) ?_; (repeat (go_big_quiet_step (first | (go_at_call 14; exact HCs.out _) | (go_at_call 17; exact HCh.out _)))); refine wpQuiet_nil ?_; intro _ hwq; obtain ⟨xq, hwq2⟩ := hwq; subst hwq2)
                                replace hSHx := hSHx.later xq.kept
                                replace hNBx := hNBx.later xq.kept
                                clear P1 P2 D2 HCs HCh b0 b2
                                have r0 := hSHx.r0; have r1 := hSHx.r1; have r2 := hSHx.r2; have r3 := hSHx.r3; have r4 := hSHx.r4; have rf := hSHx.rf
                                have n0 := hNBx.n0; have n1 := hNBx.n1; have n2 := hNBx.n2; have n3 := hNBx.n3; have n4 := hNBx.n4
                                obtain ⟨k0, k1, k2, k3, k4, kb⟩ := hSHx.set (.int .i64 2) (.bool false) (.string ⟨#[]⟩) (.string ⟨#[]⟩) (.bool false)
                                have HP : Keep (ShowPost sum path ts there text width w (.returned (.agg #[.int .i64 2, .bool false, .string ⟨#[]⟩, .string ⟨#[]⟩, .bool false])) (set5 xq.world rs (.int .i64 2) (.bool false) (.string ⟨#[]⟩) (.string ⟨#[]⟩) (.bool false))) := ⟨HANS.out ⟨2, false, false⟩ _ (by rw [HSB.out, HF.out, HO.out, ansF_bad hlf (by rw [← HE.out]; exact hhx)]) kb⟩
                                unfold set5 at k0 k1 k2 k3 k4 HP
                                clear kb hSHx hNBx
                                go_wp2
                                refine bodyPost_ret (v := .agg #[.int .i64 2, .bool false, .string ⟨#[]⟩, .string ⟨#[]⟩, .bool false]) ?_ rfl HP.out
                                go_light
                                simp [results, Tryd.results5, go_sem, k0, k1, k2, k3, k4]
                            by_cases h120 : kd = 120
                            · subst h120
                              obtain ⟨l, hl1, hl2, hl3⟩ : ∃ l, lk xs[k].ds ps[k] = some l ∧ l.kind = 120 ∧ Keep (dg = l.dig) := by
                                rcases HKD.out with ⟨l, h1, h2, h3⟩ | ⟨h1, h2⟩
                                · exact ⟨l, h1, by
                                    have h4 : l.kind.toNat = 120 := by omega
                                    exact UInt8.toNat_inj.1 h4, ⟨h3⟩⟩
                                · omega
                              have hlf : isFd l = true := by unfold isFd; rw [hl2]; rfl
                              have HO : Keep (fw ((plainD xs).drop k) (ps.drop k) = some (some l)) := ⟨by rw [fw_last hkx hkp (by omega), if_neg hmx, hl1]⟩
                              clear HKD
                              have HFZ : Keep ((ffB ++ text).size ≤ maxLen) := ⟨by
                                have h5 : ffB.size = 5 := rfl
                                have h6 := HTZ.out
                                simp only [ByteArray.size_append, h5]
                                unfold maxLen
                                omega⟩
                              obtain ⟨S1, hS1⟩ : ∃ x, x = sumStr (ffB ++ text).data.toList wd := ⟨_, rfl⟩
                              obtain ⟨H, hH⟩ : ∃ H, H = lnB (hexL S1.data.toList) := ⟨_, rfl⟩
                              have HE : Keep ((H.toList == dg.toList) = (hexL (sumStr (ffB ++ text).data.toList wd).data.toList == l.dig.data.toList)) := ⟨by rw [hH, toL, lnB_list, hl3.out, toL, hS1]⟩
                              have HCs : Keep (∀ x : Later wx, Calls Tryd.prog 14 #[.string (ffB ++ text), .int .i64 width] x.world fun e w'' => e = .returned (.string S1) ∧ ∃ y : Later wx, w'' = y.world) := ⟨fun x => x.call (by rw [HW.out, hS1]; exact specSum_any _ wd _ HFZ.out hw1 hw8)⟩
                              have HCh : Keep (∀ x : Later wx, Calls Tryd.prog 17 #[.string S1] x.world fun e w'' => e = .returned (.string H) ∧ ∃ y : Later wx, w'' = y.world) := ⟨fun x => x.call (by rw [hH]; exact l9Hex_any _ _ (by rw [hS1, sumStr_size]; omega))⟩
                              have P1 : ∀ x : Later wx, x.world.cell? ⟨pb, 1, none⟩ = some (.bool true) := fun x => by rw [← HT.out]; exact (hSHx.later x.kept).p1
                              have P2 : ∀ x : Later wx, x.world.cell? ⟨pb, 2, none⟩ = some (.string text) := fun x => (hSHx.later x.kept).p2
                              have D2 : ∀ x : Later wx, x.world.cell? ⟨fb, 2, none⟩ = some (.string dg) := fun x => cell_later x.kept b2
                              unfold ffB at HCs
                              clear hS1 hH
                              cases hhx : (H.toList == dg.toList) with
                              | true =>
                                go_upto_region 29 with fail
                                clear p0 p1 p2
                                (haveI := later_any; refine wp_region_later (by kernel_rfl) (by kernel_rfl) ?_; (repeat (go_big_quiet_step (first | (go_at_call 14; exact HCs.out _) | (go_at_call 17; exact HCh.out _)))); refine wpQuiet_nil ?_; intro _ hwq; obtain ⟨xq, hwq2⟩ := hwq; subst hwq2)
                                replace hSHx := hSHx.later xq.kept
                                have B0 := cell_later xq.kept b0
                                have p2 := hSHx.p2
                                clear P1 P2 D2 HCs HCh b0 b2
                                have r0 := hSHx.r0; have r1 := hSHx.r1; have r2 := hSHx.r2; have r3 := hSHx.r3; have r4 := hSHx.r4; have rf := hSHx.rf
                                obtain ⟨k0, k1, k2, k3, k4, kb⟩ := hSHx.set (.int .i64 0) (.bool true) (.string path) (.string text) (.bool true)
                                have HP : Keep (ShowPost sum path ts there text width w (.returned (.agg #[.int .i64 0, .bool true, .string path, .string text, .bool true])) (set5 xq.world rs (.int .i64 0) (.bool true) (.string path) (.string text) (.bool true))) := ⟨HANS.out ⟨0, true, true⟩ _ (by rw [HSB.out, HF.out, HO.out, ansF_yes HT.out hlf (by rw [← HE.out]; exact hhx), hl2]; rfl) kb⟩
                                unfold set5 at k0 k1 k2 k3 k4 HP
                                clear kb hSHx
                                go_wp2
                                refine bodyPost_ret (v := .agg #[.int .i64 0, .bool true, .string path, .string text, .bool true]) ?_ rfl HP.out
                                go_light
                                simp [results, Tryd.results5, go_sem, k0, k1, k2, k3, k4]
                              | false =>
                                go_upto_region 29 with fail
                                clear p0 p1 p2
                                (haveI := later_any; refine wp_region_later (by kernel_rfl) (by kernel_rfl) ?_; (repeat (go_big_quiet_step (first | (go_at_call 14; exact HCs.out _) | (go_at_call 17; exact HCh.out _)))); refine wpQuiet_nil ?_; intro _ hwq; obtain ⟨xq, hwq2⟩ := hwq; subst hwq2)
                                replace hSHx := hSHx.later xq.kept
                                replace hNBx := hNBx.later xq.kept
                                clear P1 P2 D2 HCs HCh b0 b2
                                have r0 := hSHx.r0; have r1 := hSHx.r1; have r2 := hSHx.r2; have r3 := hSHx.r3; have r4 := hSHx.r4; have rf := hSHx.rf
                                have n0 := hNBx.n0; have n1 := hNBx.n1; have n2 := hNBx.n2; have n3 := hNBx.n3; have n4 := hNBx.n4
                                obtain ⟨k0, k1, k2, k3, k4, kb⟩ := hSHx.set (.int .i64 2) (.bool false) (.string ⟨#[]⟩) (.string ⟨#[]⟩) (.bool false)
                                have HP : Keep (ShowPost sum path ts there text width w (.returned (.agg #[.int .i64 2, .bool false, .string ⟨#[]⟩, .string ⟨#[]⟩, .bool false])) (set5 xq.world rs (.int .i64 2) (.bool false) (.string ⟨#[]⟩) (.string ⟨#[]⟩) (.bool false))) := ⟨HANS.out ⟨2, false, false⟩ _ (by rw [HSB.out, HF.out, HO.out, ansF_bad hlf (by rw [← HE.out]; exact hhx)]) kb⟩
                                unfold set5 at k0 k1 k2 k3 k4 HP
                                clear kb hSHx hNBx
                                go_wp2
                                refine bodyPost_ret (v := .agg #[.int .i64 2, .bool false, .string ⟨#[]⟩, .string ⟨#[]⟩, .bool false]) ?_ rfl HP.out
                                go_light
                                simp [results, Tryd.results5, go_sem, k0, k1, k2, k3, k4]
                            have HOA : Keep (ansOf there text wd (some (lk xs[k].ds ps[k])) = ⟨2, false, false⟩) := ⟨by
                              rcases HKD.out with ⟨l, h1, h2, h3⟩ | ⟨h1, h2⟩
                              · rw [h1, ansN_some (by
                                  unfold isFd
                                  rw [Bool.or_eq_false_iff]
                                  constructor
                                  · rw [Bool.eq_false_iff]; intro h; rw [beq_iff_eq] at h; rw [h] at h2; exact h102 h2
                                  · rw [Bool.eq_false_iff]; intro h; rw [beq_iff_eq] at h; rw [h] at h2; exact h120 h2), HT.out]; rfl
                              · rw [h1, ansN_none, HT.out]; rfl⟩
                            have HO : Keep (fw ((plainD xs).drop k) (ps.drop k) = some (lk xs[k].ds ps[k])) := ⟨by rw [fw_last hkx hkp (by omega), if_neg hmx]⟩
                            have c1 : (kd == 102) = false := by simpa using h102
                            have c2 : (kd == 120) = false := by simpa using h120
                            have c3 : (kd != 102) = true := by simpa using h102
                            have c4 : (kd != 120) = true := by simpa using h120
                            clear HKD h102 h120
                            go_upto_region 25 with fail
                            go_upto_region 26 with fail
                            have r0 := hSHx.r0; have r1 := hSHx.r1; have r2 := hSHx.r2; have r3 := hSHx.r3; have r4 := hSHx.r4; have rf := hSHx.rf
                            have n0 := hNBx.n0; have n1 := hNBx.n1; have n2 := hNBx.n2; have n3 := hNBx.n3; have n4 := hNBx.n4
                            obtain ⟨k0, k1, k2, k3, k4, kb⟩ := hSHx.set (.int .i64 2) (.bool false) (.string ⟨#[]⟩) (.string ⟨#[]⟩) (.bool false)
                            have HP : Keep (ShowPost sum path ts there text width w (.returned (.agg #[.int .i64 2, .bool false, .string ⟨#[]⟩, .string ⟨#[]⟩, .bool false])) (set5 wx rs (.int .i64 2) (.bool false) (.string ⟨#[]⟩) (.string ⟨#[]⟩) (.bool false))) := ⟨HANS.out ⟨2, false, false⟩ _ (by rw [HSB.out, HF.out, HO.out]; exact HOA.out) kb⟩
                            unfold set5 at k0 k1 k2 k3 k4 HP
                            clear kb hSHx hNBx
                            go_wp2
                            refine bodyPost_ret (v := .agg #[.int .i64 2, .bool false, .string ⟨#[]⟩, .string ⟨#[]⟩, .bool false]) ?_ rfl HP.out
                            go_light
                            simp [results, Tryd.results5, go_sem, k0, k1, k2, k3, k4]
            · have HT : Keep (there = false) := ⟨hth⟩
              rw [hth] at p1
              have hem1 : (text.toList == []) = true := by simp [hem]
              have hem2 : text.toList.isEmpty = true := by simp [hem]
              clear hth
              go_wp2
              have hal1 := belowS_one w1 (.cells #[] 40)
              have hown0 : (w1.alloc (.cells #[] 40)).ownsRow w1.heap.size 40 1 (.slice (some ⟨w1.heap.size, 0, none⟩) 0 0) 0 [] := ⟨by simp, .inr ⟨w1.heap.size, 0, #[], rfl, Nat.le_refl _, heap_alloc_new w1 _, Nat.le_refl _, by unfold maxLen; omega, rfl, by simp⟩⟩
              obtain ⟨i0, hi, hz0, hz1, hz2⟩ := info_parts Tryd.infoLL
              go_loopw [9, 10] (fun v i wr => ∃ (k : Nat) (xs : List SD) (vs : List Value), k ≤ ts.length ∧ i = .int .i64 k ∧ Keep (xs.length = k) ∧ Keep (vs.length = k) ∧ Keep (VsOk xs vs) ∧ Keep (∀ (i : Nat) t, i < k → ts[i]? = some t → ∃ x, xs[i]? = some x ∧ DirOf wd t x) ∧ Keep (∀ x ∈ xs, LineAt x wr) ∧ wr.ownsRow w1.heap.size 40 1 v k vs ∧ Below w1.heap.size w1 wr) (fun _ i _ => ts.length - (intOf i).toNat)
              case atStart => exact ⟨0, [], [], Nat.zero_le _, rfl, ⟨rfl⟩, ⟨rfl⟩, ⟨fun i x h => by simp at h⟩, ⟨fun i t h => absurd h (Nat.not_lt_zero _)⟩, ⟨fun x hx => absurd hx (by simp)⟩, hown0, hal1⟩
              case round =>
                obtain ⟨k, xs, vs, hk, rfl, HXL, HVL, HVS, HD, HM, hrow, hb⟩ := hrel
                have P0 := cell_later hb p0; have P1 := cell_later hb p1; have P2 := cell_later hb p2
                clear p0 p1 p2 hal1 hown0
                by_cases hlt : k < ts.length
                · obtain ⟨b', off, rfl, hc⟩ := hss.at hlt
                  have hck : wr.cell? ⟨b', off + k, none⟩ = some (.string ts[k]) := cell_later (hSH.bw.trans (hb.mono hSH.bw.size)) (hc k hlt)
                  have hsz := hm ts[k] (List.getElem_mem hlt)
                  have hcall : Calls Tryd.prog 13 #[.string ts[k], .int .i64 width] wr fun e w' => ReadPost ts[k] wd wr e w' := by rw [HW.out]; exact l9Read_any ts[k] wd wr hsz hw1 hw8
                  clear hc
                  go_wp2_with fail
                  refine hcall.mono ?_
                  rintro e w2 ⟨hb2, hpost⟩
                  replace hck := cell_later hb2 hck
                  replace P0 := cell_later hb2 P0
                  have hrow2 := row_laterD hb2 hrow
                  have HM2 : Keep (∀ x ∈ xs, LineAt x w2) := ⟨fun x hx => (HM.out x hx).later hb2⟩
                  clear HM P1 P2 hcall
                  have hbb := hb.trans (hb2.mono hb.size)
                  have hSHx := hSH.later hbb
                  rcases hpost with ⟨ds, ad, cp, d1, rfl, d3, d4⟩ | ⟨hno, ad, n, cp, rfl⟩
                  · obtain ⟨mb, rfl⟩ : ∃ mb, ad = some ⟨mb, 0, none⟩ := by
                      rcases d3.2 with ⟨h, _⟩ | ⟨g, _, _, h, _⟩
                      · injection h with h; exact absurd h d4
                      · injection h with h; exact ⟨g, h⟩
                    clear d4
                    by_cases h8 : (8000 : Int) < ts[k].size
                    · have HNO : Keep (∀ x, ¬ DirOf wd ts[k] x) := ⟨fun x hx => by have := hx.1; omega⟩
                      clear d3 d1
                      have r0 := hSHx.r0; have r1 := hSHx.r1; have r2 := hSHx.r2; have r3 := hSHx.r3; have r4 := hSHx.r4; have rf := hSHx.rf
                      obtain ⟨k0, k1, k2, k3, k4, kb⟩ := hSHx.set (.int .i64 1) (.bool false) (.string ⟨#[]⟩) (.string ⟨#[]⟩) (.bool false)
                      have HP : Keep (ShowPost sum path ts there text width w (.returned (.agg #[.int .i64 1, .bool false, .string ⟨#[]⟩, .string ⟨#[]⟩, .bool false])) (set5 w2 rs (.int .i64 1) (.bool false) (.string ⟨#[]⟩) (.string ⟨#[]⟩) (.bool false))) := ⟨HBAD.out 1 (fun _ wd' X g => by have e : wd = wd' := (by have h1 := g.width; have h2 := HW.out; omega); subst e; exact dirs_not (List.getElem_mem hlt) HNO.out X g.dirs) (fun h => by cases h) (.inl rfl) _ kb⟩
                      unfold set5 at k0 k1 k2 k3 k4 HP
                      clear kb hSHx
                      go_wp2
                      refine bodyPost_ret (v := .agg #[.int .i64 1, .bool false, .string ⟨#[]⟩, .string ⟨#[]⟩, .bool false]) ?_ rfl HP.out
                      go_light
                      simp [results, Tryd.results5, go_sem, k0, k1, k2, k3, k4]
                    · have HDO : Keep (DirOf wd ts[k] ⟨ds, sumStr ts[k].data.toList wd, mb⟩) := ⟨by omega, d1, rfl⟩
                      have HD2 : Keep (∀ (i : Nat) t, i < k + 1 → ts[i]? = some t → ∃ x, (xs ++ [⟨ds, sumStr ts[k].data.toList wd, mb⟩])[i]? = some x ∧ DirOf wd t x) := ⟨DirOfs.push HD.out hlt HXL.out HDO.out⟩
                      have HM3 : Keep (∀ x ∈ xs ++ [⟨ds, sumStr ts[k].data.toList wd, mb⟩], LineAt x w2) := ⟨fun x hx => by
                        rcases List.mem_append.1 hx with hx | hx
                        · exact HM2.out x hx
                        · simp only [List.mem_singleton] at hx
                          subst hx
                          exact ⟨_, _, d3⟩⟩
                      have HV2 : Keep (VsOk (xs ++ [⟨ds, sumStr ts[k].data.toList wd, mb⟩]) (vs ++ [.slice (some ⟨mb, 0, none⟩) ds.length cp])) := ⟨HVS.out.push (by rw [HXL.out, HVL.out]) ⟨ds, sumStr ts[k].data.toList wd, mb⟩ cp⟩
                      have HX2 : Keep ((xs ++ [(⟨ds, sumStr ts[k].data.toList wd, mb⟩ : SD)]).length = k + 1 ∧ (vs ++ [Value.slice (some ⟨mb, 0, none⟩) ds.length cp]).length = k + 1) := ⟨by simp [HXL.out], by simp [HVL.out]⟩
                      have hws := hbb.size
                      clear HDO HD HM2 HVS HXL d1 d3 hSHx hb2 hb hrow
                      generalize sumStr ts[k].data.toList wd = S at *
                      go_wp2_with (at_builtin; refine wpList_append_own _ rfl _ _ 39 rfl w1.heap.size 40 i0 _ 1 24 Tryd.underlying39 hi hz0 hz1 hz2 rfl (by decide) _ _ _ rfl (hrow2.alloc _) ⟨w2.heap.size, 0, none⟩ 1 1 [.slice (some ⟨mb, 0, none⟩) ds.length cp] rfl rfl (cell_one_new _ _ _) (by simp [Value.oneCell']) (by unfold maxLen; omega) (by omega) (by simp; omega) ?_; intro v4 w4 ho4 hg4 _)
                      have hb3 := hbb.alloc (o := .cells #[.slice (some ⟨mb, 0, none⟩) ds.length cp] 40) hws
                      go_roundw
                      case rel =>
                        refine ⟨k + 1, xs ++ [⟨ds, S, mb⟩], vs ++ [.slice (some ⟨mb, 0, none⟩) ds.length cp], by omega, by go_num, ⟨HX2.out.1⟩, ⟨HX2.out.2⟩, HV2, HD2, ⟨fun x hx => ?_⟩, ho4, hb3.grown hg4 hb3.size (fun j e => owns_base hrow2 j e)⟩
                        refine ((HM3.out x hx).later (belowS_one w2 _)).kept hg4 (fun g e => ?_)
                        have hlt2 := (hrow2.lt g e).2
                        obtain ⟨cur, hcu⟩ := row_block hrow2 e
                        exact ⟨cur, (Below.heap_alloc _ _ _ hlt2).trans hcu⟩
                      case measure => simp [intOf]; omega
                  · have HNO : Keep (∀ x, ¬ DirOf wd ts[k] x) := ⟨fun x hx => hno _ hx.2.1⟩
                    clear hno
                    have r0 := hSHx.r0; have r1 := hSHx.r1; have r2 := hSHx.r2; have r3 := hSHx.r3; have r4 := hSHx.r4; have rf := hSHx.rf
                    obtain ⟨k0, k1, k2, k3, k4, kb⟩ := hSHx.set (.int .i64 1) (.bool false) (.string ⟨#[]⟩) (.string ⟨#[]⟩) (.bool false)
                    have HP : Keep (ShowPost sum path ts there text width w (.returned (.agg #[.int .i64 1, .bool false, .string ⟨#[]⟩, .string ⟨#[]⟩, .bool false])) (set5 w2 rs (.int .i64 1) (.bool false) (.string ⟨#[]⟩) (.string ⟨#[]⟩) (.bool false))) := ⟨HBAD.out 1 (fun _ wd' X g => by have e : wd = wd' := (by have h1 := g.width; have h2 := HW.out; omega); subst e; exact dirs_not (List.getElem_mem hlt) HNO.out X g.dirs) (fun h => by cases h) (.inl rfl) _ kb⟩
                    unfold set5 at k0 k1 k2 k3 k4 HP
                    clear kb hSHx
                    go_wp2
                    refine bodyPost_ret (v := .agg #[.int .i64 1, .bool false, .string ⟨#[]⟩, .string ⟨#[]⟩, .bool false]) ?_ rfl HP.out
                    go_light
                    simp [results, Tryd.results5, go_sem, k0, k1, k2, k3, k4]
                · obtain rfl : k = ts.length := by omega
                  obtain ⟨hl1, hl7⟩ := HLN.out
                  obtain ⟨ad, cv, rfl⟩ := owns_slice hrow
                  obtain ⟨gb, rfl⟩ : ∃ gb, ad = some ⟨gb, 0, none⟩ := by
                    rcases hrow.2 with ⟨_, h1⟩ | ⟨g, c, cur, hv, _⟩
                    · omega
                    · injection hv with hv; exact ⟨g, hv⟩
                  have HDS : Keep (∀ (i : Nat) t, ts[i]? = some t → ∃ x, xs[i]? = some x ∧ DirOf wd t x) := ⟨fun i t h => HD.out i t (List.getElem?_eq_some_iff.1 h).1 h⟩
                  have HG : Keep (GoodS path ts there text width wd (plainD xs)) := ⟨⟨hvp, HW.out, hw1, hw8, HFL.out, (fun e => by rw [e] at hl1; simp at hl1), hl7, dirs_of HXL.out HDS.out⟩⟩
                  have HSUM : Keep (∀ i (h : i < ts.length) (h' : i < xs.length), xs[i].sum = sumStr ts[i].data.toList wd) := ⟨fun i h h' => by
                    obtain ⟨x, h1, h2⟩ := HDS.out i _ (List.getElem?_eq_getElem h)
                    rw [List.getElem?_eq_getElem h'] at h1
                    injection h1 with h1
                    rw [h1]
                    exact h2.2.2⟩
                  have HSA : Keep (∀ b : Bool, ((sumStr ts[0].data.toList wd).toList == sum.toList) = b → shA sum path there text wd (plainD xs) = if b = true then ansOf there text wd (fw (plainD xs) (partsB path)) else ⟨2, false, false⟩) := ⟨fun b hb => by
                    have h0 : 0 < xs.length := by rw [HXL.out]; omega
                    have e := drop_X (xs := xs) (k := 0) h0
                    rw [List.drop_zero, HSUM.out 0 (by omega) h0] at e
                    unfold shA
                    rw [e]
                    dsimp only
                    rw [hb, ← e]⟩
                  obtain ⟨b', off, rfl, hc⟩ := hss.at (k := 0) (by omega)
                  have hWr := hSH.bw.trans (hb.mono hSH.bw.size)
                  have hts : ∀ i (h : i < ts.length), wr.cell? ⟨b', off + i, none⟩ = some (.string ts[i]) := fun i h => cell_later hWr (hc i h)
                  have hSHr := hSH.later hb
                  have HCL : Keep (∀ i (h : i < xs.length), ∃ cp : Nat, wr.cell? ⟨gb, i, none⟩ = some (.slice (some ⟨xs[i].mb, 0, none⟩) xs[i].ds.length cp)) := ⟨fun i h => by
                    obtain ⟨cp, e⟩ := HVS.out i _ (List.getElem?_eq_getElem h)
                    exact ⟨cp, by rw [← e]; exact hrow.cellAt i (by rw [HXL.out] at h; omega)⟩⟩
                  clear hSH HD HVS HVL hc hss HLN hlt hk hrow hb hWr
                  go_upto_region 12 with fail
                  have hal2 := belowS_one wr (.cells #[.int .i64 2, .bool false, .string ⟨#[]⟩, .string ⟨#[]⟩, .bool false] 29)
                  have hNB : NBx wr.heap.size 2 (wr.alloc (.cells #[.int .i64 2, .bool false, .string ⟨#[]⟩, .string ⟨#[]⟩, .bool false] 29)) := ⟨by simp, by simp, by simp, by simp, by simp⟩
                  replace hSHr := hSHr.later hal2
                  replace hts : ∀ i (h : i < ts.length), (wr.alloc (.cells #[.int .i64 2, .bool false, .string ⟨#[]⟩, .string ⟨#[]⟩, .bool false] 29)).cell? ⟨b', off + i, none⟩ = some (.string ts[i]) := fun i h => cell_later hal2 (hts i h)
                  have HL3 : Keep (∀ x ∈ xs, LineAt x (wr.alloc (.cells #[.int .i64 2, .bool false, .string ⟨#[]⟩, .string ⟨#[]⟩, .bool false] 29))) := ⟨fun x hx => (HM.out x hx).later hal2⟩
                  have HC3 : Keep (∀ i (h : i < xs.length), ∃ cp : Nat, (wr.alloc (.cells #[.int .i64 2, .bool false, .string ⟨#[]⟩, .string ⟨#[]⟩, .bool false] 29)).cell? ⟨gb, i, none⟩ = some (.slice (some ⟨xs[i].mb, 0, none⟩) xs[i].ds.length cp)) := ⟨fun i h => by obtain ⟨cp, e⟩ := HCL.out i h; exact ⟨cp, cell_later hal2 e⟩⟩
                  clear HM HCL P0 P1 P2 hal2
                  generalize wr.alloc (.cells #[.int .i64 2, .bool false, .string ⟨#[]⟩, .string ⟨#[]⟩, .bool false] 29) = W3 at *
                  generalize wr.heap.size = nb at *
                  have HANS : Keep (∀ o W', shA sum path there text wd (plainD xs) = o → Below w.heap.size w W' → ShowPost sum path ts there text width w (.returned (shV path text o)) W') := ⟨fun o W' h hb => ⟨o, .inr ⟨wd, plainD xs, HG.out, h.symm⟩, rfl, hb⟩⟩
                  have HLE : Keep (∀ i (h : i < xs.length), xs[i].ds.length ≤ 1048576) := ⟨fun i h => by
                    have h' : i < ts.length := by rw [HXL.out] at h; exact h
                    obtain ⟨x, h1, h2⟩ := HDS.out i _ (List.getElem?_eq_getElem h')
                    rw [List.getElem?_eq_getElem h] at h1
                    injection h1 with h1
                    subst h1
                    have h3 := h2.2.1.len
                    have h4 := linesL_le ts[i].data.toList
                    have h5 := h2.1
                    rw [← Lib.size_eq] at h4
                    omega⟩
                  obtain ⟨S0, hS0⟩ : ∃ x, x = sumStr ts[0].data.toList wd := ⟨_, rfl⟩
                  have hsum : Calls Tryd.prog 14 #[.string ts[0], .int .i64 width] W3 fun e w' => e = .returned (.string S0) ∧ Below W3.heap.size W3 w' := by rw [HW.out, hS0]; exact specSum_any ts[0] wd W3 (by have := hm ts[0] (List.getElem_mem (by omega)); unfold maxLen; omega) hw1 hw8
                  rw [← hS0] at HSA
                  clear hS0
                  have t0 : W3.cell? ⟨b', off, none⟩ = some (.string ts[0]) := hts 0 (by omega)
                  have P0 := hSHr.p0
                  go_wp2_with fail
                  refine hsum.mono ?_
                  rintro e w4 ⟨rfl, hb4⟩
                  clear t0 P0 hsum
                  replace hSHr := hSHr.later hb4
                  replace hNB := hNB.later hb4
                  replace hts : ∀ i (h : i < ts.length), w4.cell? ⟨b', off + i, none⟩ = some (.string ts[i]) := fun i h => cell_later hb4 (hts i h)
                  replace HL3 : Keep (∀ x ∈ xs, LineAt x w4) := ⟨fun x hx => (HL3.out x hx).later hb4⟩
                  replace HC3 : Keep (∀ i (h : i < xs.length), ∃ cp : Nat, w4.cell? ⟨gb, i, none⟩ = some (.slice (some ⟨xs[i].mb, 0, none⟩) xs[i].ds.length cp)) := ⟨fun i h => by obtain ⟨cp, e⟩ := HC3.out i h; exact ⟨cp, cell_later hb4 e⟩⟩
                  clear hb4
                  cases hse : (S0.toList == sum.toList) with
                  | false =>
                    have hSHx := hSHr
                    have hNBx := hNB
                    have r0 := hSHx.r0; have r1 := hSHx.r1; have r2 := hSHx.r2; have r3 := hSHx.r3; have r4 := hSHx.r4; have rf := hSHx.rf
                    have n0 := hNBx.n0; have n1 := hNBx.n1; have n2 := hNBx.n2; have n3 := hNBx.n3; have n4 := hNBx.n4
                    obtain ⟨k0, k1, k2, k3, k4, kb⟩ := hSHx.set (.int .i64 2) (.bool false) (.string ⟨#[]⟩) (.string ⟨#[]⟩) (.bool false)
                    have HP : Keep (ShowPost sum path ts there text width w (.returned (.agg #[.int .i64 2, .bool false, .string ⟨#[]⟩, .string ⟨#[]⟩, .bool false])) (set5 w4 rs (.int .i64 2) (.bool false) (.string ⟨#[]⟩) (.string ⟨#[]⟩) (.bool false))) := ⟨HANS.out ⟨2, false, false⟩ _ (by rw [HSA.out false hse]; rfl) kb⟩
                    unfold set5 at k0 k1 k2 k3 k4 HP
                    clear kb hSHx hNBx
                    go_wp2
                    refine bodyPost_ret (v := .agg #[.int .i64 2, .bool false, .string ⟨#[]⟩, .string ⟨#[]⟩, .bool false]) ?_ rfl HP.out
                    go_light
                    simp [results, Tryd.results5, go_sem, k0, k1, k2, k3, k4]
                  | true =>
                    have HSB : Keep (shA sum path there text wd (plainD xs) = ansOf there text wd (fw (plainD xs) (partsB path))) := ⟨by rw [HSA.out true hse, if_pos rfl]⟩
                    have hprt := l4Parts_any path (Nat.le_trans (pathOk_size hvp) (by omega)) w4
                    clear HSA
                    go_wp2_with fail
                    refine hprt.mono ?_
                    rintro e w5 ⟨ap, cq, rfl, op, hb5⟩
                    clear hprt
                    have hpl : 0 < (partsB path).length := (by rw [partsB_cut]; simp)
                    obtain ⟨bp, rfl, hq⟩ : ∃ bp, ap = some ⟨bp, 0, none⟩ ∧ ∀ i (h : i < (partsB path).length), w5.cell? ⟨bp, i, none⟩ = some (.string (partsB path)[i]) := by
                      obtain ⟨b', e, _⟩ := own_cell op 0 hpl
                      refine ⟨b', e, fun i hi => ?_⟩
                      obtain ⟨b2, e2, h⟩ := own_cell op i hi
                      rw [e] at e2
                      cases e2
                      exact h
                    have hpn : (partsB path).length ≤ 1000001 := Nat.le_trans (partsB_le path) (Nat.le_trans (Nat.succ_le_succ (pathOk_size hvp)) (by omega))
                    clear op
                    obtain ⟨ps, hpe⟩ : ∃ x, partsB path = x := ⟨_, rfl⟩
                    rw [hpe] at HSB
                    have HPE : Keep (partsB path = ps) := ⟨hpe⟩
                    rw [hpe] at hpl
                    rw [hpe] at hpn
                    replace hq : ∀ i (h : i < ps.length), w5.cell? ⟨bp, i, none⟩ = some (.string ps[i]) := by subst hpe; exact hq
                    rw [hpe]
                    clear hpe
                    replace hSHr := hSHr.later hb5
                    replace hNB := hNB.later hb5
                    replace hts : ∀ i (h : i < ts.length), w5.cell? ⟨b', off + i, none⟩ = some (.string ts[i]) := fun i h => cell_later hb5 (hts i h)
                    replace HL3 : Keep (∀ x ∈ xs, LineAt x w5) := ⟨fun x hx => (HL3.out x hx).later hb5⟩
                    replace HC3 : Keep (∀ i (h : i < xs.length), ∃ cp : Nat, w5.cell? ⟨gb, i, none⟩ = some (.slice (some ⟨xs[i].mb, 0, none⟩) xs[i].ds.length cp)) := ⟨fun i h => by obtain ⟨cp, e⟩ := HC3.out i h; exact ⟨cp, cell_later hb5 e⟩⟩
                    clear hb5 hse
                    go_wp2
                    go_loopw [15] (fun i wr => ∃ (k : Nat), k < ps.length ∧ k < ts.length ∧ i = .int .i64 k ∧ Keep (fw (plainD xs) ps = fw ((plainD xs).drop k) (ps.drop k)) ∧ Below w5.heap.size w5 wr) (fun i _ => ps.length - (intOf i).toNat)
                    case atStart => exact ⟨0, hpl, by omega, rfl, ⟨by simp⟩, Below.refl _ _⟩
                    case round =>
                      obtain ⟨k, hkp, hkt, rfl, HF, hbr⟩ := hrel
                      have hkx : k < xs.length := by rw [HXL.out]; exact hkt
                      replace hSHr := hSHr.later hbr
                      replace hNB := hNB.later hbr
                      have htr : ∀ i (h : i < ts.length), wr.cell? ⟨b', off + i, none⟩ = some (.string ts[i]) := fun i h => cell_later hbr (hts i h)
                      obtain ⟨cp, X0⟩ := HC3.out k hkx
                      replace X0 := cell_later hbr X0
                      have Q0 := cell_later hbr (hq k hkp)
                      have hLN := ((HL3.out _ (List.getElem_mem hkx)).later hbr).lsp
                      obtain ⟨kd, nm, dg, hkd, HKD⟩ : ∃ (kd : Int) (nm dg : ByteArray), lkV (lk xs[k].ds ps[k]) = .agg #[.int .u8 kd, .string nm, .string dg] ∧ Keep ((∃ l, lk xs[k].ds ps[k] = some l ∧ kd = l.kind.toNat ∧ dg = l.dig) ∨ (lk xs[k].ds ps[k] = none ∧ kd = 0)) := by
                        cases h : lk xs[k].ds ps[k] with
                        | some l => exact ⟨_, _, _, rfl, ⟨.inl ⟨l, rfl, rfl, rfl⟩⟩⟩
                        | none => exact ⟨0, _, _, rfl, ⟨.inr ⟨rfl, rfl⟩⟩⟩
                      have HFI : Keep (∀ X, Below wr.heap.size wr X → Calls Tryd.prog 16 #[.slice (some ⟨xs[k].mb, 0, none⟩) xs[k].ds.length cp, .string ps[k]] X fun e w' => e = .returned (.agg #[.int .u8 kd, .string nm, .string dg]) ∧ Below X.heap.size X w') := ⟨fun X hX => by rw [← hkd]; exact l9Find_any xs[k].mb cp xs[k].ds ps[k] X (hLN.later hX) (HLE.out k hkx)⟩
                      clear hkd hLN
                      go_upto_region 18 with fail
                      go_cut [16] from 96 to 186 (fun pv wx => CutF (.int .u8 kd) (.string nm) (.string dg) wr pv wx)
                      case first =>
                        refine (wpIn_wide (n := 0)).1 ?_
                        refine wpIn_region_inv0 (by kernel_rfl) (by kernel_rfl) (fun T0 => LV T0 [102, 103, 104, 105, 106, 107, 108, 109, 110, 16, 1000] wr (lTab (.slice (some ⟨gb, 0, none⟩) ts.length cv) k (.pointer (some ⟨gb, k, none⟩)) (.slice (some ⟨xs[k].mb, 0, none⟩) xs[k].ds.length cp) (.slice (some ⟨bp, 0, none⟩) ps.length cq) (.pointer (some ⟨bp, k, none⟩)) ps[k] (.agg #[.int .u8 kd, .string nm, .string dg])) (.int .u8 kd) (.string nm) (.string dg) 16) ?_ ?_ ?_
                        · exact ⟨Sl2.start _, (Below.refl _ _).drew, (fun h => by rw [getD_repl] at h; cases h)⟩
                        · intro L a2 w9 hinv hall
                          obtain ⟨fb, f1, f2, _, f3⟩ := hinv.bx (hall 9 (by decide))
                          replace f3 := f3 (hall 10 (by decide))
                          have HX : Keep _ := ⟨hinv.sl.act⟩
                          have f5 := hinv.wd
                          clear hinv hall
                          rw [HX.out]
                          go_wp2_with fail
                          go_meet
                          case rel => exact ⟨fb, by simpa [Array.getD_eq_getD_getElem?] using evalD2 f1, f3, f2, f5⟩
                        · intro L a2 w9 i o hinv hcl hL ho hdep
                          have hi11 : i < 11 := (Array.getElem?_eq_some_iff.1 ho).1
                          have nd := (by decide : ([102, 103, 104, 105, 106, 107, 108, 109, 110, 16, 1000] : List Nat).Nodup)
                          unfold wpOpIn
                          rw [ho]
                          have c1 := cell_later hinv.wd X0
                          have c2 := cell_later hinv.wd Q0
                          have HC8 := HFI.out w9 hinv.wd
                          have hc10 : L.getD 9 true = false → L.getD 10 false = false := fun h9 => by
                            cases hb : L.getD 10 false with
                            | false => rfl
                            | true =>
                              have h := hcl 10 _ rfl hb ⟨9, .data⟩ (by simp) rfl
                              rw [getD_ft h9] at h
                              cases h
                          clear hcl
                          match i, hi11, hL, ho, hdep with
                          | 0, _, hL, ho, hdep =>
                            injection ho with ho; subst ho
                            dsimp only
                            rw [if_pos (by rfl)]
                            refine ⟨fun f _ => trivial, ?_⟩
                            have e9 : a2.tmps[9]?.getD undef = .slice (some ⟨gb, 0, none⟩) ts.length cv := hinv.sl.old (by decide)
                            go_simp
                            exact hinv.step nd (i := 0) (by decide) (show 102 < 188 by omega) (by decide) (by decide) (by decide) rfl (Below.refl _ _)
                          | 1, _, hL, ho, hdep =>
                            injection ho with ho; subst ho
                            dsimp only
                            rw [if_pos (by rfl)]
                            refine ⟨fun f _ => trivial, ?_⟩
                            have e15 : a2.tmps[15]?.getD undef = .int .i64 k := hinv.sl.old (by decide)
                            go_simp
                            exact hinv.step nd (i := 1) (by decide) (show 103 < 188 by omega) (by decide) (by decide) (by decide) rfl (Below.refl _ _)
                          | 2, _, hL, ho, hdep =>
                            injection ho with ho; subst ho
                            dsimp only
                            rw [if_pos (by rfl)]
                            refine ⟨fun f _ => trivial, ?_⟩
                            have ea0 : a2.tmps[102]?.getD undef = .slice (some ⟨gb, 0, none⟩) ts.length cv := hinv.sl.new (i := 0) (by decide) rfl (hdep ⟨0, .data⟩ (by simp) rfl)
                            have ea1 : a2.tmps[103]?.getD undef = .int .i64 k := hinv.sl.new (i := 1) (by decide) rfl (hdep ⟨1, .data⟩ (by simp) rfl)
                            go_simp
                            exact hinv.step nd (i := 2) (by decide) (show 104 < 188 by omega) (by decide) (by decide) (by decide) rfl (Below.refl _ _)
                          | 3, _, hL, ho, hdep =>
                            injection ho with ho; subst ho
                            dsimp only
                            rw [if_pos (by rfl)]
                            refine ⟨fun f _ => trivial, ?_⟩
                            have ea2 : a2.tmps[104]?.getD undef = .pointer (some ⟨gb, k, none⟩) := hinv.sl.new (i := 2) (by decide) rfl (hdep ⟨2, .data⟩ (by simp) rfl)
                            go_simp
                            exact hinv.step nd (i := 3) (by decide) (show 105 < 188 by omega) (by decide) (by decide) (by decide) rfl (Below.refl _ _)
                          | 4, _, hL, ho, hdep =>
                            injection ho with ho; subst ho
                            dsimp only
                            rw [if_pos (by rfl)]
                            refine ⟨fun f _ => trivial, ?_⟩
                            have e14 : a2.tmps[14]?.getD undef = .slice (some ⟨bp, 0, none⟩) ps.length cq := hinv.sl.old (by decide)
                            go_simp
                            exact hinv.step nd (i := 4) (by decide) (show 106 < 188 by omega) (by decide) (by decide) (by decide) rfl (Below.refl _ _)
                          | 5, _, hL, ho, hdep =>
                            injection ho with ho; subst ho
                            dsimp only
                            rw [if_pos (by rfl)]
                            refine ⟨fun f _ => trivial, ?_⟩
                            have e15 : a2.tmps[15]?.getD undef = .int .i64 k := hinv.sl.old (by decide)
                            go_simp
                            exact hinv.step nd (i := 5) (by decide) (show 107 < 188 by omega) (by decide) (by decide) (by decide) rfl (Below.refl _ _)
                          | 6, _, hL, ho, hdep =>
                            injection ho with ho; subst ho
                            dsimp only
                            rw [if_pos (by rfl)]
                            refine ⟨fun f _ => trivial, ?_⟩
                            have ea4 : a2.tmps[106]?.getD undef = .slice (some ⟨bp, 0, none⟩) ps.length cq := hinv.sl.new (i := 4) (by decide) rfl (hdep ⟨4, .data⟩ (by simp) rfl)
                            have ea5 : a2.tmps[107]?.getD undef = .int .i64 k := hinv.sl.new (i := 5) (by decide) rfl (hdep ⟨5, .data⟩ (by simp) rfl)
                            go_simp
                            exact hinv.step nd (i := 6) (by decide) (show 108 < 188 by omega) (by decide) (by decide) (by decide) rfl (Below.refl _ _)
                          | 7, _, hL, ho, hdep =>
                            injection ho with ho; subst ho
                            dsimp only
                            rw [if_pos (by rfl)]
                            refine ⟨fun f _ => trivial, ?_⟩
                            have ea6 : a2.tmps[108]?.getD undef = .pointer (some ⟨bp, k, none⟩) := hinv.sl.new (i := 6) (by decide) rfl (hdep ⟨6, .data⟩ (by simp) rfl)
                            go_simp
                            exact hinv.step nd (i := 7) (by decide) (show 109 < 188 by omega) (by decide) (by decide) (by decide) rfl (Below.refl _ _)
                          | 8, _, hL, ho, hdep =>
                            injection ho with ho; subst ho
                            dsimp only
                            rw [if_pos (by rfl)]
                            refine ⟨fun f _ => trivial, ?_⟩
                            have ea3 : a2.tmps[105]?.getD undef = .slice (some ⟨xs[k].mb, 0, none⟩) xs[k].ds.length cp := hinv.sl.new (i := 3) (by decide) rfl (hdep ⟨3, .data⟩ (by simp) rfl)
                            have ea7 : a2.tmps[109]?.getD undef = .string ps[k] := hinv.sl.new (i := 7) (by decide) rfl (hdep ⟨7, .data⟩ (by simp) rfl)
                            go_simp
                            refine ⟨rfl, CallsIn.mono (callsIn_wide.2 HC8) ?_⟩
                            rintro e w' ⟨rfl, hb'⟩
                            exact hinv.step nd (i := 8) (by decide) (show 110 < 188 by omega) (by decide) (by decide) (by decide) rfl hb'
                          | 9, _, hL, ho, hdep =>
                            injection ho with ho; subst ho
                            dsimp only
                            rw [if_pos (by rfl)]
                            refine ⟨fun f _ => trivial, ?_⟩
                            go_simp
                            exact LV.box (by decide) hinv nd (show 16 < 188 by omega) rfl (hc10 hL)
                          | 10, _, hL, ho, hdep =>
                            injection ho with ho; subst ho
                            dsimp only
                            rw [if_pos (by rfl)]
                            refine ⟨fun f _ => trivial, ?_⟩
                            obtain ⟨fb, f1, f2, f3, _⟩ := hinv.bx (hdep ⟨9, .data⟩ (by simp) rfl)
                            have f4 := f3 (getD_ft hL)
                            have ea : a2.tmps[16]?.getD undef = .pointer (some ⟨fb, 0, none⟩) := evalD2 f1
                            have eb : a2.tmps[110]?.getD undef = .agg #[.int .u8 kd, .string nm, .string dg] := hinv.sl.new (i := 8) (by decide) rfl (hdep ⟨8, .data⟩ (by simp) rfl)
                            have n0 := f4.c0; have n1 := f4.c1; have n2 := f4.c2; have nf := f4.fz
                            clear f3
                            go_simp
                            exact hinv.store rfl f1 f2 f4 hL
                      case rest =>
                        obtain ⟨fb, rfl, hF, hfb, hB1⟩ := hcut
                        clear X0 Q0 HFI
                        generalize hwx : wc = wx at *
                        clear hwx
                        have hBx := hbr.trans (hB1.mono hbr.size)
                        rename_i K2 hk2
                        refine hk2 _ _ ?_
                        clear hk2
                        have hSHx := hSHr.later hB1
                        have hNBx := hNB.later hB1
                        have p0 := hSHx.p0; have p1 := hSHx.p1; have p2 := hSHx.p2
                        rw [HT.out] at p1
                        have b0 := hF.c0; have b2 := hF.c2
                        have htq : ∀ i (h : i < ts.length), wx.cell? ⟨b', off + i, none⟩ = some (.string ts[i]) := fun i h => cell_later hB1 (htr i h)
                        clear hF hSHr hNB htr hts HL3 HC3 hq hB1 hbr
                        have hw2 : IntKind.i64.wrap ((k : Int) + 1) = (k : Int) + 1 := by rw [IntKind.wrap_i64]; omega
                        have HMX : Keep (k + 1 < xs.length ↔ k + 1 < ts.length) := ⟨by rw [HXL.out]⟩
                        by_cases hnp : k + 1 < ps.length
                        · have hni : (k : Int) + 1 < ps.length := by omega
                          have hnd : decide ((k : Int) + 1 < ps.length) = true := by simpa using hni
                          by_cases h100 : kd = 100
                          · subst h100
                            obtain ⟨l, hl1, hl2, hl3⟩ : ∃ l, lk xs[k].ds ps[k] = some l ∧ l.kind = 100 ∧ Keep (dg = l.dig) := by
                              rcases HKD.out with ⟨l, h1, h2, h3⟩ | ⟨h1, h2⟩
                              · exact ⟨l, h1, by
                                  have h4 : l.kind.toNat = 100 := by omega
                                  exact UInt8.toNat_inj.1 h4, ⟨h3⟩⟩
                              · omega
                            clear HKD
                            by_cases hmo : k + 1 < ts.length
                            · have hmi : (k : Int) + 1 < ts.length := by omega
                              have hmd : decide ((k : Int) + 1 < ts.length) = true := by simpa using hmi
                              have hmx : k + 1 < xs.length := HMX.out.2 hmo
                              obtain ⟨S1, hS1⟩ : ∃ x, x = sumStr ts[k + 1].data.toList wd := ⟨_, rfl⟩
                              obtain ⟨H, hH⟩ : ∃ H, H = lnB (hexL S1.data.toList) := ⟨_, rfl⟩
                              have HE : Keep ((H.toList == dg.toList) = (hexL xs[k + 1].sum.data.toList == l.dig.data.toList)) := ⟨by rw [hH, toL, lnB_list, hl3.out, toL, hS1, HSUM.out (k + 1) hmo hmx]⟩
                              have c5 : (0 : Int) ≤ (k : Int) + 1 := by omega
                              have HCs : Keep (∀ x : Later wx, Calls Tryd.prog 14 #[.string ts[k + 1], .int .i64 width] x.world fun e w'' => e = .returned (.string S1) ∧ ∃ y : Later wx, w'' = y.world) := ⟨fun x => x.call (by rw [HW.out, hS1]; exact specSum_any _ wd _ (by have := hm ts[k + 1] (List.getElem_mem hmo); unfold maxLen; omega) hw1 hw8)⟩
                              have HCh : Keep (∀ x : Later wx, Calls Tryd.prog 17 #[.string S1] x.world fun e w'' => e = .returned (.string H) ∧ ∃ y : Later wx, w'' = y.world) := ⟨fun x => x.call (by rw [hH]; exact l9Hex_any _ _ (by rw [hS1, sumStr_size]; omega))⟩
                              have P0 : ∀ x : Later wx, x.world.cell? ⟨pb, 0, none⟩ = some (.slice (some ⟨b', off, none⟩) ts.length cap) := fun x => (hSHx.later x.kept).p0
                              have T1 : ∀ x : Later wx, x.world.cell? ⟨b', off + (k + 1), none⟩ = some (.string ts[k + 1]) := fun x => cell_later x.kept (htq (k + 1) hmo)
                              have D2 : ∀ x : Later wx, x.world.cell? ⟨fb, 2, none⟩ = some (.string dg) := fun x => cell_later x.kept b2
                              clear hS1 hH
                              cases hhx : (H.toList == dg.toList) with
                              | true =>
                                have HG2 : Keep (fw (plainD xs) ps = fw ((plainD xs).drop (k + 1)) (ps.drop (k + 1))) := ⟨by rw [HF.out, fw_dir hkx hkp hnp hl1 hl2 hmx, ← HE.out, hhx, if_pos rfl]⟩
                                go_upto_region 21 with fail
                                clear p0 p1 p2
                                (haveI := later_any; refine wp_region_later (by kernel_rfl) (by kernel_rfl) ?_; (repeat (go_big_quiet_step (first | (go_at_call 14; exact HCs.out _) | (go_at_call 17; exact HCh.out _)))); refine wpQuiet_nil ?_; intro _ hwq; obtain ⟨xq, hwq2⟩ := hwq; subst hwq2)
                                have hbq3 := hBx.trans (xq.kept.mono hBx.size)
                                clear P0 T1 D2 HCs HCh
                                go_wp2
                                go_roundw
                                case rel => exact ⟨k + 1, hnp, hmo, by go_num, HG2, hbq3⟩
                                case measure => simp [intOf]; omega
                              | false =>
                                go_upto_region 21 with fail
                                clear p0 p1 p2
                                (haveI := later_any; refine wp_region_later (by kernel_rfl) (by kernel_rfl) ?_; (repeat (go_big_quiet_step (first | (go_at_call 14; exact HCs.out _) | (go_at_call 17; exact HCh.out _)))); refine wpQuiet_nil ?_; intro _ hwq; obtain ⟨xq, hwq2⟩ := hwq; subst hwq2)
                                replace hSHx := hSHx.later xq.kept
                                replace hNBx := hNBx.later xq.kept
                                clear P0 T1 D2 HCs HCh b0 b2
                                have r0 := hSHx.r0; have r1 := hSHx.r1; have r2 := hSHx.r2; have r3 := hSHx.r3; have r4 := hSHx.r4; have rf := hSHx.rf
                                have n0 := hNBx.n0; have n1 := hNBx.n1; have n2 := hNBx.n2; have n3 := hNBx.n3; have n4 := hNBx.n4
                                obtain ⟨k0, k1, k2, k3, k4, kb⟩ := hSHx.set (.int .i64 2) (.bool false) (.string ⟨#[]⟩) (.string ⟨#[]⟩) (.bool false)
                                have HP : Keep (ShowPost sum path ts there text width w (.returned (.agg #[.int .i64 2, .bool false, .string ⟨#[]⟩, .string ⟨#[]⟩, .bool false])) (set5 xq.world rs (.int .i64 2) (.bool false) (.string ⟨#[]⟩) (.string ⟨#[]⟩) (.bool false))) := ⟨HANS.out ⟨2, false, false⟩ _ (by rw [HSB.out, HF.out, fw_dir hkx hkp hnp hl1 hl2 hmx, ← HE.out, hhx, if_neg (by decide)]; rfl) kb⟩
                                unfold set5 at k0 k1 k2 k3 k4 HP
                                clear kb hSHx hNBx
                                go_wp2
                                refine bodyPost_ret (v := .agg #[.int .i64 2, .bool false, .string ⟨#[]⟩, .string ⟨#[]⟩, .bool false]) ?_ rfl HP.out
                                go_light
                                simp [results, Tryd.results5, go_sem, k0, k1, k2, k3, k4]
                            · have hmi : ¬ (k : Int) + 1 < ts.length := by omega
                              have hmd : decide ((k : Int) + 1 < ts.length) = false := by simpa using hmi
                              have hmx : ¬ k + 1 < xs.length := fun h => hmo (HMX.out.1 h)
                              go_upto_region 21 with fail
                              clear p0 p1 p2
                              (haveI := later_any; refine wp_region_later (by kernel_rfl) (by kernel_rfl) ?_; (repeat (go_big_quiet_step (fail))); refine wpQuiet_nil ?_; intro _ hwq; obtain ⟨xq, hwq2⟩ := hwq; subst hwq2)
                              replace hSHx := hSHx.later xq.kept
                              replace hNBx := hNBx.later xq.kept
                              clear b0 b2
                              have r0 := hSHx.r0; have r1 := hSHx.r1; have r2 := hSHx.r2; have r3 := hSHx.r3; have r4 := hSHx.r4; have rf := hSHx.rf
                              have n0 := hNBx.n0; have n1 := hNBx.n1; have n2 := hNBx.n2; have n3 := hNBx.n3; have n4 := hNBx.n4
                              obtain ⟨k0, k1, k2, k3, k4, kb⟩ := hSHx.set (.int .i64 2) (.bool false) (.string ⟨#[]⟩) (.string ⟨#[]⟩) (.bool false)
                              have HP : Keep (ShowPost sum path ts there text width w (.returned (.agg #[.int .i64 2, .bool false, .string ⟨#[]⟩, .string ⟨#[]⟩, .bool false])) (set5 xq.world rs (.int .i64 2) (.bool false) (.string ⟨#[]⟩) (.string ⟨#[]⟩) (.bool false))) := ⟨HANS.out ⟨2, false, false⟩ _ (by rw [HSB.out, HF.out, fw_end hkx hkp hnp hl1 hl2 hmx]; rfl) kb⟩
                              unfold set5 at k0 k1 k2 k3 k4 HP
                              clear kb hSHx hNBx
                              go_wp2
                              refine bodyPost_ret (v := .agg #[.int .i64 2, .bool false, .string ⟨#[]⟩, .string ⟨#[]⟩, .bool false]) ?_ rfl HP.out
                              go_light
                              simp [results, Tryd.results5, go_sem, k0, k1, k2, k3, k4]
                          · have c0 : (kd == 100) = false := by simpa using h100
                            have HOF : Keep (fw ((plainD xs).drop k) (ps.drop k) = if k + 1 < xs.length then none else some none) := ⟨fw_off hkx hkp hnp (fun l hl hk => by
                              rcases HKD.out with ⟨l', h1, h2, _⟩ | ⟨h1, _⟩
                              · rw [hl] at h1
                                cases h1
                                rw [hk] at h2
                                exact h100 h2
                              · rw [hl] at h1; cases h1)⟩
                            clear HKD
                            by_cases hmo : k + 1 < ts.length
                            · have hmi : (k : Int) + 1 < ts.length := by omega
                              have hmd : decide ((k : Int) + 1 < ts.length) = true := by simpa using hmi
                              have hmx : k + 1 < xs.length := HMX.out.2 hmo
                              have r0 := hSHx.r0; have r1 := hSHx.r1; have r2 := hSHx.r2; have r3 := hSHx.r3; have r4 := hSHx.r4; have rf := hSHx.rf
                              have n0 := hNBx.n0; have n1 := hNBx.n1; have n2 := hNBx.n2; have n3 := hNBx.n3; have n4 := hNBx.n4
                              obtain ⟨k0, k1, k2, k3, k4, kb⟩ := hSHx.set (.int .i64 2) (.bool false) (.string ⟨#[]⟩) (.string ⟨#[]⟩) (.bool false)
                              have HP : Keep (ShowPost sum path ts there text width w (.returned (.agg #[.int .i64 2, .bool false, .string ⟨#[]⟩, .string ⟨#[]⟩, .bool false])) (set5 wx rs (.int .i64 2) (.bool false) (.string ⟨#[]⟩) (.string ⟨#[]⟩) (.bool false))) := ⟨HANS.out ⟨2, false, false⟩ _ (by rw [HSB.out, HF.out, HOF.out, if_pos hmx]; rfl) kb⟩
                              unfold set5 at k0 k1 k2 k3 k4 HP
                              clear kb hSHx hNBx
                              go_wp2
                              refine bodyPost_ret (v := .agg #[.int .i64 2, .bool false, .string ⟨#[]⟩, .string ⟨#[]⟩, .bool false]) ?_ rfl HP.out
                              go_light
                              simp [results, Tryd.results5, go_sem, k0, k1, k2, k3, k4]
                            · have hmi : ¬ (k : Int) + 1 < ts.length := by omega
                              have hmd : decide ((k : Int) + 1 < ts.length) = false := by simpa using hmi
                              have hmx : ¬ k + 1 < xs.length := fun h => hmo (HMX.out.1 h)
                              have HO : Keep (fw ((plainD xs).drop k) (ps.drop k) = some none) := ⟨by rw [HOF.out, if_neg hmx]⟩
                              have HOA : Keep (ansOf there text wd (some none) = ⟨0, false, false⟩) := ⟨by rw [ansN_none, HT.out]; rfl⟩
                              have r0 := hSHx.r0; have r1 := hSHx.r1; have r2 := hSHx.r2; have r3 := hSHx.r3; have r4 := hSHx.r4; have rf := hSHx.rf
                              obtain ⟨k0, k1, k2, k3, k4, kb⟩ := hSHx.set (.int .i64 0) (.bool false) (.string ⟨#[]⟩) (.string ⟨#[]⟩) (.bool false)
                              have HP : Keep (ShowPost sum path ts there text width w (.returned (.agg #[.int .i64 0, .bool false, .string ⟨#[]⟩, .string ⟨#[]⟩, .bool false])) (set5 wx rs (.int .i64 0) (.bool false) (.string ⟨#[]⟩) (.string ⟨#[]⟩) (.bool false))) := ⟨HANS.out ⟨0, false, false⟩ _ (by rw [HSB.out, HF.out, HO.out]; exact HOA.out) kb⟩
                              unfold set5 at k0 k1 k2 k3 k4 HP
                              clear kb hSHx
                              go_wp2
                              refine bodyPost_ret (v := .agg #[.int .i64 0, .bool false, .string ⟨#[]⟩, .string ⟨#[]⟩, .bool false]) ?_ rfl HP.out
                              go_light
                              simp [results, Tryd.results5, go_sem, k0, k1, k2, k3, k4]
                        · have hni : ¬ (k : Int) + 1 < ps.length := by omega
                          have hnd : decide ((k : Int) + 1 < ps.length) = false := by simpa using hni
                          by_cases hmo : k + 1 < ts.length
                          · have hmi : (k : Int) + 1 < ts.length := by omega
                            have hmd : decide ((k : Int) + 1 < ts.length) = true := by simpa using hmi
                            have hmx : k + 1 < xs.length := HMX.out.2 hmo
                            clear HKD
                            have r0 := hSHx.r0; have r1 := hSHx.r1; have r2 := hSHx.r2; have r3 := hSHx.r3; have r4 := hSHx.r4; have rf := hSHx.rf
                            have n0 := hNBx.n0; have n1 := hNBx.n1; have n2 := hNBx.n2; have n3 := hNBx.n3; have n4 := hNBx.n4
                            obtain ⟨k0, k1, k2, k3, k4, kb⟩ := hSHx.set (.int .i64 2) (.bool false) (.string ⟨#[]⟩) (.string ⟨#[]⟩) (.bool false)
                            have HP : Keep (ShowPost sum path ts there text width w (.returned (.agg #[.int .i64 2, .bool false, .string ⟨#[]⟩, .string ⟨#[]⟩, .bool false])) (set5 wx rs (.int .i64 2) (.bool false) (.string ⟨#[]⟩) (.string ⟨#[]⟩) (.bool false))) := ⟨HANS.out ⟨2, false, false⟩ _ (by rw [HSB.out, HF.out, fw_last hkx hkp (by omega), if_pos hmx]; rfl) kb⟩
                            unfold set5 at k0 k1 k2 k3 k4 HP
                            clear kb hSHx hNBx
                            go_wp2
                            refine bodyPost_ret (v := .agg #[.int .i64 2, .bool false, .string ⟨#[]⟩, .string ⟨#[]⟩, .bool false]) ?_ rfl HP.out
                            go_light
                            simp [results, Tryd.results5, go_sem, k0, k1, k2, k3, k4]
                          · have hmi : ¬ (k : Int) + 1 < ts.length := by omega
                            have hmd : decide ((k : Int) + 1 < ts.length) = false := by simpa using hmi
                            have hmx : ¬ k + 1 < xs.length := fun h => hmo (HMX.out.1 h)
                            by_cases h102 : kd = 102
                            · subst h102
                              obtain ⟨l, hl1, hl2, hl3⟩ : ∃ l, lk xs[k].ds ps[k] = some l ∧ l.kind = 102 ∧ Keep (dg = l.dig) := by
                                rcases HKD.out with ⟨l, h1, h2, h3⟩ | ⟨h1, h2⟩
                                · exact ⟨l, h1, by
                                    have h4 : l.kind.toNat = 102 := by omega
                                    exact UInt8.toNat_inj.1 h4, ⟨h3⟩⟩
                                · omega
                              have hlf : isFd l = true := by unfold isFd; rw [hl2]; rfl
                              have HO : Keep (fw ((plainD xs).drop k) (ps.drop k) = some (some l)) := ⟨by rw [fw_last hkx hkp (by omega), if_neg hmx, hl1]⟩
                              clear HKD
                              go_upto_region 29 with fail
                              have P1 : ∀ x : Later wx, x.world.cell? ⟨pb, 1, none⟩ = some (.bool false) := fun x => by rw [← HT.out]; exact (hSHx.later x.kept).p1
                              clear p0 p1 p2 b0 b2
                              (haveI := later_any; refine wp_region_later (by kernel_rfl) (by kernel_rfl) ?_; (repeat (go_big_quiet_step (fail))); refine wpQuiet_nil ?_; intro _ hwq; obtain ⟨xq, hwq2⟩ := hwq; subst hwq2)
                              replace hSHx := hSHx.later xq.kept
                              replace hNBx := hNBx.later xq.kept
                              clear P1
                              have r0 := hSHx.r0; have r1 := hSHx.r1; have r2 := hSHx.r2; have r3 := hSHx.r3; have r4 := hSHx.r4; have rf := hSHx.rf
                              have n0 := hNBx.n0; have n1 := hNBx.n1; have n2 := hNBx.n2; have n3 := hNBx.n3; have n4 := hNBx.n4
                              obtain ⟨k0, k1, k2, k3, k4, kb⟩ := hSHx.set (.int .i64 2) (.bool false) (.string ⟨#[]⟩) (.string ⟨#[]⟩) (.bool false)
                              have HP : Keep (ShowPost sum path ts there text width w (.returned (.agg #[.int .i64 2, .bool false, .string ⟨#[]⟩, .string ⟨#[]⟩, .bool false])) (set5 xq.world rs (.int .i64 2) (.bool false) (.string ⟨#[]⟩) (.string ⟨#[]⟩) (.bool false))) := ⟨HANS.out ⟨2, false, false⟩ _ (by rw [HSB.out, HF.out, HO.out, ansF_no HT.out hlf]) kb⟩
                              unfold set5 at k0 k1 k2 k3 k4 HP
                              clear kb hSHx hNBx
                              go_wp2
                              refine bodyPost_ret (v := .agg #[.int .i64 2, .bool false, .string ⟨#[]⟩, .string ⟨#[]⟩, .bool false]) ?_ rfl HP.out
                              go_light
                              simp [results, Tryd.results5, go_sem, k0, k1, k2, k3, k4]
                            by_cases h120 : kd = 120
                            · subst h120
                              obtain ⟨l, hl1, hl2, hl3⟩ : ∃ l, lk xs[k].ds ps[k] = some l ∧ l.kind = 120 ∧ Keep (dg = l.dig) := by
                                rcases HKD.out with ⟨l, h1, h2, h3⟩ | ⟨h1, h2⟩
                                · exact ⟨l, h1, by
                                    have h4 : l.kind.toNat = 120 := by omega
                                    exact UInt8.toNat_inj.1 h4, ⟨h3⟩⟩
                                · omega
                              have hlf : isFd l = true := by unfold isFd; rw [hl2]; rfl
                              have HO : Keep (fw ((plainD xs).drop k) (ps.drop k) = some (some l)) := ⟨by rw [fw_last hkx hkp (by omega), if_neg hmx, hl1]⟩
                              clear HKD
                              go_upto_region 29 with fail
                              have P1 : ∀ x : Later wx, x.world.cell? ⟨pb, 1, none⟩ = some (.bool false) := fun x => by rw [← HT.out]; exact (hSHx.later x.kept).p1
                              clear p0 p1 p2 b0 b2
                              (haveI := later_any; refine wp_region_later (by kernel_rfl) (by kernel_rfl) ?_; (repeat (go_big_quiet_step (fail))); refine wpQuiet_nil ?_; intro _ hwq; obtain ⟨xq, hwq2⟩ := hwq; subst hwq2)
                              replace hSHx := hSHx.later xq.kept
                              replace hNBx := hNBx.later xq.kept
                              clear P1
                              have r0 := hSHx.r0; have r1 := hSHx.r1; have r2 := hSHx.r2; have r3 := hSHx.r3; have r4 := hSHx.r4; have rf := hSHx.rf
                              have n0 := hNBx.n0; have n1 := hNBx.n1; have n2 := hNBx.n2; have n3 := hNBx.n3; have n4 := hNBx.n4
                              obtain ⟨k0, k1, k2, k3, k4, kb⟩ := hSHx.set (.int .i64 2) (.bool false) (.string ⟨#[]⟩) (.string ⟨#[]⟩) (.bool false)
                              have HP : Keep (ShowPost sum path ts there text width w (.returned (.agg #[.int .i64 2, .bool false, .string ⟨#[]⟩, .string ⟨#[]⟩, .bool false])) (set5 xq.world rs (.int .i64 2) (.bool false) (.string ⟨#[]⟩) (.string ⟨#[]⟩) (.bool false))) := ⟨HANS.out ⟨2, false, false⟩ _ (by rw [HSB.out, HF.out, HO.out, ansF_no HT.out hlf]) kb⟩
                              unfold set5 at k0 k1 k2 k3 k4 HP
                              clear kb hSHx hNBx
                              go_wp2
                              refine bodyPost_ret (v := .agg #[.int .i64 2, .bool false, .string ⟨#[]⟩, .string ⟨#[]⟩, .bool false]) ?_ rfl HP.out
                              go_light
                              simp [results, Tryd.results5, go_sem, k0, k1, k2, k3, k4]
                            have HOA : Keep (ansOf there text wd (some (lk xs[k].ds ps[k])) = ⟨0, false, false⟩) := ⟨by
                              rcases HKD.out with ⟨l, h1, h2, h3⟩ | ⟨h1, h2⟩
                              · rw [h1, ansN_some (by
                                  unfold isFd
                                  rw [Bool.or_eq_false_iff]
                                  constructor
                                  · rw [Bool.eq_false_iff]; intro h; rw [beq_iff_eq] at h; rw [h] at h2; exact h102 h2
                                  · rw [Bool.eq_false_iff]; intro h; rw [beq_iff_eq] at h; rw [h] at h2; exact h120 h2), HT.out]; rfl
                              · rw [h1, ansN_none, HT.out]; rfl⟩
                            have HO : Keep (fw ((plainD xs).drop k) (ps.drop k) = some (lk xs[k].ds ps[k])) := ⟨by rw [fw_last hkx hkp (by omega), if_neg hmx]⟩
                            have c1 : (kd == 102) = false := by simpa using h102
                            have c2 : (kd == 120) = false := by simpa using h120
                            have c3 : (kd != 102) = true := by simpa using h102
                            have c4 : (kd != 120) = true := by simpa using h120
                            clear HKD h102 h120
                            go_upto_region 25 with fail
                            go_upto_region 26 with fail
                            have r0 := hSHx.r0; have r1 := hSHx.r1; have r2 := hSHx.r2; have r3 := hSHx.r3; have r4 := hSHx.r4; have rf := hSHx.rf
                            obtain ⟨k0, k1, k2, k3, k4, kb⟩ := hSHx.set (.int .i64 0) (.bool false) (.string ⟨#[]⟩) (.string ⟨#[]⟩) (.bool false)
                            have HP : Keep (ShowPost sum path ts there text width w (.returned (.agg #[.int .i64 0, .bool false, .string ⟨#[]⟩, .string ⟨#[]⟩, .bool false])) (set5 wx rs (.int .i64 0) (.bool false) (.string ⟨#[]⟩) (.string ⟨#[]⟩) (.bool false))) := ⟨HANS.out ⟨0, false, false⟩ _ (by rw [HSB.out, HF.out, HO.out]; exact HOA.out) kb⟩
                            unfold set5 at k0 k1 k2 k3 k4 HP
                            clear kb hSHx
                            go_wp2
                            refine bodyPost_ret (v := .agg #[.int .i64 0, .bool false, .string ⟨#[]⟩, .string ⟨#[]⟩, .bool false]) ?_ rfl HP.out
                            go_light
                            simp [results, Tryd.results5, go_sem, k0, k1, k2, k3, k4]
          · have hth : there = false ∧ text.toList ≠ [] := by
              cases there with
              | true => exact absurd (by simp [flS]; have := HTZ.out; omega) hfl
              | false => exact ⟨rfl, fun e => hfl (by simp [flS, e]; have := HTZ.out; omega)⟩
            have HF : Keep (flS there text = false) := ⟨by simpa using hfl⟩
            obtain ⟨ht1, ht2⟩ := hth
            have HT : Keep (there = false) := ⟨ht1⟩
            have hem1 : (text.toList == []) = false := by simpa using ht2
            have hem2 : text.toList.isEmpty = false := by simpa using ht2
            clear ht1 hfl
            have r0 := hSH.r0; have r1 := hSH.r1; have r2 := hSH.r2; have r3 := hSH.r3; have r4 := hSH.r4; have rf := hSH.rf; have p0 := hSH.p0; have p1 := hSH.p1; have p2 := hSH.p2
            obtain ⟨k0, k1, k2, k3, k4, kb⟩ := hSH.set (.int .i64 1) (.bool false) (.string ⟨#[]⟩) (.string ⟨#[]⟩) (.bool false)
            have HP : Keep (ShowPost sum path ts there text width w (.returned (.agg #[.int .i64 1, .bool false, .string ⟨#[]⟩, .string ⟨#[]⟩, .bool false])) (set5 _ rs (.int .i64 1) (.bool false) (.string ⟨#[]⟩) (.string ⟨#[]⟩) (.bool false))) := ⟨HBAD.out 1 (fun _ wd X g => by have := g.file; rw [HF.out] at this; cases this) (fun h => by cases h) (.inl rfl) _ kb⟩
            rw [HT.out] at p1
            unfold set5 at k0 k1 k2 k3 k4 HP
            clear kb hSH
            go_wp2
            refine bodyPost_ret (v := .agg #[.int .i64 1, .bool false, .string ⟨#[]⟩, .string ⟨#[]⟩, .bool false]) ?_ rfl HP.out
            go_light
            simp [results, Tryd.results5, go_sem, k0, k1, k2, k3, k4]
end Go.Proofs.YtlgdfeacnalekaaDoor
