/-
  spec.Overlay.
-/
import Derived.Test.YtmeodgcnnjkilaaOverP
import Derived.Test.YtmeodgcnnjkilaaSetS
import Derived.Test.YtmeodgcnnjkilaaCopyT
import Derived.Test.YtmeodgcnnjkilaaSpecTree
import Derived.Test.YtmeodgcnnjkilaaLaterQ
import Derived.Deep.RegionLaw
namespace Go.Proofs.Ytmeodgcnnjkilaa
open Go.RowKit

theorem step_fn2 {ops : Array Oper} {o : Oper} {a : Act} {K : Act → World → Prop} {Q : Exit → Act → World → Prop} {E : Prop} {w : World} (hgd : o.guard = none) (f : FuncId) (x y : Operand) (tx ty : TypeId) (ho : o.op = .call { callee := .value (.func f), args := #[x, y], argTypes := #[tx, ty] })
    (u v : Value) (hx : a.eval x = u) (hy : a.eval y = v) (hf : ∀ w, (callFunc f #[u, v]).run Try.prog w = .ok (.enter f #[u, v]) w) {P2 : Ending → World → Prop} (hc : Calls Try.prog f #[u, v] w P2)
    (hK : ∀ e w', P2 e w' → ∃ u, e = .returned u ∧ K (a.put o.dst u) w') :
    if Region.wanted o (yielded ops a.tmps) = true then Oper.wp Try.prog o a w K Q else E := by
  rw [if_pos (by simp [Region.wanted, hgd])]
  have he : a.eval (.func f) = .func (.func f) #[] #[] := rfl
  have hr : (execOp a.eval o).run Try.prog w = .ok (.enter f #[u, v]) w := by
    unfold execOp
    simp only [ho, resolve, Deferred.ofValue, invoke, Sem.run_bind, Sem.run_pure, Result.andThen_ok, List.map_toArray, List.map_cons, List.map_nil, hx, hy, he]
    exact hf w
  unfold Oper.wp
  rw [hr, Oper.upon_enter]
  refine hc.mono ?_
  intro e w' h2
  obtain ⟨u, rfl, hk⟩ := hK e w' h2
  exact hk

theorem freeB_take {bs : List En} {p : ByteArray} {j : Nat} (h : j < bs.length) : freeB (bs.take (j + 1)) p = (freeB (bs.take j) p && !meetB p bs[j].path) := by
  unfold freeB
  rw [List.take_succ_eq_append_getElem h, List.all_append]
  simp

/-- The list in the making: a cell that holds its slice. -/
structure OvSt (B ob : Nat) (W0 : World) (ad : Option Addr) (cap : Nat) (us : List En) (W : World) : Prop where
  cell : W.cell? ⟨ob, 0, none⟩ = some (.slice ad us.length cap)
  fz : W.frozen? ⟨ob, 0, none⟩ = false
  lst : EL B W ad us
  apart : us = [] ∨ blk ad ≠ some ob
  grown : W0.grownBy W (some ob)
  lt : ob < W0.heap.size
theorem OvSt.later {B ob : Nat} {W0 W W' : World} {ad : Option Addr} {cap : Nat} {us : List En} (s : OvSt B ob W0 ad cap us W) (hb : Below W.heap.size W W') : OvSt B ob W0 ad cap us W' :=
  have hl : ob < W.heap.size := Nat.lt_of_lt_of_le s.lt s.grown.size
  ⟨cell_later hb s.cell, (hb.frozen (p := ⟨ob, 0, none⟩) hl).trans s.fz, s.lst.below hb, s.apart, ⟨hb.os.trans s.grown.os, hb.tape.trans s.grown.tape, hb.output.trans s.grown.output, Nat.le_trans s.grown.size hb.size, fun k hk hne => (hb.block k (Nat.lt_of_lt_of_le hk s.grown.size)).trans (s.grown.block k hk hne)⟩, s.lt⟩
theorem OvSt.keep {B ob b j : Nat} {W0 W : World} {ad : Option Addr} {cap : Nat} {us : List En} {u : Value} (s : OvSt B ob W0 ad cap us W) (hc : W0.cell? ⟨b, j, none⟩ = some u) (hb : b < W0.heap.size) (hne : b ≠ ob) : W.cell? ⟨b, j, none⟩ = some u :=
  (World.cell?_of_block (s.grown.block b hb (fun e => hne (by cases e; rfl)))).trans hc
theorem OvSt.keepF {B ob b j : Nat} {W0 W : World} {ad : Option Addr} {cap : Nat} {us : List En} (s : OvSt B ob W0 ad cap us W) (hc : W0.frozen? ⟨b, j, none⟩ = false) (hb : b < W0.heap.size) (hne : b ≠ ob) : W.frozen? ⟨b, j, none⟩ = false :=
  frozen_blk (s.grown.block b hb (fun e => hne (by cases e; rfl))) hc
theorem OvSt.below {B ob : Nat} {w W0 W : World} {ad : Option Addr} {cap : Nat} {us : List En} (s : OvSt B ob W0 ad cap us W) (hb : Below w.heap.size w W0) (hh : w.heap.size ≤ ob) : Below w.heap.size w W :=
  hb.grown s.grown hb.size (fun j e => by cases e; exact hh)
/-- Another list is put into the cell. -/
theorem OvSt.put {B ob B' : Nat} {W0 W : World} {ad ad' : Option Addr} {cap cap' : Nat} {us us' : List En} (s : OvSt B ob W0 ad cap us W) (h : EL B' W ad' us') (hB : ob < B') (hBB : B ≤ B') : OvSt B ob W0 ad' cap' us' (W.setCell ⟨ob, 0, none⟩ (.slice ad' us'.length cap')) := by
  refine ⟨World.cell?_setCell_same _ _ _ s.cell, (World.frozen?_setCell _ _ _ _).trans s.fz, ?_, ?_, ?_, s.lt⟩
  · exact (h.grown (row := some ob) (grown_set0 W ob 0 _) (fun g _ hg _ e => by cases e; omega)).mono hBB
  · rcases h with h | ⟨g, rfl, hg, _⟩
    · exact .inl h
    · exact .inr (fun e => by simp [blk] at e; omega)
  · refine ⟨s.grown.os, s.grown.tape, s.grown.output, ?_, fun k hk hne => (Below.heap_setCell _ _ _ _ (fun e => hne (by rw [e]))).trans (s.grown.block k hk hne)⟩
    have := s.grown.size
    simpa using this

set_option maxRecDepth 100000 in
set_option maxHeartbeats 8000000 in
theorem specOver_any (a b : Option Addr) (ca cb : Nat) (ts bs : List En) (w : World) (hts : ES w a ts) (hbs : ES w b bs) (hn : ts.length ≤ 1048576) (hnb : bs.length ≤ 1048576) (hb : (∃ ad, b = some ad) ∨ (b = none ∧ cb = 0)) :
    Calls Try.prog 18 #[.agg #[.slice a ts.length ca], .agg #[.slice b bs.length cb]] w fun e w' => OverPost ts bs w e w' := by
  have hal : Below w.heap.size w (((w.alloc (.cells #[.slice a ts.length ca] 31)).alloc (.cells #[.slice b bs.length cb] 31)).alloc (.cells #[.slice none 0 0] 31)) := (((Below.refl _ _).alloc (Nat.le_refl _) _).alloc (by simp) _).alloc (by simp; omega) _
  have m0 : (((w.alloc (.cells #[.slice a ts.length ca] 31)).alloc (.cells #[.slice b bs.length cb] 31)).alloc (.cells #[.slice none 0 0] 31)).cell? ⟨w.heap.size, 0, none⟩ = some (.slice a ts.length ca) := by simp [go_sem]
  have n0 : (((w.alloc (.cells #[.slice a ts.length ca] 31)).alloc (.cells #[.slice b bs.length cb] 31)).alloc (.cells #[.slice none 0 0] 31)).cell? ⟨w.heap.size + 1, 0, none⟩ = some (.slice b bs.length cb) := by simp [go_sem]
  have k0 : (((w.alloc (.cells #[.slice a ts.length ca] 31)).alloc (.cells #[.slice b bs.length cb] 31)).alloc (.cells #[.slice none 0 0] 31)).cell? ⟨w.heap.size + 1 + 1, 0, none⟩ = some (.slice none 0 0) := by simp [go_sem]
  have kf : (((w.alloc (.cells #[.slice a ts.length ca] 31)).alloc (.cells #[.slice b bs.length cb] 31)).alloc (.cells #[.slice none 0 0] 31)).frozen? ⟨w.heap.size + 1 + 1, 0, none⟩ = false := by simp [go_sem]
  have ks : w.heap.size + 1 + 1 < (((w.alloc (.cells #[.slice a ts.length ca] 31)).alloc (.cells #[.slice b bs.length cb] 31)).alloc (.cells #[.slice none 0 0] 31)).heap.size := by simp [go_sem]
  go_enter Try.func18, Try.ntmps18
  go_wp2_with fail
  refine (specTree_any a ca ts _ (hts.below hal) hn).mono ?_
  rintro e w1 ⟨vb, rfl, hvb, hb1⟩
  generalize ((w.alloc (.cells #[.slice a ts.length ca] 31)).alloc (.cells #[.slice b bs.length cb] 31)).alloc (.cells #[.slice none 0 0] 31) = w0 at *
  obtain ⟨g, hg⟩ : ∃ g, g = w.heap.size + 1 + 1 := ⟨_, rfl⟩
  obtain ⟨tb, htb⟩ : ∃ tb, tb = w.heap.size + 1 := ⟨_, rfl⟩
  obtain ⟨ta, hta⟩ : ∃ ta, ta = w.heap.size := ⟨_, rfl⟩
  rw [← hg] at k0 kf ks ⊢
  rw [← htb] at n0 ⊢
  rw [← hta] at m0 ⊢
  have hgw : w.heap.size ≤ g := by omega
  have hag : ta < g := by omega
  have hbg : tb < g := by omega
  clear hg hta htb
  replace k0 := cell_later hb1 k0
  replace kf : w1.frozen? ⟨g, 0, none⟩ = false := (hb1.frozen (p := ⟨g, 0, none⟩) ks).trans kf
  replace m0 := cell_later hb1 m0
  replace n0 := cell_later hb1 n0
  have ks1 : g < w1.heap.size := Nat.lt_of_lt_of_le ks hb1.size
  have hbw := hal.trans (hb1.mono hal.size)
  have HV : Keep (vb = true ↔ ValidTs ts) := ⟨hvb⟩
  clear hvb hb1 hal ks
  cases vb with
  | false =>
    have hnv : ¬ ValidTs ts := fun h => by have := HV.out.2 h; cases this
    go_wp2
    refine bodyPost_ret (v := TreeV none ([] : List En).length 0 1) ?_ rfl ⟨[], 1, .inl ⟨fun h => hnv h.1, rfl, rfl⟩, ⟨none, 0, rfl, EL.nil _ _ _⟩, hbw.setCell (p := ⟨g, 0, none⟩) hgw _⟩
    go_light
    simp [results, Try.results18, go_sem, TreeV, k0]
  | true =>
    have hvT := HV.out.1 rfl
    clear HV
    have hvt2 := specTree_any b cb bs w1 (hbs.below hbw) hnb
    go_wp2_with fail
    refine hvt2.mono ?_
    rintro e w2 ⟨vb2, rfl, hvb2, hb2⟩
    clear hvt2
    replace k0 := cell_later hb2 k0
    replace kf : w2.frozen? ⟨g, 0, none⟩ = false := (hb2.frozen (p := ⟨g, 0, none⟩) ks1).trans kf
    replace m0 := cell_later hb2 m0
    replace n0 := cell_later hb2 n0
    have ks2 : g < w2.heap.size := Nat.lt_of_lt_of_le ks1 hb2.size
    have hbw2 := hbw.trans (hb2.mono hbw.size)
    have HV2 : Keep (vb2 = true ↔ ValidTs bs) := ⟨hvb2⟩
    clear hvb2 hb2 hbw ks1
    cases vb2 with
    | false =>
      have hnv : ¬ ValidTs bs := fun h => by have := HV2.out.2 h; cases this
      go_wp2
      refine bodyPost_ret (v := TreeV none ([] : List En).length 0 1) ?_ rfl ⟨[], 1, .inl ⟨fun h => hnv h.2, rfl, rfl⟩, ⟨none, 0, rfl, EL.nil _ _ _⟩, hbw2.setCell (p := ⟨g, 0, none⟩) hgw _⟩
      go_light
      simp [results, Try.results18, go_sem, TreeV, k0]
    | true =>
      have HVV : Keep (ValidTs ts ∧ ValidTs bs) := ⟨⟨hvT, HV2.out.1 rfl⟩⟩
      have n1 : ts.length ≤ 100 := hvT.1
      have n2 : bs.length ≤ 100 := HVV.out.2.1
      clear hvT HV2
      have hcp := l5Copy_any b cb bs w2 (hbs.below hbw2) hnb hb
      go_wp2_with fail
      refine hcp.mono ?_
      rintro e w3 ⟨⟨ad3, cp3, rfl, hel3⟩, hb3⟩
      clear hcp
      replace k0 := cell_later hb3 k0
      replace kf : w3.frozen? ⟨g, 0, none⟩ = false := (hb3.frozen (p := ⟨g, 0, none⟩) ks2).trans kf
      replace m0 := cell_later hb3 m0
      replace n0 := cell_later hb3 n0
      have ks3 : g < w3.heap.size := Nat.lt_of_lt_of_le ks2 hb3.size
      have hbw3 := hbw2.trans (hb3.mono hbw2.size)
      have hg2 : g + 1 ≤ w2.heap.size := ks2
      clear hb3 hbw2 ks2
      have hba := (Below.refl w3.heap.size w3).alloc (Nat.le_refl _) (.cells #[.slice ad3 bs.length cp3] 31)
      have hst0 : OvSt (g + 1) w3.heap.size (w3.alloc (.cells #[.slice ad3 bs.length cp3] 31)) ad3 cp3 bs (w3.alloc (.cells #[.slice ad3 bs.length cp3] 31)) := by
        refine ⟨by simp, by simp [go_sem], (hel3.below hba).mono hg2, ?_, ⟨rfl, rfl, rfl, Nat.le_refl _, fun _ _ _ => rfl⟩, by simp⟩
        rcases hel3 with h | ⟨gg, rfl, _, hg2, _⟩
        · exact .inl h
        · exact .inr (fun e => by simp [blk] at e; omega)
      replace k0 := cell_later hba k0
      replace kf : (w3.alloc (.cells #[.slice ad3 bs.length cp3] 31)).frozen? ⟨g, 0, none⟩ = false := (hba.frozen (p := ⟨g, 0, none⟩) ks3).trans kf
      replace m0 := cell_later hba m0
      replace n0 := cell_later hba n0
      have hbwA := hbw3.trans (hba.mono hbw3.size)
      have hobg : g < w3.heap.size := ks3
      have hobw : w.heap.size ≤ w3.heap.size := hbw3.size
      have hAz : w3.heap.size < (w3.alloc (.cells #[.slice ad3 bs.length cp3] 31)).heap.size := by simp
      clear hba hbw3 ks3 hel3
      go_wp2
      generalize w3.alloc (.cells #[.slice ad3 bs.length cp3] 31) = W0 at *
      generalize w3.heap.size = ob at *
      go_loopw [7] (fun i wr => ∃ (k : Nat) (ad : Option Addr) (cap : Nat) (us : List En), i = .int .i64 k ∧ k ≤ ts.length ∧ Keep (OverRel (ts.take k) bs us) ∧ us.length ≤ bs.length + k ∧ OvSt (g + 1) ob W0 ad cap us wr) (fun i _ => ts.length - (intOf i).toNat)
      case atStart => exact ⟨0, ad3, cp3, bs, rfl, Nat.zero_le _, ⟨OverRel.start (valid_asc HVV.out.2)⟩, by omega, hst0⟩
      case round =>
        clear hst0
        obtain ⟨k, ad, cap, us, rfl, hk, HR, hul, hst⟩ := hrel
        have K0 := hst.keep k0 (by omega) (by omega)
        have KF := hst.keepF kf (by omega) (by omega)
        have M0 := hst.keep m0 (by omega) (by omega)
        have N0 := hst.keep n0 (by omega) (by omega)
        have o1 := hst.cell
        have hbr := hst.below hbwA hobw
        have hEr := hts.below hbr
        have hEb := hbs.below hbr
        have hWr := hst.grown.size
        by_cases hlt : k < ts.length
        · have hlt' : (k : Int) < ts.length := by omega
          obtain ⟨b1, off1, rfl, hc⟩ := hEr.at hlt
          obtain ⟨x0, x1, x2⟩ := hc k hlt
          clear hc hEr
          obtain ⟨xp, hxp⟩ : ∃ xp, xp = ts[k].path := ⟨_, rfl⟩
          rw [← hxp] at x0
          have HXP : Keep (xp = ts[k].path) := ⟨hxp⟩
          clear hxp
          go_wp2
          rename World => wo
          go_loopw [9, 10] (fun s9 s10 wi => ∃ j : Nat, j ≤ bs.length ∧ s9 = .bool (freeB (bs.take j) xp) ∧ s10 = .int .i64 (j : Int) ∧ Below wo.heap.size wo wi) (fun _ s10 _ => bs.length - (intOf s10).toNat)
          case atStart => exact ⟨0, Nat.zero_le _, rfl, rfl, Below.refl _ _⟩
          case round =>
            obtain ⟨j, hj, rfl, rfl, hB⟩ := hrel
            by_cases hjl : j < bs.length
            · have hjl' : (j : Int) < bs.length := by omega
              obtain ⟨b2, off2, rfl, dc⟩ := hEb.at hjl
              obtain ⟨yp, hyp⟩ : ∃ yp, yp = bs[j].path := ⟨_, rfl⟩
              have y0 := cell_later hB (dc j hjl).1
              rw [← hyp] at y0
              have yn := cell_later hB N0
              have HFT : Keep (freeB (bs.take (j + 1)) xp = (freeB (bs.take j) xp && !meetB xp yp)) := ⟨by rw [hyp]; exact freeB_take hjl⟩
              clear dc hyp
              generalize freeB (bs.take j) xp = fb at *
              cases hq : (xp.toList == yp.toList) with
              | true =>
                have HF : Keep (freeB (bs.take (j + 1)) xp = false) := ⟨by rw [HFT.out]; simp [meetB, hq]⟩
                go_wp2
                go_roundw
                case rel => exact ⟨j + 1, hjl, by rw [HF.out], by congr 1, hB⟩
                case measure => simp only [intOf]; omega
              | false =>
                cases h1 : beginsB xp yp with
                | true =>
                  have HF : Keep (freeB (bs.take (j + 1)) xp = false) := ⟨by rw [HFT.out]; simp [meetB, h1]⟩
                  have hc1 := begins_lit (d := xp) (p := yp) true (by rw [← beginsB_iff, h1]) wr
                  go_wp2_with fail
                  refine hc1.mono ?_
                  rintro e w5 ⟨rfl, hb5⟩
                  have hB5 := hB.trans (hb5.mono hB.size)
                  clear hc1
                  go_wp2
                  go_roundw
                  case rel => exact ⟨j + 1, hjl, by rw [HF.out], by congr 1, hB5⟩
                  case measure => simp only [intOf]; omega
                | false =>
                  have hc1 := begins_lit (d := xp) (p := yp) false (by rw [← beginsB_iff, h1]) wr
                  go_wp2_with fail
                  refine hc1.mono ?_
                  rintro e w5 ⟨rfl, hb5⟩
                  have hB5 := hB.trans (hb5.mono hB.size)
                  clear hc1
                  cases h2 : beginsB yp xp with
                  | true =>
                    have HF : Keep (freeB (bs.take (j + 1)) xp = false) := ⟨by rw [HFT.out]; simp [meetB, h2]⟩
                    have hc2 := begins_lit (d := yp) (p := xp) true (by rw [← beginsB_iff, h2]) w5
                    go_wp2_with fail
                    refine hc2.mono ?_
                    rintro e w6 ⟨rfl, hb6⟩
                    have hB6 := hB5.trans (hb6.mono hB5.size)
                    clear hc2
                    go_wp2
                    go_roundw
                    case rel => exact ⟨j + 1, hjl, by rw [HF.out], by congr 1, hB6⟩
                    case measure => simp only [intOf]; omega
                  | false =>
                    have HF : Keep (freeB (bs.take (j + 1)) xp = fb) := ⟨by rw [HFT.out]; simp [meetB, h1, h2, hq]⟩
                    have hc2 := begins_lit (d := yp) (p := xp) false (by rw [← beginsB_iff, h2]) w5
                    go_wp2_with fail
                    refine hc2.mono ?_
                    rintro e w6 ⟨rfl, hb6⟩
                    have hB6 := hB5.trans (hb6.mono hB5.size)
                    clear hc2
                    go_wp2
                    go_roundw
                    case rel => exact ⟨j + 1, hjl, by rw [HF.out], by congr 1, hB6⟩
                    case measure => simp only [intOf]; omega
            · obtain rfl : j = bs.length := by omega
              rw [List.take_length]
              replace hst := hst.later hB
              have yn := cell_later hB N0
              have yM := cell_later hB M0
              cases hf : freeB bs xp with
              | false =>
                have HR2 : Keep (OverRel (ts.take (k + 1)) bs us) := ⟨HR.out.skip hlt (by rw [← HXP.out]; exact hf)⟩
                clear hf
                go_wp2
                go_roundw
                case rel => exact ⟨k + 1, ad, cap, us, by congr 1, hlt, HR2, by omega, hst⟩
                case measure => simp only [intOf]; omega
              | true =>
                have HF : Keep (freeB bs ts[k].path = true) := ⟨by rw [← HXP.out]; exact hf⟩
                clear hf
                have X0 := cell_later hB x0
                have X1 := cell_later hB x1
                have X2 := cell_later hB x2
                rw [HXP.out] at X0
                replace hst := hst.later (show Below wr.heap.size wr wr.drew from (Below.refl _ _).drew)
                have o2 := hst.cell
                have f2 := hst.fz
                have hset := l5Set_any ad cap us ts[k] wr.drew hst.lst.es (by omega) HR.out.asc
                have hobr : ob < wr.drew.heap.size := Nat.lt_of_lt_of_le hst.lt hst.grown.size
                have hwr : g + 1 ≤ wr.drew.heap.size := by omega
                clear o1 x0 x1 x2
                go_wp2_with fail
                go_region_law (refine step_fn2 (by rfl) 30 _ _ _ _ (by rfl) (.agg #[.slice ad us.length cap]) (.agg #[.string ts[k].path, .string ts[k].text, .bool ts[k].runs]) (by rfl) (by rfl) (fun _ => by kernel_rfl) hset ?_; rintro e w4 ⟨ad4, cap4, us4, rfl, hrel4, hel4, hb4, hlen4⟩; refine ⟨_, rfl, ?_⟩; have o4 := cell_later hb4 o2; have f4 : w4.frozen? ⟨ob, 0, none⟩ = false := (hb4.frozen (p := ⟨ob, 0, none⟩) hobr).trans f2)
                all_goals
                  have hst4 := (hst.later hb4).put (cap' := cap4) hel4 hobr hwr
                  have HR4 : Keep (OverRel (ts.take (k + 1)) bs us4) := ⟨HR.out.set (valid_asc HVV.out.1) hlt HF.out hrel4⟩
                  clear hset hst o4 f4 o2 f2 hb4 hel4 hrel4 X0 X1 X2 yn yM
                  go_wp2
                  go_roundw
                  case rel => exact ⟨k + 1, ad4, cap4, us4, by congr 1, hlt, HR4, by omega, hst4⟩
                  case measure => simp only [intOf]; omega
        · obtain rfl : k = ts.length := by omega
          rw [List.take_length] at HR
          have hzr : g < wr.heap.size := by omega
          by_cases h100 : (100 : Int) < us.length
          · go_wp2
            refine bodyPost_ret (v := TreeV none ([] : List En).length 0 4) ?_ rfl ⟨[], 4, .inr ⟨HVV.out.1, HVV.out.2, us, HR.out, .inl ⟨by omega, rfl, rfl⟩⟩, ⟨none, 0, rfl, EL.nil _ _ _⟩, hbr.setCell (p := ⟨g, 0, none⟩) hgw _⟩
            go_light
            simp [results, Try.results18, go_sem, TreeV, K0]
          · have hel6 : EL w.heap.size (wr.setCell ⟨g, 0, none⟩ (.slice ad us.length cap)) ad us := (hst.lst.grown (row := some g) (grown_set0 wr g 0 (.slice ad us.length cap)) (fun j _ hj _ e => by cases e; omega)).mono (by omega)
            go_wp2
            refine bodyPost_ret (v := TreeV ad us.length cap 0) ?_ rfl ⟨us, 0, .inr ⟨HVV.out.1, HVV.out.2, us, HR.out, .inr ⟨by omega, rfl, rfl⟩⟩, ⟨ad, cap, rfl, hel6⟩, hbr.setCell (p := ⟨g, 0, none⟩) hgw _⟩
            go_light
            simp [results, Try.results18, go_sem, TreeV, K0]
end Go.Proofs.Ytmeodgcnnjkilaa
