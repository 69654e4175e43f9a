/-
  spec.Put.
-/
import Derived.Test.YtiadabmbfpfbjaaPutP
import Derived.Test.YtiadabmbfpfbjaaSetS
import Derived.Test.YtiadabmbfpfbjaaSpecTree
import Derived.Test.YtiadabmbfpfbjaaLaterQ
namespace Go.Proofs.Ytiadabmbfpfbjaa
open Go.RowKit

/-- Whether one of two is in the way of the other. -/
def wayB (x e : ByteArray) : Bool := beginsB x e || beginsB e x
theorem wayB_iff {x e : ByteArray} : wayB x e = true ↔ Begins x e ∨ Begins e x := by
  unfold wayB
  rw [Bool.or_eq_true, beginsB_iff, beginsB_iff]

theorem el_setQ {B g : Nat} {w : World} {a : Option Addr} {ts : List En} {u : Value} (h : EL B w a ts) (hg : g < B) : EL B (w.setCell ⟨g, 0, none⟩ u) a ts :=
  h.grown (row := some g) ⟨rfl, rfl, rfl, by simp, fun k _ hk => Below.heap_setCell _ _ _ _ (fun e => hk (by rw [e]))⟩ (fun k _ hk _ e => by cases e; omega)

/-- What Put gives, with the room that there is. -/
def PutPostC (ts : List En) (en : En) (w : World) (e : Ending) (w' : World) : Prop := ∃ us c, PutR ts en us c ∧ (∃ ad cap, e = .returned (TreeV ad us.length cap c) ∧ EL w.heap.size w' ad us ∧ us.length ≤ cap) ∧ Below w.heap.size w w'

set_option maxRecDepth 100000 in
set_option maxHeartbeats 4000000 in
theorem specPutC_any (a : Option Addr) (cap : Nat) (ts : List En) (en : En) (w : World) (hts : ES w a ts) (hn : ts.length ≤ 1048576) :
    Calls Try.prog 46 #[.agg #[.slice a ts.length cap], .agg #[.string en.path, .string en.text, .bool en.runs]] w fun e w' => PutPostC ts en w e w' := by
  have hal : Below w.heap.size w (((w.alloc (.cells #[.slice a ts.length cap] 25)).alloc (.cells #[.string en.path, .string en.text, .bool en.runs] 37)).alloc (.cells #[.slice none 0 0] 25)) := (((Below.refl _ _).alloc (Nat.le_refl _) _).alloc (by simp) _).alloc (by simp; omega) _
  have m0 : (((w.alloc (.cells #[.slice a ts.length cap] 25)).alloc (.cells #[.string en.path, .string en.text, .bool en.runs] 37)).alloc (.cells #[.slice none 0 0] 25)).cell? ⟨w.heap.size, 0, none⟩ = some (.slice a ts.length cap) := by simp [go_sem]
  have e0 : (((w.alloc (.cells #[.slice a ts.length cap] 25)).alloc (.cells #[.string en.path, .string en.text, .bool en.runs] 37)).alloc (.cells #[.slice none 0 0] 25)).cell? ⟨w.heap.size + 1, 0, none⟩ = some (.string en.path) := by simp [go_sem]
  have e1 : (((w.alloc (.cells #[.slice a ts.length cap] 25)).alloc (.cells #[.string en.path, .string en.text, .bool en.runs] 37)).alloc (.cells #[.slice none 0 0] 25)).cell? ⟨w.heap.size + 1, 1, none⟩ = some (.string en.text) := by simp [go_sem]
  have e2 : (((w.alloc (.cells #[.slice a ts.length cap] 25)).alloc (.cells #[.string en.path, .string en.text, .bool en.runs] 37)).alloc (.cells #[.slice none 0 0] 25)).cell? ⟨w.heap.size + 1, 2, none⟩ = some (.bool en.runs) := by simp [go_sem]
  have k0 : (((w.alloc (.cells #[.slice a ts.length cap] 25)).alloc (.cells #[.string en.path, .string en.text, .bool en.runs] 37)).alloc (.cells #[.slice none 0 0] 25)).cell? ⟨w.heap.size + 1 + 1, 0, none⟩ = some (.slice none 0 0) := by simp [go_sem]
  have kf : (((w.alloc (.cells #[.slice a ts.length cap] 25)).alloc (.cells #[.string en.path, .string en.text, .bool en.runs] 37)).alloc (.cells #[.slice none 0 0] 25)).frozen? ⟨w.heap.size + 1 + 1, 0, none⟩ = false := by simp [go_sem]
  have ks : w.heap.size + 1 + 1 < (((w.alloc (.cells #[.slice a ts.length cap] 25)).alloc (.cells #[.string en.path, .string en.text, .bool en.runs] 37)).alloc (.cells #[.slice none 0 0] 25)).heap.size := by simp [go_sem]
  go_enter Try.func46, Try.ntmps46
  go_wp2_with fail
  refine (specTree_any a cap ts _ (hts.below hal) hn).mono ?_
  rintro e w1 ⟨vb, rfl, hvb, hb1⟩
  generalize ((w.alloc (.cells #[.slice a ts.length cap] 25)).alloc (.cells #[.string en.path, .string en.text, .bool en.runs] 37)).alloc (.cells #[.slice none 0 0] 25) = w0 at *
  obtain ⟨g, hg⟩ : ∃ g, g = w.heap.size + 1 + 1 := ⟨_, rfl⟩
  obtain ⟨be, hbe⟩ : ∃ be, be = w.heap.size + 1 := ⟨_, rfl⟩
  obtain ⟨tb, htb⟩ : ∃ tb, tb = w.heap.size := ⟨_, rfl⟩
  rw [← hg] at k0 kf ks ⊢
  rw [← hbe] at e0 e1 e2 ⊢
  rw [← htb] at m0 ⊢
  have hgw : w.heap.size ≤ g := by omega
  have HS : Keep (tb = w.heap.size ∧ be = tb + 1 ∧ g = tb + 2) := ⟨by omega⟩
  clear hg hbe htb
  replace k0 := cell_later hb1 k0
  replace kf : w1.frozen? ⟨g, 0, none⟩ = false := (hb1.frozen (p := ⟨g, 0, none⟩) ks).trans kf
  replace e0 := cell_later hb1 e0
  replace e1 := cell_later hb1 e1
  replace e2 := cell_later hb1 e2
  replace m0 := cell_later hb1 m0
  have ks1 : g < w1.heap.size := Nat.lt_of_lt_of_le ks hb1.size
  have hbw := hal.trans (hb1.mono hal.size)
  have HV : Keep (vb = true ↔ ValidTs ts) := ⟨hvb⟩
  clear hb1 hal hvb ks
  cases vb with
  | false =>
    have hnv : ¬ ValidTs ts := fun h => by have := HV.out.2 h; cases this
    go_wp2
    refine bodyPost_ret (v := TreeV none ([] : List En).length 0 1) ?_ rfl ⟨[], 1, .inl ⟨hnv, rfl, rfl⟩, ⟨none, 0, rfl, EL.nil _ _ _, Nat.le_refl _⟩, hbw.setCell (p := ⟨g, 0, none⟩) hgw _⟩
    go_light
    simp [results, Try.results46, go_sem, TreeV, k0]
  | true =>
    have hv := HV.out.1 rfl
    go_wp2_with fail
    refine (specPath_any en.path w1).mono ?_
    rintro e w2 ⟨rfl, hb2⟩
    replace k0 := cell_later hb2 k0
    replace kf : w2.frozen? ⟨g, 0, none⟩ = false := (hb2.frozen (p := ⟨g, 0, none⟩) ks1).trans kf
    replace e0 := cell_later hb2 e0
    replace e1 := cell_later hb2 e1
    replace e2 := cell_later hb2 e2
    replace m0 := cell_later hb2 m0
    have ks2 : g < w2.heap.size := Nat.lt_of_lt_of_le ks1 hb2.size
    have hbw2 := hbw.trans (hb2.mono hbw.size)
    clear hb2 hbw ks1
    cases hpk : pathOk pathB en.path with
    | false =>
      have hok : enOk en = false := by simp [enOk, hpk]
      go_wp2
      refine bodyPost_ret (v := TreeV none ([] : List En).length 0 2) ?_ rfl ⟨[], 2, .inr (.inl ⟨hv, hok, rfl, rfl⟩), ⟨none, 0, rfl, EL.nil _ _ _, Nat.le_refl _⟩, hbw2.setCell (p := ⟨g, 0, none⟩) hgw _⟩
      go_light
      simp [results, Try.results46, go_sem, TreeV, k0]
    | true =>
      by_cases htx : (1500 : Int) < en.text.size
      · have hok : enOk en = false := by simp [enOk, hpk]; omega
        go_wp2
        refine bodyPost_ret (v := TreeV none ([] : List En).length 0 2) ?_ rfl ⟨[], 2, .inr (.inl ⟨hv, hok, rfl, rfl⟩), ⟨none, 0, rfl, EL.nil _ _ _, Nat.le_refl _⟩, hbw2.setCell (p := ⟨g, 0, none⟩) hgw _⟩
        go_light
        simp [results, Try.results46, go_sem, TreeV, k0]
      · have hok : enOk en = true := by simp [enOk, hpk]; omega
        go_wp2
        go_loopw [6] (fun i wr => ∃ k : Nat, i = .int .i64 k ∧ k ≤ ts.length ∧ Keep (∀ x ∈ ts.take k, wayB x.path en.path = false) ∧ Below w2.heap.size w2 wr) (fun i _ => ts.length - (intOf i).toNat)
        case atStart => exact ⟨0, rfl, Nat.zero_le _, ⟨fun x hx => by simp at hx⟩, Below.refl _ _⟩
        case round =>
          obtain ⟨k, rfl, hk, hno, hbr⟩ := hrel
          have mr := cell_later hbr m0
          have E0 := cell_later hbr e0
          have E1 := cell_later hbr e1
          have E2 := cell_later hbr e2
          have K0 := cell_later hbr k0
          have KF : wr.frozen? ⟨g, 0, none⟩ = false := (hbr.frozen (p := ⟨g, 0, none⟩) ks2).trans kf
          have hbw3 := hbw2.trans (hbr.mono hbw2.size)
          have hEr := hts.below hbw3
          have hzr : g < wr.heap.size := Nat.lt_of_lt_of_le ks2 hbr.size
          by_cases hlt : k < ts.length
          · have hlt' : (k : Int) < ts.length := by omega
            obtain ⟨b, off, rfl, hc⟩ := hEr.at hlt
            obtain ⟨x0, _, _⟩ := hc k hlt
            clear hc hEr
            obtain ⟨xp, hxp⟩ : ∃ xp, ts[k].path = xp := ⟨_, rfl⟩
            obtain ⟨ep, hep⟩ : ∃ ep, en.path = ep := ⟨_, rfl⟩
            have HXP : Keep (ts[k].path = xp ∧ en.path = ep) := ⟨⟨hxp, hep⟩⟩
            have cj : ∀ x : Later wr, x.world.cell? ⟨b, off + k * 3, none⟩ = some (.string xp) := fun x => by rw [← hxp]; exact cell_later x.kept x0
            have z0 : ∀ x : Later wr, x.world.cell? ⟨be, 0, none⟩ = some (.string ep) := fun x => by rw [← hep]; exact cell_later x.kept E0
            clear hxp hep
            have zT : ∀ x : Later wr, x.world.cell? ⟨tb, 0, none⟩ = some (.slice (some ⟨b, off, none⟩) ts.length cap) := fun x => cell_later x.kept mr
            have HK : Keep (wr.cell? ⟨g, 0, none⟩ = some (.slice none 0 0) ∧ wr.frozen? ⟨g, 0, none⟩ = false ∧ g < wr.heap.size) := ⟨⟨K0, KF, hzr⟩⟩
            have HB : Keep (Below w2.heap.size w2 wr ∧ Below w.heap.size w wr) := ⟨⟨hbr, hbw3⟩⟩
            clear x0 E0 E1 E2 K0 KF hzr hbr hbw3 e0 e1 e2 k0 kf m0 ks2 hbw2 hts
            cases hq1 : beginsB ts[k].path en.path with
            | true =>
              have HWY : Keep (wayB ts[k].path en.path = true) := ⟨by simp [wayB, hq1]⟩
              have HC1 : Keep (∀ x : Later wr, Calls Try.prog 24 #[.string xp, .string ep] x.world fun e w'' => e = .returned (.bool true) ∧ ∃ y : Later wr, w'' = y.world) := ⟨fun x => Later.call x (begins_lit true (by rw [← HXP.out.1, ← HXP.out.2, ← beginsB_iff, hq1]) _)⟩
              have HC2 := HC1
              clear hq1
              go_wp2_with fail
              (haveI := later_any; refine wp_region_later (by kernel_rfl) (by kernel_rfl) ?_; (repeat (go_big_quiet_step (first | (go_at_call_of 24 ([Value.string xp, Value.string ep] : List Value); exact HC1.out _) | (go_at_call_of 24 ([Value.string ep, Value.string xp] : List Value); exact HC2.out _)))); refine wpQuiet_nil ?_; intro _ hwq; obtain ⟨xq, hwq2⟩ := hwq; subst hwq2)
              have K1 := cell_later xq.kept HK.out.1
              have KF1 : xq.world.frozen? ⟨g, 0, none⟩ = false := (xq.kept.frozen (p := ⟨g, 0, none⟩) HK.out.2.2).trans HK.out.2.1
              have hbr1 : Below w2.heap.size w2 xq.world := HB.out.1.trans (xq.kept.mono HB.out.1.size)
              have hbw1 : Below w.heap.size w xq.world := HB.out.2.trans (xq.kept.mono HB.out.2.size)
              clear cj z0 zT
              have hway : InWay ts en := ⟨ts[k], List.getElem_mem hlt, wayB_iff.1 HWY.out⟩
              go_wp2
              refine bodyPost_ret (v := TreeV none ([] : List En).length 0 3) ?_ rfl ⟨[], 3, .inr (.inr (.inl ⟨hv, hok, hway, rfl, rfl⟩)), ⟨none, 0, rfl, EL.nil _ _ _, Nat.le_refl _⟩, hbw1.setCell (p := ⟨g, 0, none⟩) hgw _⟩
              go_light
              simp [results, Try.results46, go_sem, TreeV, K1]
            | false =>
              cases hq2 : beginsB en.path ts[k].path with
              | true =>
                have HWY : Keep (wayB ts[k].path en.path = true) := ⟨by simp [wayB, hq2]⟩
                have HC1 : Keep (∀ x : Later wr, Calls Try.prog 24 #[.string xp, .string ep] x.world fun e w'' => e = .returned (.bool false) ∧ ∃ y : Later wr, w'' = y.world) := ⟨fun x => Later.call x (begins_lit false (by rw [← HXP.out.1, ← HXP.out.2, ← beginsB_iff, hq1]) _)⟩
                have HC2 : Keep (∀ x : Later wr, Calls Try.prog 24 #[.string ep, .string xp] x.world fun e w'' => e = .returned (.bool true) ∧ ∃ y : Later wr, w'' = y.world) := ⟨fun x => Later.call x (begins_lit true (by rw [← HXP.out.1, ← HXP.out.2, ← beginsB_iff, hq2]) _)⟩
                clear hq1 hq2
                go_wp2_with fail
                (haveI := later_any; refine wp_region_later (by kernel_rfl) (by kernel_rfl) ?_; (repeat (go_big_quiet_step (first | (go_at_call_of 24 ([Value.string xp, Value.string ep] : List Value); exact HC1.out _) | (go_at_call_of 24 ([Value.string ep, Value.string xp] : List Value); exact HC2.out _)))); refine wpQuiet_nil ?_; intro _ hwq; obtain ⟨xq, hwq2⟩ := hwq; subst hwq2)
                have K1 := cell_later xq.kept HK.out.1
                have KF1 : xq.world.frozen? ⟨g, 0, none⟩ = false := (xq.kept.frozen (p := ⟨g, 0, none⟩) HK.out.2.2).trans HK.out.2.1
                have hbr1 : Below w2.heap.size w2 xq.world := HB.out.1.trans (xq.kept.mono HB.out.1.size)
                have hbw1 : Below w.heap.size w xq.world := HB.out.2.trans (xq.kept.mono HB.out.2.size)
                clear cj z0 zT
                have hway : InWay ts en := ⟨ts[k], List.getElem_mem hlt, wayB_iff.1 HWY.out⟩
                go_wp2
                refine bodyPost_ret (v := TreeV none ([] : List En).length 0 3) ?_ rfl ⟨[], 3, .inr (.inr (.inl ⟨hv, hok, hway, rfl, rfl⟩)), ⟨none, 0, rfl, EL.nil _ _ _, Nat.le_refl _⟩, hbw1.setCell (p := ⟨g, 0, none⟩) hgw _⟩
                go_light
                simp [results, Try.results46, go_sem, TreeV, K1]
              | false =>
                have HNO : Keep (∀ x ∈ ts.take (k + 1), wayB x.path en.path = false) := ⟨fun x hx => by
                  rcases (mem_take_succ hlt x).1 hx with h3 | rfl
                  · exact hno.out x h3
                  · simp [wayB, hq1, hq2]⟩
                have HC1 : Keep (∀ x : Later wr, Calls Try.prog 24 #[.string xp, .string ep] x.world fun e w'' => e = .returned (.bool false) ∧ ∃ y : Later wr, w'' = y.world) := ⟨fun x => Later.call x (begins_lit false (by rw [← HXP.out.1, ← HXP.out.2, ← beginsB_iff, hq1]) _)⟩
                have HC2 : Keep (∀ x : Later wr, Calls Try.prog 24 #[.string ep, .string xp] x.world fun e w'' => e = .returned (.bool false) ∧ ∃ y : Later wr, w'' = y.world) := ⟨fun x => Later.call x (begins_lit false (by rw [← HXP.out.1, ← HXP.out.2, ← beginsB_iff, hq2]) _)⟩
                clear hq1 hq2
                go_wp2_with fail
                (haveI := later_any; refine wp_region_later (by kernel_rfl) (by kernel_rfl) ?_; (repeat (go_big_quiet_step (first | (go_at_call_of 24 ([Value.string xp, Value.string ep] : List Value); exact HC1.out _) | (go_at_call_of 24 ([Value.string ep, Value.string xp] : List Value); exact HC2.out _)))); refine wpQuiet_nil ?_; intro _ hwq; obtain ⟨xq, hwq2⟩ := hwq; subst hwq2)
                have K1 := cell_later xq.kept HK.out.1
                have KF1 : xq.world.frozen? ⟨g, 0, none⟩ = false := (xq.kept.frozen (p := ⟨g, 0, none⟩) HK.out.2.2).trans HK.out.2.1
                have hbr1 : Below w2.heap.size w2 xq.world := HB.out.1.trans (xq.kept.mono HB.out.1.size)
                have hbw1 : Below w.heap.size w xq.world := HB.out.2.trans (xq.kept.mono HB.out.2.size)
                clear cj z0 zT
                go_wp2
                go_roundw
                case rel => exact ⟨k + 1, by congr 1, hlt, HNO, hbr1⟩
                case measure => simp only [intOf]; omega
          · obtain rfl : k = ts.length := by omega
            have hfree : ¬ InWay ts en := fun ⟨x, hx, hw⟩ => by
              have := hno.out x (by rw [List.take_length]; exact hx)
              rw [wayB_iff.2 hw] at this
              cases this
            have hset := l5SetC_any a cap ts en wr hEr hn (valid_asc hv)
            clear hno hEr
            go_wp2_with fail
            refine hset.mono ?_
            rintro e w4 ⟨ad, cap4, us, rfl, hrel, hel, hb4, hlen, hroom⟩
            replace K0 := cell_later hb4 K0
            replace KF : w4.frozen? ⟨g, 0, none⟩ = false := (hb4.frozen (p := ⟨g, 0, none⟩) hzr).trans KF
            have hbw4 := hbw3.trans (hb4.mono hbw3.size)
            have hz4 : g < w4.heap.size := Nat.lt_of_lt_of_le hzr hb4.size
            have Ka : ∀ u o, ((w4.setCell ⟨g, 0, none⟩ u).alloc o).cell? ⟨g, 0, none⟩ = some u := fun u o => cell_later ((Below.refl _ _).alloc (Nat.le_refl _) _) (World.cell?_setCell_same _ _ _ K0)
            have hbw5 : ∀ u o, Below w.heap.size w ((w4.setCell ⟨g, 0, none⟩ u).alloc o) := fun u o => (hbw4.setCell (p := ⟨g, 0, none⟩) hgw u).alloc (hbw4.setCell (p := ⟨g, 0, none⟩) hgw u).size o
            have hel5 : ∀ u o, EL w.heap.size ((w4.setCell ⟨g, 0, none⟩ u).alloc o) ad us := fun u o => ((el_setQ (u := u) hel hzr).below ((Below.refl _ _).alloc (Nat.le_refl _) _)).mono hbw3.size
            clear hset hb4 mr E0 E1 E2 hel
            by_cases h100 : (100 : Int) < us.length
            · go_wp2
              refine bodyPost_ret (v := TreeV none ([] : List En).length 0 4) ?_ rfl ⟨[], 4, .inr (.inr (.inr ⟨hv, hok, hfree, us, hrel, .inl ⟨by omega, rfl, rfl⟩⟩)), ⟨none, 0, rfl, EL.nil _ _ _, Nat.le_refl _⟩, hbw5 _ _⟩
              go_light
              simp [results, Try.results46, go_sem, TreeV, Ka]
            · go_wp2
              refine bodyPost_ret (v := TreeV ad us.length cap4 0) ?_ rfl ⟨us, 0, .inr (.inr (.inr ⟨hv, hok, hfree, us, hrel, .inr ⟨by omega, rfl, rfl⟩⟩)), ⟨ad, cap4, rfl, hel5 _ _, hroom⟩, hbw5 _ _⟩
              go_light
              simp [results, Try.results46, go_sem, TreeV, Ka]

theorem specPut_any (a : Option Addr) (cap : Nat) (ts : List En) (en : En) (w : World) (hts : ES w a ts) (hn : ts.length ≤ 1048576) :
    Calls Try.prog 46 #[.agg #[.slice a ts.length cap], .agg #[.string en.path, .string en.text, .bool en.runs]] w fun e w' => PutPost ts en w e w' :=
  (specPutC_any a cap ts en w hts hn).mono (fun _ _ ⟨us, c, h1, ⟨ad, cp, h2, h3, _⟩, h4⟩ => ⟨us, c, h1, ⟨ad, cp, h2, h3⟩, h4⟩)
end Go.Proofs.Ytiadabmbfpfbjaa
