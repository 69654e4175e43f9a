/-
  impl.readLine: a line taken apart.
-/
import Derived.Test.YtlgdfeacnalekaaDoorShowP
import Derived.Test.YtlgdfeacnalekaaDoorTrimH
import Derived.Test.YtlgdfeacnalekaaDoorPartOk
import Derived.Test.YtlgdfeacnalekaaDoorStrsB
import Derived.WalkSmall
namespace Go.Proofs.YtlgdfeacnalekaaDoor
open Go.RowKit

theorem belowS_one (W : World) (o : Obj) : Below W.heap.size W (W.alloc o) := (Below.refl _ _).alloc (Nat.le_refl _) _
theorem keptS {w A B : World} (h : Below w.heap.size w A) (h2 : Below A.heap.size A B) : Below w.heap.size w B := h.trans (h2.mono h.size)

set_option maxHeartbeats 1000000 in
theorem isFileL_any (m n d : ByteArray) (w : World) :
    Calls Tryd.prog 24 #[.agg #[.string m, .string n, .string d]] w fun e w' => e = .returned (.bool ((m.toList == [102]) || (m.toList == [120]))) ∧ Below w.heap.size w w' := by
  have hb := belowS_one w (.cells #[.string m, .string n, .string d] 61)
  cases h1 : (m.toList == [102]) with
  | true =>
    go_enter Tryd.func24, Tryd.ntmps24
    go_wp2
    go_ret
    exact ⟨rfl, hb⟩
  | false =>
    go_enter Tryd.func24, Tryd.ntmps24
    go_wp2
    go_ret
    exact ⟨rfl, hb⟩
/-- A piece without its newline; whether it has one. -/
def chop (p : ByteArray) : ByteArray := ⟨(Lib.trimSuffix p.data.toList [10]).toArray⟩
def ends (p : ByteArray) : Bool := Lib.hasSuffix p.data.toList [10]
def lnV (l : ByteArray) : Value := .agg #[.string (cutHeadS l), .string (cutHeadS (cutRestS l)), .string (cutRestS (cutRestS l))]
theorem chop_size (p : ByteArray) : (chop p).size ≤ p.size := by
  unfold chop Lib.trimSuffix
  split
  · show (mkB _).size ≤ _
    rw [mkB_size, List.length_take, Lib.size_eq]
    omega
  · show (mkB _).size ≤ _
    rw [mkB_size, Lib.size_eq]
    omega
theorem cutRestS_size (s : ByteArray) : (cutRestS s).size ≤ s.size := by
  rcases cutS_cases s with ⟨x, y, e, _, _, h⟩ | ⟨_, _, h⟩
  · rw [h, mkB_size, Lib.size_eq, e]
    simp
    omega
  · rw [h]
    exact Nat.zero_le _
theorem part_below {s : ByteArray} {w w' : World} (h : w' = w ∨ ∃ pos, w' = w.iter s pos) : Below w.heap.size w w' := by
  rcases h with rfl | ⟨pos, rfl⟩
  · exact Below.refl _ _
  · exact belowS_one _ _
/-- The line in its box beside the result's. -/
structure RL (w : World) (g b : Nat) (m n d : ByteArray) (W : World) : Prop where
  r0 : W.cell? ⟨g, 0, none⟩ = some (.string ⟨#[]⟩)
  r1 : W.cell? ⟨g, 1, none⟩ = some (.string ⟨#[]⟩)
  r2 : W.cell? ⟨g, 2, none⟩ = some (.string ⟨#[]⟩)
  rf : ∀ j, W.frozen? ⟨g, j, none⟩ = false
  x0 : W.cell? ⟨b, 0, none⟩ = some (.string m)
  x1 : W.cell? ⟨b, 1, none⟩ = some (.string n)
  x2 : W.cell? ⟨b, 2, none⟩ = some (.string d)
  bw : Below w.heap.size w W
  lo : w.heap.size ≤ g
theorem RL.later {w : World} {g b : Nat} {m n d : ByteArray} {W W' : World} (h : RL w g b m n d W) (hb : Below W.heap.size W W') : RL w g b m n d W' :=
  ⟨cell_later hb h.r0, cell_later hb h.r1, cell_later hb h.r2, fun j => (hb.frozen (p := ⟨g, j, none⟩) (World.block_lt_of_cell? W ⟨g, 0, none⟩ h.r0)).trans (h.rf j), cell_later hb h.x0, cell_later hb h.x1, cell_later hb h.x2, keptS h.bw hb, h.lo⟩
theorem RL.ret {w : World} {g b : Nat} {m n d : ByteArray} {W : World} (h : RL w g b m n d W) :
    (((W.setCell ⟨g, 0, none⟩ (.string m)).setCell ⟨g, 1, none⟩ (.string n)).setCell ⟨g, 2, none⟩ (.string d)).cell? ⟨g, 0, none⟩ = some (.string m) ∧
    (((W.setCell ⟨g, 0, none⟩ (.string m)).setCell ⟨g, 1, none⟩ (.string n)).setCell ⟨g, 2, none⟩ (.string d)).cell? ⟨g, 1, none⟩ = some (.string n) ∧
    (((W.setCell ⟨g, 0, none⟩ (.string m)).setCell ⟨g, 1, none⟩ (.string n)).setCell ⟨g, 2, none⟩ (.string d)).cell? ⟨g, 2, none⟩ = some (.string d) ∧
    Below w.heap.size w (((W.setCell ⟨g, 0, none⟩ (.string m)).setCell ⟨g, 1, none⟩ (.string n)).setCell ⟨g, 2, none⟩ (.string d)) := by
  have q : ∀ {Y : World} {i j : Nat} {v u : Value}, i ≠ j → Y.cell? ⟨g, j, none⟩ = some u → (Y.setCell ⟨g, i, none⟩ v).cell? ⟨g, j, none⟩ = some u := fun hn hc => (World.cell?_setCell_other _ _ _ _ (fun e => hn (by injection e))).trans hc
  exact ⟨q (by omega) (q (by omega) (World.cell?_setCell_same _ _ _ h.r0)), q (by omega) (World.cell?_setCell_same _ _ _ (q (by omega) h.r1)), World.cell?_setCell_same _ _ _ (q (by omega) (q (by omega) h.r2)), ((h.bw.setCell (p := ⟨g, 0, none⟩) h.lo _).setCell (p := ⟨g, 1, none⟩) h.lo _).setCell (p := ⟨g, 2, none⟩) h.lo _⟩

set_option maxRecDepth 100000 in
set_option maxHeartbeats 4000000 in
theorem readLine_any (p : ByteArray) (wd : Nat) (w : World) (hs : p.size ≤ 1099511627776) (hw : wd ≤ 8) :
    Calls Tryd.prog 42 #[.string p, .int .i64 wd] w fun e w' => e = .returned (.tuple #[lnV (chop p), .bool (ends p && cutOk wd (chop p))]) ∧ Below w.heap.size w w' := by
  have hc1 : (chop p).size ≤ 1099511627776 := Nat.le_trans (chop_size p) hs
  have hc2 : (cutRestS (chop p)).size ≤ 1099511627776 := Nat.le_trans (cutRestS_size _) hc1
  have hc3 : (cutRestS (cutRestS (chop p))).size ≤ 1099511627776 := Nat.le_trans (cutRestS_size _) hc2
  have HE : Keep (∀ l : ByteArray, cutOk wd l = ((((cutHeadS l).toList == [100]) || (((cutHeadS l).toList == [102]) || ((cutHeadS l).toList == [120]))) && partOk pathB (cutHeadS (cutRestS l)) && decide ((cutRestS (cutRestS l)).size = 2 * wd) && (cutRestS (cutRestS l)).data.toList.all hexB)) := ⟨fun _ => rfl⟩
  have h1 := cutSuf_any p (w.alloc (.cells #[.string ⟨#[]⟩, .string ⟨#[]⟩, .string ⟨#[]⟩] 61)) hs
  change Calls _ _ _ _ (fun e w' => e = .returned (.tuple #[.string (chop p), .bool (ends p)]) ∧ w' = _) at h1
  have h2 := fun W => cutS_any (chop p) W hc1
  have h3 := fun W => cutS_any (cutRestS (chop p)) W hc2
  go_enter Tryd.func42, Tryd.ntmps42
  go_wp2_with fail
  refine h1.mono ?_
  rintro e w1 ⟨rfl, rfl⟩
  go_wp2_with fail
  refine (h2 _).mono ?_
  rintro e w2 ⟨rfl, n1, hw2⟩
  have hq1 : Below (w.alloc (.cells #[.string ⟨#[]⟩, .string ⟨#[]⟩, .string ⟨#[]⟩] 61)).heap.size (w.alloc (.cells #[.string ⟨#[]⟩, .string ⟨#[]⟩, .string ⟨#[]⟩] 61)) w2 := by rw [hw2]; exact below_drewN (Below.refl _ _) n1
  clear hw2
  go_wp2_with fail
  refine (h3 _).mono ?_
  rintro e w3 ⟨rfl, n2, hw3⟩
  have hq : Below (w.alloc (.cells #[.string ⟨#[]⟩, .string ⟨#[]⟩, .string ⟨#[]⟩] 61)).heap.size (w.alloc (.cells #[.string ⟨#[]⟩, .string ⟨#[]⟩, .string ⟨#[]⟩] 61)) w3 := keptS hq1 (by rw [hw3]; exact below_drewN (Below.refl _ _) n2)
  clear hw3 hq1
  have hb0 := belowS_one w (.cells #[.string ⟨#[]⟩, .string ⟨#[]⟩, .string ⟨#[]⟩] 61)
  have hb1 := keptS hb0 hq
  have hb2 := belowS_one w3 (.cells #[.string (cutHeadS (chop p)), .string (cutHeadS (cutRestS (chop p))), .string (cutRestS (cutRestS (chop p)))] 61)
  have hR : RL w w.heap.size w3.heap.size (cutHeadS (chop p)) (cutHeadS (cutRestS (chop p))) (cutRestS (cutRestS (chop p))) (w3.alloc (.cells #[.string (cutHeadS (chop p)), .string (cutHeadS (cutRestS (chop p))), .string (cutRestS (cutRestS (chop p)))] 61)) :=
    ⟨cell_later hb2 (cell_later hq (by simp)), cell_later hb2 (cell_later hq (by simp)), cell_later hb2 (cell_later hq (by simp)), fun j => (hb2.frozen (p := ⟨w.heap.size, j, none⟩) (Nat.lt_of_lt_of_le (show w.heap.size < (w.alloc (.cells #[.string ⟨#[]⟩, .string ⟨#[]⟩, .string ⟨#[]⟩] 61)).heap.size by simp) hq.size)).trans ((hq.frozen (p := ⟨w.heap.size, j, none⟩) (by simp)).trans (by simp)), by simp, by simp, by simp, keptS hb1 hb2, Nat.le_refl _⟩
  clear h1 h2 h3 hb0 hq hb1 hb2
  go_upto_region 5 with fail
  generalize w3.alloc (.cells #[.string (cutHeadS (chop p)), .string (cutHeadS (cutRestS (chop p))), .string (cutRestS (cutRestS (chop p)))] 61) = X at *
  generalize w3.heap.size = b at *
  have HV : Keep (lnV (chop p) = .agg #[.string (cutHeadS (chop p)), .string (cutHeadS (cutRestS (chop p))), .string (cutRestS (cutRestS (chop p)))]) := ⟨rfl⟩
  have HOK : Keep _ := ⟨HE.out (chop p)⟩
  clear HE hc1 hc2
  generalize cutHeadS (chop p) = m at *
  generalize cutHeadS (cutRestS (chop p)) = n at *
  generalize cutRestS (cutRestS (chop p)) = d at *
  have hwd : IntKind.i64.wrap (2 * (wd : Int)) = 2 * (wd : Int) := by rw [IntKind.wrap_i64]; omega
  obtain ⟨g, hg⟩ : ∃ g, g = w.heap.size := ⟨_, rfl⟩
  have HG : Keep (g = w.heap.size) := ⟨hg⟩
  rw [← hg] at hR ⊢
  clear hg
  cases hq : ends p with
  | false =>
    have HQ : Keep (ends p = false) := ⟨hq⟩
    obtain ⟨k0, k1, k2, kb⟩ := hR.ret
    have HP : Keep _ := ⟨kb⟩
    have r0 := hR.r0; have r1 := hR.r1; have r2 := hR.r2; have rf := hR.rf; have x0 := hR.x0; have x1 := hR.x1; have x2 := hR.x2
    clear hR kb
    go_wp2
    refine bodyPost_ret (v := .tuple #[.agg #[.string m, .string n, .string d], .bool false]) ?_ rfl ⟨by rw [HV.out, HQ.out, HOK.out]; simp, HP.out⟩
    go_light
    simp [results, Tryd.results42, go_sem, k0, k1, k2]
  | true =>
    have HQ : Keep (ends p = true) := ⟨hq⟩
    cases h1 : (m.toList == [100]) with
    | true =>
      have HK : Keep ((m.toList == [100]) = true) := ⟨h1⟩
      have x0 := hR.x0; have x1 := hR.x1; have x2 := hR.x2
      go_wp2_with fail
      refine (isPart_any 32 pathB pathFn n _).mono ?_
      rintro e w5 ⟨rfl, hw5⟩
      have hb5 := part_below hw5
      replace hR := hR.later hb5
      clear hw5 hb5
      cases hpn : partOk pathB n with
      | false =>
        have HPN : Keep (partOk pathB n = false) := ⟨hpn⟩
        clear hpn
        obtain ⟨k0, k1, k2, kb⟩ := hR.ret
        have HP : Keep _ := ⟨kb⟩
        have r0 := hR.r0; have r1 := hR.r1; have r2 := hR.r2; have rf := hR.rf; have x0 := hR.x0; have x1 := hR.x1; have x2 := hR.x2
        clear hR kb
        go_wp2
        refine bodyPost_ret (v := .tuple #[.agg #[.string m, .string n, .string d], .bool false]) ?_ rfl ⟨by rw [HV.out, HQ.out, HOK.out, HK.out, HPN.out]; simp, HP.out⟩
        go_light
        simp [results, Tryd.results42, go_sem, k0, k1, k2]
      | true =>
        have HPN : Keep (partOk pathB n = true) := ⟨hpn⟩
        clear hpn
        by_cases hd : d.size = 2 * wd
        · have hd1 : ((d.size : Int) == 2 * (wd : Int)) = true := by simp; omega
          have HD : Keep (decide (d.size = 2 * wd) = true) := ⟨by simpa using hd⟩
          have hdd : (d.size : Int) = 2 * (wd : Int) := by omega
          clear hd
          go_wp2_with fail
          refine (trim_any d _ hc3).mono ?_
          rintro e w6 ⟨rfl, hb6⟩
          replace hR := hR.later hb6
          have HT : Keep ((⟨(Lib.trimS d.data.toList hexS.data.toList).toArray⟩ : ByteArray).toList = [] ↔ d.data.toList.all hexB = true) := ⟨by rw [toL]; exact trimS_nil⟩
          generalize (⟨(Lib.trimS d.data.toList hexS.data.toList).toArray⟩ : ByteArray) = t at *
          clear hb6
          by_cases ht : t.toList = []
          · have ht1 : (t.toList == []) = true := by simp [ht]
            have ht2 : t.toList.isEmpty = true := by simp [ht]
            have HX : Keep (d.data.toList.all hexB = true) := ⟨HT.out.1 ht⟩
            clear ht HT
            obtain ⟨k0, k1, k2, kb⟩ := hR.ret
            have HP : Keep _ := ⟨kb⟩
            have r0 := hR.r0; have r1 := hR.r1; have r2 := hR.r2; have rf := hR.rf; have x0 := hR.x0; have x1 := hR.x1; have x2 := hR.x2
            clear hR kb
            go_wp2
            refine bodyPost_ret (v := .tuple #[.agg #[.string m, .string n, .string d], .bool true]) ?_ rfl ⟨by rw [HV.out, HQ.out, HOK.out, HK.out, HPN.out, HD.out, HX.out]; simp, HP.out⟩
            go_light
            simp [results, Tryd.results42, go_sem, k0, k1, k2]
          · have ht1 : (t.toList == []) = false := by simpa using ht
            have ht2 : t.toList.isEmpty = false := by simpa using ht
            have HX : Keep (d.data.toList.all hexB = false) := ⟨by rw [Bool.eq_false_iff]; exact fun h => ht (HT.out.2 h)⟩
            clear ht HT
            obtain ⟨k0, k1, k2, kb⟩ := hR.ret
            have HP : Keep _ := ⟨kb⟩
            have r0 := hR.r0; have r1 := hR.r1; have r2 := hR.r2; have rf := hR.rf; have x0 := hR.x0; have x1 := hR.x1; have x2 := hR.x2
            clear hR kb
            go_wp2
            refine bodyPost_ret (v := .tuple #[.agg #[.string m, .string n, .string d], .bool false]) ?_ rfl ⟨by rw [HV.out, HQ.out, HOK.out, HK.out, HPN.out, HD.out, HX.out]; simp, HP.out⟩
            go_light
            simp [results, Tryd.results42, go_sem, k0, k1, k2]
        · have hd1 : ((d.size : Int) == 2 * (wd : Int)) = false := by simp; omega
          have HD : Keep (decide (d.size = 2 * wd) = false) := ⟨by simpa using hd⟩
          have hdd : ¬ (d.size : Int) = 2 * (wd : Int) := by omega
          clear hd
          obtain ⟨k0, k1, k2, kb⟩ := hR.ret
          have HP : Keep _ := ⟨kb⟩
          have r0 := hR.r0; have r1 := hR.r1; have r2 := hR.r2; have rf := hR.rf; have x0 := hR.x0; have x1 := hR.x1; have x2 := hR.x2
          clear hR kb
          go_wp2
          refine bodyPost_ret (v := .tuple #[.agg #[.string m, .string n, .string d], .bool false]) ?_ rfl ⟨by rw [HV.out, HQ.out, HOK.out, HK.out, HPN.out, HD.out]; simp, HP.out⟩
          go_light
          simp [results, Tryd.results42, go_sem, k0, k1, k2]
    | false =>
      have HK : Keep ((m.toList == [100]) = false) := ⟨h1⟩
      have x0 := hR.x0; have x1 := hR.x1; have x2 := hR.x2
      go_wp2_with fail
      refine (isFileL_any m n d _).mono ?_
      rintro e w4 ⟨rfl, hb4⟩
      replace hR := hR.later hb4
      clear x0 x1 x2 hb4
      cases h2 : ((m.toList == [102]) || (m.toList == [120])) with
      | false =>
        have HF : Keep (((m.toList == [102]) || (m.toList == [120])) = false) := ⟨h2⟩
        clear h2
        obtain ⟨k0, k1, k2, kb⟩ := hR.ret
        have HP : Keep _ := ⟨kb⟩
        have r0 := hR.r0; have r1 := hR.r1; have r2 := hR.r2; have rf := hR.rf; have x0 := hR.x0; have x1 := hR.x1; have x2 := hR.x2
        clear hR kb
        go_wp2
        refine bodyPost_ret (v := .tuple #[.agg #[.string m, .string n, .string d], .bool false]) ?_ rfl ⟨by rw [HV.out, HQ.out, HOK.out, HK.out, HF.out]; simp, HP.out⟩
        go_light
        simp [results, Tryd.results42, go_sem, k0, k1, k2]
      | true =>
        have HF : Keep (((m.toList == [102]) || (m.toList == [120])) = true) := ⟨h2⟩
        clear h2
        go_wp2_with fail
        refine (isPart_any 32 pathB pathFn n _).mono ?_
        rintro e w5 ⟨rfl, hw5⟩
        have hb5 := part_below hw5
        replace hR := hR.later hb5
        clear hw5 hb5
        cases hpn : partOk pathB n with
        | false =>
          have HPN : Keep (partOk pathB n = false) := ⟨hpn⟩
          clear hpn
          obtain ⟨k0, k1, k2, kb⟩ := hR.ret
          have HP : Keep _ := ⟨kb⟩
          have r0 := hR.r0; have r1 := hR.r1; have r2 := hR.r2; have rf := hR.rf; have x0 := hR.x0; have x1 := hR.x1; have x2 := hR.x2
          clear hR kb
          go_wp2
          refine bodyPost_ret (v := .tuple #[.agg #[.string m, .string n, .string d], .bool false]) ?_ rfl ⟨by rw [HV.out, HQ.out, HOK.out, HK.out, HF.out, HPN.out]; simp, HP.out⟩
          go_light
          simp [results, Tryd.results42, go_sem, k0, k1, k2]
        | true =>
          have HPN : Keep (partOk pathB n = true) := ⟨hpn⟩
          clear hpn
          by_cases hd : d.size = 2 * wd
          · have hd1 : ((d.size : Int) == 2 * (wd : Int)) = true := by simp; omega
            have HD : Keep (decide (d.size = 2 * wd) = true) := ⟨by simpa using hd⟩
            have hdd : (d.size : Int) = 2 * (wd : Int) := by omega
            clear hd
            go_wp2_with fail
            refine (trim_any d _ hc3).mono ?_
            rintro e w6 ⟨rfl, hb6⟩
            replace hR := hR.later hb6
            have HT : Keep ((⟨(Lib.trimS d.data.toList hexS.data.toList).toArray⟩ : ByteArray).toList = [] ↔ d.data.toList.all hexB = true) := ⟨by rw [toL]; exact trimS_nil⟩
            generalize (⟨(Lib.trimS d.data.toList hexS.data.toList).toArray⟩ : ByteArray) = t at *
            clear hb6
            by_cases ht : t.toList = []
            · have ht1 : (t.toList == []) = true := by simp [ht]
              have ht2 : t.toList.isEmpty = true := by simp [ht]
              have HX : Keep (d.data.toList.all hexB = true) := ⟨HT.out.1 ht⟩
              clear ht HT
              obtain ⟨k0, k1, k2, kb⟩ := hR.ret
              have HP : Keep _ := ⟨kb⟩
              have r0 := hR.r0; have r1 := hR.r1; have r2 := hR.r2; have rf := hR.rf; have x0 := hR.x0; have x1 := hR.x1; have x2 := hR.x2
              clear hR kb
              go_wp2
              refine bodyPost_ret (v := .tuple #[.agg #[.string m, .string n, .string d], .bool true]) ?_ rfl ⟨by rw [HV.out, HQ.out, HOK.out, HK.out, HF.out, HPN.out, HD.out, HX.out]; simp, HP.out⟩
              go_light
              simp [results, Tryd.results42, go_sem, k0, k1, k2]
            · have ht1 : (t.toList == []) = false := by simpa using ht
              have ht2 : t.toList.isEmpty = false := by simpa using ht
              have HX : Keep (d.data.toList.all hexB = false) := ⟨by rw [Bool.eq_false_iff]; exact fun h => ht (HT.out.2 h)⟩
              clear ht HT
              obtain ⟨k0, k1, k2, kb⟩ := hR.ret
              have HP : Keep _ := ⟨kb⟩
              have r0 := hR.r0; have r1 := hR.r1; have r2 := hR.r2; have rf := hR.rf; have x0 := hR.x0; have x1 := hR.x1; have x2 := hR.x2
              clear hR kb
              go_wp2
              refine bodyPost_ret (v := .tuple #[.agg #[.string m, .string n, .string d], .bool false]) ?_ rfl ⟨by rw [HV.out, HQ.out, HOK.out, HK.out, HF.out, HPN.out, HD.out, HX.out]; simp, HP.out⟩
              go_light
              simp [results, Tryd.results42, go_sem, k0, k1, k2]
          · have hd1 : ((d.size : Int) == 2 * (wd : Int)) = false := by simp; omega
            have HD : Keep (decide (d.size = 2 * wd) = false) := ⟨by simpa using hd⟩
            have hdd : ¬ (d.size : Int) = 2 * (wd : Int) := by omega
            clear hd
            obtain ⟨k0, k1, k2, kb⟩ := hR.ret
            have HP : Keep _ := ⟨kb⟩
            have r0 := hR.r0; have r1 := hR.r1; have r2 := hR.r2; have rf := hR.rf; have x0 := hR.x0; have x1 := hR.x1; have x2 := hR.x2
            clear hR kb
            go_wp2
            refine bodyPost_ret (v := .tuple #[.agg #[.string m, .string n, .string d], .bool false]) ?_ rfl ⟨by rw [HV.out, HQ.out, HOK.out, HK.out, HF.out, HPN.out, HD.out]; simp, HP.out⟩
            go_light
            simp [results, Tryd.results42, go_sem, k0, k1, k2]
end Go.Proofs.YtlgdfeacnalekaaDoor
