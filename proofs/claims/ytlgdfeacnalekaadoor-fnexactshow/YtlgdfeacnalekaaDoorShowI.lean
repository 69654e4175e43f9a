/-
  impl.Show.
-/
import Derived.Test.YtlgdfeacnalekaaDoorShowR
import Derived.Test.YtlgdfeacnalekaaDoorEntOf
namespace Go.Proofs.YtlgdfeacnalekaaDoor
open Go.RowKit

set_option maxRecDepth 20000 in
set_option maxHeartbeats 1000000 in
theorem isFileS_any (there : Bool) (text : ByteArray) (w : World) :
    Calls Tryd.prog 21 #[.agg #[.bool there, .string text, .bool false]] w fun e w' => e = .returned (.bool (flS there text)) ∧ Below w.heap.size w w' := by
  have hal : Below w.heap.size w (w.alloc (.cells #[.bool there, .string text, .bool false] 53)) := (Below.refl _ _).alloc (Nat.le_refl _) _
  cases ht : there with
  | true =>
    go_enter Tryd.func21, Tryd.ntmps21
    rw [ht] at hal
    go_wp2
    go_ret
    refine ⟨?_, hal⟩
    have : ((text.size : Int) ≤ 1500) ↔ text.size ≤ 1500 := by omega
    simp [flS, this]
  | false =>
    rw [ht] at hal
    by_cases he : text.toList = []
    · have hz : text.size = 0 := by
        have h1 : text.data.toList.length = text.size := (Lib.size_eq text).symm
        rw [Lib.toList_data] at he
        rw [he] at h1
        simpa using h1.symm
      go_enter Tryd.func21, Tryd.ntmps21
      go_wp2
      go_ret
      exact ⟨by simp [flS, he, hz], hal⟩
    · go_enter Tryd.func21, Tryd.ntmps21
      go_wp2
      go_ret
      exact ⟨by simp [flS, he], hal⟩

/-- The proof in its box, the answer's box. -/
structure SH (w : World) (pb rs : Nat) (a : Option Addr) (n cap : Nat) (there : Bool) (text : ByteArray) (W : World) : Prop where
  p0 : W.cell? ⟨pb, 0, none⟩ = some (.slice a n cap)
  p1 : W.cell? ⟨pb, 1, none⟩ = some (.bool there)
  p2 : W.cell? ⟨pb, 2, none⟩ = some (.string text)
  r0 : W.cell? ⟨rs, 0, none⟩ = some (.int .i64 0)
  r1 : W.cell? ⟨rs, 1, none⟩ = some (.bool false)
  r2 : W.cell? ⟨rs, 2, none⟩ = some (.string ⟨#[]⟩)
  r3 : W.cell? ⟨rs, 3, none⟩ = some (.string ⟨#[]⟩)
  r4 : W.cell? ⟨rs, 4, none⟩ = some (.bool false)
  rf : ∀ j, W.frozen? ⟨rs, j, none⟩ = false
  bw : Below w.heap.size w W
  lo : w.heap.size ≤ rs
theorem SH.later {w : World} {pb rs : Nat} {a : Option Addr} {n cap : Nat} {there : Bool} {text : ByteArray} {W W' : World} (h : SH w pb rs a n cap there text W) (hb : Below W.heap.size W W') : SH w pb rs a n cap there text W' :=
  ⟨cell_later hb h.p0, cell_later hb h.p1, cell_later hb h.p2, cell_later hb h.r0, cell_later hb h.r1, cell_later hb h.r2, cell_later hb h.r3, cell_later hb h.r4, fun j => (hb.frozen (p := ⟨rs, j, none⟩) (lt_of_cell h.r0)).trans (h.rf j), h.bw.trans (hb.mono h.bw.size), h.lo⟩
/-- The answer, written. -/
def set5 (W : World) (g : Nat) (v0 v1 v2 v3 v4 : Value) : World := ((((W.setCell ⟨g, 0, none⟩ v0).setCell ⟨g, 1, none⟩ v1).setCell ⟨g, 2, none⟩ v2).setCell ⟨g, 3, none⟩ v3).setCell ⟨g, 4, none⟩ v4
theorem SH.set {w : World} {pb rs : Nat} {a : Option Addr} {n cap : Nat} {there : Bool} {text : ByteArray} {W : World} (h : SH w pb rs a n cap there text W) (v0 v1 v2 v3 v4 : Value) :
    (set5 W rs v0 v1 v2 v3 v4).cell? ⟨rs, 0, none⟩ = some v0 ∧ (set5 W rs v0 v1 v2 v3 v4).cell? ⟨rs, 1, none⟩ = some v1 ∧ (set5 W rs v0 v1 v2 v3 v4).cell? ⟨rs, 2, none⟩ = some v2 ∧ (set5 W rs v0 v1 v2 v3 v4).cell? ⟨rs, 3, none⟩ = some v3 ∧ (set5 W rs v0 v1 v2 v3 v4).cell? ⟨rs, 4, none⟩ = some v4 ∧ Below w.heap.size w (set5 W rs v0 v1 v2 v3 v4) := by
  have q : ∀ {Y : World} {i j : Nat} {v u : Value}, i ≠ j → Y.cell? ⟨rs, j, none⟩ = some u → (Y.setCell ⟨rs, i, none⟩ v).cell? ⟨rs, j, none⟩ = some u := fun hn hc => (World.cell?_setCell_other _ _ _ _ (fun e => hn (by injection e))).trans hc
  have hl := h.lo
  unfold set5
  refine ⟨q (by omega) (q (by omega) (q (by omega) (q (by omega) (World.cell?_setCell_same _ _ _ h.r0)))), q (by omega) (q (by omega) (q (by omega) (World.cell?_setCell_same _ _ _ (q (by omega) h.r1)))), q (by omega) (q (by omega) (World.cell?_setCell_same _ _ _ (q (by omega) (q (by omega) h.r2)))), q (by omega) (World.cell?_setCell_same _ _ _ (q (by omega) (q (by omega) (q (by omega) h.r3)))), World.cell?_setCell_same _ _ _ (q (by omega) (q (by omega) (q (by omega) (q (by omega) h.r4)))), ?_⟩
  exact ((((h.bw.setCell (p := ⟨rs, 0, none⟩) hl _).setCell (p := ⟨rs, 1, none⟩) hl _).setCell (p := ⟨rs, 2, none⟩) hl _).setCell (p := ⟨rs, 3, none⟩) hl _).setCell (p := ⟨rs, 4, none⟩) hl _

set_option maxRecDepth 20000 in
set_option maxHeartbeats 40000000 in
theorem implShow_any (sum path : ByteArray) (a : Option Addr) (cap : Nat) (ts : List ByteArray) (there : Bool) (text : ByteArray) (width : Int) (w : World) (hss : SS w a ts) (hn : ts.length ≤ 1048576) (hm : ∀ s ∈ ts, s.size ≤ 1048576) (hp : path.size ≤ 1048576) (htx : text.size ≤ 1048576) :
    Calls Tryd.prog 7 #[.string sum, .string path, .agg #[.slice a ts.length cap, .bool there, .string text], .int .i64 width] w fun e w' => ShowPost sum path ts there text width w e w' := by
  have hSH : SH w w.heap.size (w.heap.size + 1) a ts.length cap there text ((w.alloc (.cells #[.slice a ts.length cap, .bool there, .string text] 31)).alloc (.cells #[.int .i64 0, .bool false, .string ⟨#[]⟩, .string ⟨#[]⟩, .bool false] 29)) :=
    ⟨by simp [go_sem], by simp [go_sem], by simp [go_sem], by simp [go_sem], by simp [go_sem], by simp [go_sem], by simp [go_sem], by simp [go_sem], fun j => by simp [go_sem], ((Below.refl _ _).alloc (Nat.le_refl _) _).alloc (by simp) _, by omega⟩
  have HBAD : Keep (∀ (c : Nat), (c = 1 → ∀ wd X, ¬ GoodS path ts there text width wd X) → (c = 2 → ∃ wd X, GoodS path ts there text width wd X ∧ shA sum path there text wd X = ⟨2, false, false⟩) → (c = 1 ∨ c = 2) → ∀ W', Below w.heap.size w W' → ShowPost sum path ts there text width w (.returned (.agg #[.int .i64 c, .bool false, .string ⟨#[]⟩, .string ⟨#[]⟩, .bool false])) W') := ⟨fun c h1 h2 h3 W' hb => by
    rcases h3 with rfl | rfl
    · exact ⟨⟨1, false, false⟩, .inl ⟨h1 rfl, rfl⟩, rfl, hb⟩
    · obtain ⟨wd, X, g, e⟩ := h2 rfl
      exact ⟨⟨2, false, false⟩, .inr ⟨wd, X, g, e.symm⟩, rfl, hb⟩⟩
  have HPZ : Keep (pathOk pathB path = true → path.size ≤ 1000000) := ⟨fun h => Nat.le_trans (pathOk_size h) (by omega)⟩
  go_enter Tryd.func7, Tryd.ntmps7
  go_upto_region 1 with fail
  generalize (w.alloc (.cells #[.slice a ts.length cap, .bool there, .string text] 31)).alloc (.cells #[.int .i64 0, .bool false, .string ⟨#[]⟩, .string ⟨#[]⟩, .bool false] 29) = W2 at *
  obtain ⟨rs, hrs⟩ : ∃ x, x = w.heap.size + 1 := ⟨_, rfl⟩
  obtain ⟨pb, hpb⟩ : ∃ x, x = w.heap.size := ⟨_, rfl⟩
  rw [← hrs, ← hpb] at hSH
  rw [← hrs, ← hpb]
  clear hrs hpb
  go_wp2_with fail
  refine (implPath_any path (by omega) W2).mono ?_
  rintro e w1 ⟨rfl, hb1⟩
  replace hSH := hSH.later hb1
  clear hb1 W2
  cases hvp : pathOk pathB path with
  | false =>
    have r0 := hSH.r0; have r1 := hSH.r1; have r2 := hSH.r2; have r3 := hSH.r3; have r4 := hSH.r4; have rf := hSH.rf; have p0 := hSH.p0; have p1 := hSH.p1; have p2 := hSH.p2
    obtain ⟨k0, k1, k2, k3, k4, kb⟩ := hSH.set (.int .i64 1) (.bool false) (.string ⟨#[]⟩) (.string ⟨#[]⟩) (.bool false)
    have HP : Keep (ShowPost sum path ts there text width w (.returned (.agg #[.int .i64 1, .bool false, .string ⟨#[]⟩, .string ⟨#[]⟩, .bool false])) (set5 _ rs (.int .i64 1) (.bool false) (.string ⟨#[]⟩) (.string ⟨#[]⟩) (.bool false))) := ⟨HBAD.out 1 (fun _ wd X g => by have := g.path; rw [hvp] at this; cases this) (fun h => by cases h) (.inl rfl) _ kb⟩
    unfold set5 at k0 k1 k2 k3 k4 HP
    clear kb hSH
    go_wp2
    refine bodyPost_ret (v := .agg #[.int .i64 1, .bool false, .string ⟨#[]⟩, .string ⟨#[]⟩, .bool false]) ?_ rfl HP.out
    go_light
    simp [results, Tryd.results7, go_sem, k0, k1, k2, k3, k4]
  | true =>
    go_wp2_with fail
    refine (isw_any width w1).mono ?_
    rintro e w' ⟨rfl, rfl⟩
    cases hwi : (decide (1 ≤ width) && decide (width ≤ 8)) with
    | false =>
      have r0 := hSH.r0; have r1 := hSH.r1; have r2 := hSH.r2; have r3 := hSH.r3; have r4 := hSH.r4; have rf := hSH.rf; have p0 := hSH.p0; have p1 := hSH.p1; have p2 := hSH.p2
      obtain ⟨k0, k1, k2, k3, k4, kb⟩ := hSH.set (.int .i64 1) (.bool false) (.string ⟨#[]⟩) (.string ⟨#[]⟩) (.bool false)
      have HP : Keep (ShowPost sum path ts there text width w (.returned (.agg #[.int .i64 1, .bool false, .string ⟨#[]⟩, .string ⟨#[]⟩, .bool false])) (set5 _ rs (.int .i64 1) (.bool false) (.string ⟨#[]⟩) (.string ⟨#[]⟩) (.bool false))) := ⟨HBAD.out 1 (fun _ wd X g => by have h1 := g.width; have h2 := g.lo; have h3 := g.hi; rw [Bool.and_eq_false_iff] at hwi; simp only [decide_eq_false_iff_not] at hwi; omega) (fun h => by cases h) (.inl rfl) _ kb⟩
      unfold set5 at k0 k1 k2 k3 k4 HP
      clear kb hSH
      go_wp2
      refine bodyPost_ret (v := .agg #[.int .i64 1, .bool false, .string ⟨#[]⟩, .string ⟨#[]⟩, .bool false]) ?_ rfl HP.out
      go_light
      simp [results, Tryd.results7, go_sem, k0, k1, k2, k3, k4]
    | true =>
      obtain ⟨wd, hwd, hw1, hw8⟩ : ∃ wd : Nat, width = wd ∧ 1 ≤ wd ∧ wd ≤ 8 := ⟨width.toNat, by simp at hwi; omega, by simp at hwi; omega, by simp at hwi; omega⟩
      have HW : Keep (width = (wd : Int)) := ⟨hwd⟩
      clear hwi hwd
      have p0 := hSH.p0; have p1 := hSH.p1; have p2 := hSH.p2
      go_wp2_with fail
      refine (isFileS_any there text _).mono ?_
      rintro e w2 ⟨rfl, hb2⟩
      clear p0 p1 p2
      replace hSH := hSH.later hb2
      clear hb2
      cases hfl : flS there text with
      | false =>
        have r0 := hSH.r0; have r1 := hSH.r1; have r2 := hSH.r2; have r3 := hSH.r3; have r4 := hSH.r4; have rf := hSH.rf; have p0 := hSH.p0; have p1 := hSH.p1; have p2 := hSH.p2
        obtain ⟨k0, k1, k2, k3, k4, kb⟩ := hSH.set (.int .i64 1) (.bool false) (.string ⟨#[]⟩) (.string ⟨#[]⟩) (.bool false)
        have HP : Keep (ShowPost sum path ts there text width w (.returned (.agg #[.int .i64 1, .bool false, .string ⟨#[]⟩, .string ⟨#[]⟩, .bool false])) (set5 _ rs (.int .i64 1) (.bool false) (.string ⟨#[]⟩) (.string ⟨#[]⟩) (.bool false))) := ⟨HBAD.out 1 (fun _ wd X g => by have := g.file; rw [hfl] at this; cases this) (fun h => by cases h) (.inl rfl) _ kb⟩
        unfold set5 at k0 k1 k2 k3 k4 HP
        clear kb hSH
        go_wp2
        refine bodyPost_ret (v := .agg #[.int .i64 1, .bool false, .string ⟨#[]⟩, .string ⟨#[]⟩, .bool false]) ?_ rfl HP.out
        go_light
        simp [results, Tryd.results7, go_sem, k0, k1, k2, k3, k4]
      | true =>
        have hrd := readDirs_any a cap ts wd w2 (hss.below hSH.bw) hn hm hw1 hw8
        rw [← HW.out] at hrd
        have p0 := hSH.p0; have p1 := hSH.p1; have p2 := hSH.p2
        go_wp2_with fail
        refine hrd.mono ?_
        clear p0 p1 p2 hrd
        rintro e w3 ⟨hb3, (⟨xs, ad, cp, x1, x2, x3, x4, x5, rfl, x6⟩ | ⟨rfl, hno⟩)⟩
        · have hx0 : 0 < xs.length := by rw [x1]; exact List.length_pos_iff.2 x2
          obtain ⟨b, rfl, hsd, _⟩ := sds_of_row x6 hx0
          replace hSH := hSH.later hb3
          have HG : Keep (GoodS path ts there text width wd (plainD xs)) := ⟨hvp, HW.out, hw1, hw8, hfl, x2, x3, dirs_of x1 x4⟩
          have HA : Keep (shA sum path there text wd (plainD xs) = if xs[0].sum.toList == sum.toList then ansOf there text wd (fw (plainD xs) (partsB path)) else ⟨2, false, false⟩) := ⟨by
            cases xs with
            | nil => simp at hx0
            | cons x r => rfl⟩
          have HMO : Keep (∀ x ∈ xs, MapOk x w3) := ⟨fun x hx => by
            obtain ⟨i, hi, e⟩ := List.getElem_of_mem hx
            obtain ⟨_, D, q1, q2⟩ := x5 x hx
            obtain ⟨x', q3, q4⟩ := x4 i ts[i] (List.getElem?_eq_getElem (by omega))
            rw [List.getElem?_eq_getElem hi, e] at q3
            cases q3
            exact ⟨D, wd, _, _, q1, q2, q4.2.1⟩⟩
          have HSZ : Keep (∀ x ∈ xs, x.sum.size ≤ 1048576) := ⟨fun x hx => by
            obtain ⟨i, hi, e⟩ := List.getElem_of_mem hx
            obtain ⟨x', q3, q4⟩ := x4 i ts[i] (List.getElem?_eq_getElem (by omega))
            rw [List.getElem?_eq_getElem hi, e] at q3
            cases q3
            rw [q4.2.2, sumStr_size]
            omega⟩
          have s0 := (hsd 0 hx0).2
          simp only [Nat.zero_mul, Nat.zero_add] at s0
          have hx7 : xs.length ≤ 7 := by omega
          have hc0 : (0 : Int) < xs.length := by omega
          clear hb3 x1 x2 x3 x4 x5 x6
          cases hsm : (xs[0].sum.toList == sum.toList) with
          | false =>
            have r0 := hSH.r0; have r1 := hSH.r1; have r2 := hSH.r2; have r3 := hSH.r3; have r4 := hSH.r4; have rf := hSH.rf; have p0 := hSH.p0; have p1 := hSH.p1; have p2 := hSH.p2
            obtain ⟨k0, k1, k2, k3, k4, kb⟩ := hSH.set (.int .i64 2) (.bool false) (.string ⟨#[]⟩) (.string ⟨#[]⟩) (.bool false)
            have HP : Keep (ShowPost sum path ts there text width w (.returned (.agg #[.int .i64 2, .bool false, .string ⟨#[]⟩, .string ⟨#[]⟩, .bool false])) (set5 _ rs (.int .i64 2) (.bool false) (.string ⟨#[]⟩) (.string ⟨#[]⟩) (.bool false))) := ⟨HBAD.out 2 (fun h => by cases h) (fun _ => ⟨wd, plainD xs, HG.out, by rw [HA.out, hsm]; rfl⟩) (.inr rfl) _ kb⟩
            unfold set5 at k0 k1 k2 k3 k4 HP
            clear kb hSH
            go_wp2
            refine bodyPost_ret (v := .agg #[.int .i64 2, .bool false, .string ⟨#[]⟩, .string ⟨#[]⟩, .bool false]) ?_ rfl HP.out
            go_light
            simp [results, Tryd.results7, go_sem, k0, k1, k2, k3, k4]
          | true =>
            have HA2 : Keep (shA sum path there text wd (plainD xs) = ansOf there text wd (fw (plainD xs) (partsB path))) := ⟨by rw [HA.out, hsm]; rfl⟩
            have hfo := follow_any b cp xs path w3 hsd hx0 hx7 HMO.out HSZ.out (HPZ.out hvp)
            clear HA
            go_wp2_with fail
            refine hfo.mono ?_
            rintro e w4 ⟨hb4, hfo4⟩
            clear hfo s0
            replace hSH := hSH.later hb4
            rcases hfo4 with ⟨f1, m, n, d, rfl⟩ | f2
            · replace hSH := hSH.later (belowS_one w4 (.cells #[.string m, .string n, .string d] 61))
              clear hb4
              go_upto_region 9 with fail
              generalize w4.alloc (.cells #[.string m, .string n, .string d] 61) = X at *
              generalize w4.heap.size = xb at *
              (haveI := later_any; refine wp_region_later (by kernel_rfl) (by kernel_rfl) ?_; (repeat (go_big_quiet_step (fail))); refine wpQuiet_nil ?_; intro _ hwq; obtain ⟨xq, hwq2⟩ := hwq; subst hwq2)
              replace hSH := hSH.later xq.kept
              have r0 := hSH.r0; have r1 := hSH.r1; have r2 := hSH.r2; have r3 := hSH.r3; have r4 := hSH.r4; have rf := hSH.rf; have p0 := hSH.p0; have p1 := hSH.p1; have p2 := hSH.p2
              obtain ⟨k0, k1, k2, k3, k4, kb⟩ := hSH.set (.int .i64 2) (.bool false) (.string ⟨#[]⟩) (.string ⟨#[]⟩) (.bool false)
              have HP : Keep (ShowPost sum path ts there text width w (.returned (.agg #[.int .i64 2, .bool false, .string ⟨#[]⟩, .string ⟨#[]⟩, .bool false])) (set5 _ rs (.int .i64 2) (.bool false) (.string ⟨#[]⟩) (.string ⟨#[]⟩) (.bool false))) := ⟨HBAD.out 2 (fun h => by cases h) (fun _ => ⟨wd, plainD xs, HG.out, by rw [HA2.out, f1]; rfl⟩) (.inr rfl) _ kb⟩
              unfold set5 at k0 k1 k2 k3 k4 HP
              clear kb hSH
              go_wp2
              refine bodyPost_ret (v := .agg #[.int .i64 2, .bool false, .string ⟨#[]⟩, .string ⟨#[]⟩, .bool false]) ?_ rfl HP.out
              go_light
              simp [results, Tryd.results7, go_sem, k0, k1, k2, k3, k4]
            · obtain ⟨m, n, d, o, hfw, rfl, hmo⟩ : ∃ m n d o, fw (plainD xs) (partsB path) = some o ∧ e = .returned (.tuple #[.agg #[.string m, .string n, .string d], .bool true]) ∧ ((o = none ∧ m = ⟨#[]⟩) ∨ ∃ l, o = some l ∧ m = ⟨#[l.kind]⟩ ∧ d = l.dig) := by
                rcases f2 with ⟨h1, h2⟩ | ⟨l, h1, h2⟩
                · exact ⟨_, _, _, _, h1, h2, .inl ⟨rfl, rfl⟩⟩
                · exact ⟨_, _, _, _, h1, h2, .inr ⟨l, rfl, rfl, rfl⟩⟩
              obtain ⟨H, hH⟩ : ∃ H, H = lnB (hexL (sumStr (ffB ++ text).data.toList wd).data.toList) := ⟨_, rfl⟩
              have HH : Keep (H = lnB (hexL (sumStr (ffB ++ text).data.toList wd).data.toList)) := ⟨hH⟩
              obtain ⟨F, hF⟩ : ∃ F, F = ((m.toList == [102]) || (m.toList == [120])) := ⟨_, rfl⟩
              have HF : Keep (F = ((m.toList == [102]) || (m.toList == [120]))) := ⟨hF⟩
              have HW2 : Keep (ansOf there text wd (fw (plainD xs) (partsB path)) = if F then (if there && (d.toList == H.toList) then ⟨0, true, m.toList == [120]⟩ else ⟨2, false, false⟩) else (if there then ⟨2, false, false⟩ else ⟨0, false, false⟩)) := ⟨by
                rw [hfw]
                rcases hmo with ⟨rfl, rfl⟩ | ⟨l, rfl, rfl, rfl⟩
                · have e0 : F = false := by rw [hF, toL]; rfl
                  rw [e0]
                  rfl
                · have e0 : F = isFd l := by rw [hF, mark_is, mark_is]; rfl
                  have e1 : (l.dig.toList == H.toList) = (hexL (sumStr (ffB ++ text).data.toList wd).data.toList == l.dig.data.toList) := by rw [hH, toL, toL, lnB_list, Bool.beq_comm]
                  rw [e0, e1, mark_is]
                  rfl⟩
              have l0 : (w4.alloc (.cells #[.string m, .string n, .string d] 61)).cell? ⟨w4.heap.size, 0, none⟩ = some (.string m) := by simp [go_sem]
              have l1 : (w4.alloc (.cells #[.string m, .string n, .string d] 61)).cell? ⟨w4.heap.size, 1, none⟩ = some (.string n) := by simp [go_sem]
              have l2 : (w4.alloc (.cells #[.string m, .string n, .string d] 61)).cell? ⟨w4.heap.size, 2, none⟩ = some (.string d) := by simp [go_sem]
              replace hSH := hSH.later (belowS_one w4 (.cells #[.string m, .string n, .string d] 61))
              clear hb4 f2 hmo hF hH hfw
              cases hfv : F with
              | false =>
                have HFv : Keep (F = false) := ⟨hfv⟩
                cases hth : there with
                | true =>
                  have HT : Keep (there = true) := ⟨hth⟩
                  clear hth hfv
                  go_upto_region 9 with fail
                  generalize w4.alloc (.cells #[.string m, .string n, .string d] 61) = X at *
                  generalize w4.heap.size = xb at *
                  have HC : Keep (∀ x : Later X, Calls Tryd.prog 24 #[.agg #[.string m, .string n, .string d]] x.world fun e w'' => e = .returned (.bool false) ∧ ∃ y : Later X, w'' = y.world) := ⟨fun x => x.call (by rw [← HFv.out, HF.out]; exact isFileL_any m n d _)⟩
                  have P1 : ∀ x : Later X, x.world.cell? ⟨pb, 1, none⟩ = some (.bool true) := fun x => by rw [← HT.out]; exact (hSH.later x.kept).p1
                  have L0 : ∀ x : Later X, x.world.cell? ⟨xb, 0, none⟩ = some (.string m) := fun x => cell_later x.kept l0
                  have L1 : ∀ x : Later X, x.world.cell? ⟨xb, 1, none⟩ = some (.string n) := fun x => cell_later x.kept l1
                  have L2 : ∀ x : Later X, x.world.cell? ⟨xb, 2, none⟩ = some (.string d) := fun x => cell_later x.kept l2
                  (haveI := later_any; refine wp_region_later (by kernel_rfl) (by kernel_rfl) ?_; (repeat (go_big_quiet_step (first | (go_at_call 24; exact HC.out _)))); refine wpQuiet_nil ?_; intro _ hwq; obtain ⟨xq, hwq2⟩ := hwq; subst hwq2)
                  replace hSH := hSH.later xq.kept
                  have M0 := L0 xq; have M1 := L1 xq; have M2 := L2 xq
                  clear P1 L0 L1 L2 HC l0 l1 l2
                  have r0 := hSH.r0; have r1 := hSH.r1; have r2 := hSH.r2; have r3 := hSH.r3; have r4 := hSH.r4; have rf := hSH.rf; have p0 := hSH.p0; have p1 := hSH.p1; have p2 := hSH.p2
                  obtain ⟨k0, k1, k2, k3, k4, kb⟩ := hSH.set (.int .i64 2) (.bool false) (.string ⟨#[]⟩) (.string ⟨#[]⟩) (.bool false)
                  have HP : Keep (ShowPost sum path ts there text width w (.returned (.agg #[.int .i64 2, .bool false, .string ⟨#[]⟩, .string ⟨#[]⟩, .bool false])) (set5 _ rs (.int .i64 2) (.bool false) (.string ⟨#[]⟩) (.string ⟨#[]⟩) (.bool false))) := ⟨HBAD.out 2 (fun h => by cases h) (fun _ => ⟨wd, plainD xs, HG.out, by rw [HA2.out, HW2.out, HT.out, HFv.out]; rfl⟩) (.inr rfl) _ kb⟩
                  rw [HT.out] at p1
                  unfold set5 at k0 k1 k2 k3 k4 HP
                  clear kb hSH
                  go_wp2
                  refine bodyPost_ret (v := .agg #[.int .i64 2, .bool false, .string ⟨#[]⟩, .string ⟨#[]⟩, .bool false]) ?_ rfl HP.out
                  go_light
                  simp [results, Tryd.results7, go_sem, k0, k1, k2, k3, k4]
                | false =>
                  have HT : Keep (there = false) := ⟨hth⟩
                  clear hth hfv
                  go_upto_region 9 with fail
                  generalize w4.alloc (.cells #[.string m, .string n, .string d] 61) = X at *
                  generalize w4.heap.size = xb at *
                  have HC : Keep (∀ x : Later X, Calls Tryd.prog 24 #[.agg #[.string m, .string n, .string d]] x.world fun e w'' => e = .returned (.bool false) ∧ ∃ y : Later X, w'' = y.world) := ⟨fun x => x.call (by rw [← HFv.out, HF.out]; exact isFileL_any m n d _)⟩
                  have P1 : ∀ x : Later X, x.world.cell? ⟨pb, 1, none⟩ = some (.bool false) := fun x => by rw [← HT.out]; exact (hSH.later x.kept).p1
                  have L0 : ∀ x : Later X, x.world.cell? ⟨xb, 0, none⟩ = some (.string m) := fun x => cell_later x.kept l0
                  have L1 : ∀ x : Later X, x.world.cell? ⟨xb, 1, none⟩ = some (.string n) := fun x => cell_later x.kept l1
                  have L2 : ∀ x : Later X, x.world.cell? ⟨xb, 2, none⟩ = some (.string d) := fun x => cell_later x.kept l2
                  (haveI := later_any; refine wp_region_later (by kernel_rfl) (by kernel_rfl) ?_; (repeat (go_big_quiet_step (first | (go_at_call 24; exact HC.out _)))); refine wpQuiet_nil ?_; intro _ hwq; obtain ⟨xq, hwq2⟩ := hwq; subst hwq2)
                  replace hSH := hSH.later xq.kept
                  have M0 := L0 xq; have M1 := L1 xq; have M2 := L2 xq
                  clear P1 L0 L1 L2 HC l0 l1 l2
                  have r0 := hSH.r0; have r1 := hSH.r1; have r2 := hSH.r2; have r3 := hSH.r3; have r4 := hSH.r4; have rf := hSH.rf; have p1 := hSH.p1
                  obtain ⟨k0, k1, k2, k3, k4, kb⟩ := hSH.set (.int .i64 0) (.bool false) (.string ⟨#[]⟩) (.string ⟨#[]⟩) (.bool false)
                  have HP : Keep (ShowPost sum path ts there text width w (.returned (.agg #[.int .i64 0, .bool false, .string ⟨#[]⟩, .string ⟨#[]⟩, .bool false])) (set5 _ rs (.int .i64 0) (.bool false) (.string ⟨#[]⟩) (.string ⟨#[]⟩) (.bool false))) := ⟨⟨0, false, false⟩, .inr ⟨wd, plainD xs, HG.out, by rw [HA2.out, HW2.out, HT.out, HFv.out]; rfl⟩, rfl, kb⟩
                  unfold set5 at k0 k1 k2 k3 k4 HP
                  clear kb hSH
                  rw [HT.out] at p1
                  go_wp2
                  refine bodyPost_ret (v := .agg #[.int .i64 0, .bool false, .string ⟨#[]⟩, .string ⟨#[]⟩, .bool false]) ?_ rfl HP.out
                  go_light
                  simp [results, Tryd.results7, go_sem, k0, k1, k2, k3, k4]
              | true =>
                have HFv : Keep (F = true) := ⟨hfv⟩
                cases hth : there with
                | false =>
                  have HT : Keep (there = false) := ⟨hth⟩
                  clear hth hfv
                  go_upto_region 9 with fail
                  generalize w4.alloc (.cells #[.string m, .string n, .string d] 61) = X at *
                  generalize w4.heap.size = xb at *
                  have HC : Keep (∀ x : Later X, Calls Tryd.prog 24 #[.agg #[.string m, .string n, .string d]] x.world fun e w'' => e = .returned (.bool true) ∧ ∃ y : Later X, w'' = y.world) := ⟨fun x => x.call (by rw [← HFv.out, HF.out]; exact isFileL_any m n d _)⟩
                  have P1 : ∀ x : Later X, x.world.cell? ⟨pb, 1, none⟩ = some (.bool false) := fun x => by rw [← HT.out]; exact (hSH.later x.kept).p1
                  have L0 : ∀ x : Later X, x.world.cell? ⟨xb, 0, none⟩ = some (.string m) := fun x => cell_later x.kept l0
                  have L1 : ∀ x : Later X, x.world.cell? ⟨xb, 1, none⟩ = some (.string n) := fun x => cell_later x.kept l1
                  have L2 : ∀ x : Later X, x.world.cell? ⟨xb, 2, none⟩ = some (.string d) := fun x => cell_later x.kept l2
                  (haveI := later_any; refine wp_region_later (by kernel_rfl) (by kernel_rfl) ?_; (repeat (go_big_quiet_step (first | (go_at_call 24; exact HC.out _)))); refine wpQuiet_nil ?_; intro _ hwq; obtain ⟨xq, hwq2⟩ := hwq; subst hwq2)
                  replace hSH := hSH.later xq.kept
                  have M0 := L0 xq; have M1 := L1 xq; have M2 := L2 xq
                  clear P1 L0 L1 L2 HC l0 l1 l2
                  have r0 := hSH.r0; have r1 := hSH.r1; have r2 := hSH.r2; have r3 := hSH.r3; have r4 := hSH.r4; have rf := hSH.rf; have p0 := hSH.p0; have p1 := hSH.p1; have p2 := hSH.p2
                  obtain ⟨k0, k1, k2, k3, k4, kb⟩ := hSH.set (.int .i64 2) (.bool false) (.string ⟨#[]⟩) (.string ⟨#[]⟩) (.bool false)
                  have HP : Keep (ShowPost sum path ts there text width w (.returned (.agg #[.int .i64 2, .bool false, .string ⟨#[]⟩, .string ⟨#[]⟩, .bool false])) (set5 _ rs (.int .i64 2) (.bool false) (.string ⟨#[]⟩) (.string ⟨#[]⟩) (.bool false))) := ⟨HBAD.out 2 (fun h => by cases h) (fun _ => ⟨wd, plainD xs, HG.out, by rw [HA2.out, HW2.out, HT.out, HFv.out]; rfl⟩) (.inr rfl) _ kb⟩
                  rw [HT.out] at p1
                  unfold set5 at k0 k1 k2 k3 k4 HP
                  clear kb hSH
                  go_wp2
                  refine bodyPost_ret (v := .agg #[.int .i64 2, .bool false, .string ⟨#[]⟩, .string ⟨#[]⟩, .bool false]) ?_ rfl HP.out
                  go_light
                  simp [results, Tryd.results7, go_sem, k0, k1, k2, k3, k4]
                | true =>
                  have HT : Keep (there = true) := ⟨hth⟩
                  clear hth hfv
                  go_upto_region 9 with fail
                  generalize w4.alloc (.cells #[.string m, .string n, .string d] 61) = X at *
                  generalize w4.heap.size = xb at *
                  have HC : Keep (∀ x : Later X, Calls Tryd.prog 24 #[.agg #[.string m, .string n, .string d]] x.world fun e w'' => e = .returned (.bool true) ∧ ∃ y : Later X, w'' = y.world) := ⟨fun x => x.call (by rw [← HFv.out, HF.out]; exact isFileL_any m n d _)⟩
                  have P1 : ∀ x : Later X, x.world.cell? ⟨pb, 1, none⟩ = some (.bool true) := fun x => by rw [← HT.out]; exact (hSH.later x.kept).p1
                  have L0 : ∀ x : Later X, x.world.cell? ⟨xb, 0, none⟩ = some (.string m) := fun x => cell_later x.kept l0
                  have L1 : ∀ x : Later X, x.world.cell? ⟨xb, 1, none⟩ = some (.string n) := fun x => cell_later x.kept l1
                  have L2 : ∀ x : Later X, x.world.cell? ⟨xb, 2, none⟩ = some (.string d) := fun x => cell_later x.kept l2
                  (haveI := later_any; refine wp_region_later (by kernel_rfl) (by kernel_rfl) ?_; (repeat (go_big_quiet_step (first | (go_at_call 24; exact HC.out _)))); refine wpQuiet_nil ?_; intro _ hwq; obtain ⟨xq, hwq2⟩ := hwq; subst hwq2)
                  replace hSH := hSH.later xq.kept
                  have M0 := L0 xq; have M1 := L1 xq; have M2 := L2 xq
                  clear P1 L0 L1 L2 HC l0 l1 l2
                  cases hhx : (d.toList == H.toList) with
                  | false =>
                    have HX : Keep ((d.toList == H.toList) = false) := ⟨hhx⟩
                    have p1 := hSH.p1
                    rw [HT.out] at p1
                    go_upto_region 13 with fail
                    have HC2 : Keep (∀ x : Later xq.world, Calls Tryd.prog 25 #[.string text, .int .i64 width] x.world fun e w'' => e = .returned (.string H) ∧ ∃ y : Later xq.world, w'' = y.world) := ⟨fun x => x.call (by rw [HW.out, HH.out]; exact fileDigits_any text wd _ htx hw1 hw8)⟩
                    have P2 : ∀ x : Later xq.world, x.world.cell? ⟨pb, 2, none⟩ = some (.string text) := fun x => (hSH.later x.kept).p2
                    have N2 : ∀ x : Later xq.world, x.world.cell? ⟨xb, 2, none⟩ = some (.string d) := fun x => cell_later x.kept M2
                    (haveI := later_any; refine wp_region_later (by kernel_rfl) (by kernel_rfl) ?_; (repeat (go_big_quiet_step (first | (go_at_call 25; exact HC2.out _)))); refine wpQuiet_nil ?_; intro _ hwq; obtain ⟨xr, hwq2⟩ := hwq; subst hwq2)
                    replace hSH := hSH.later xr.kept
                    replace M0 := cell_later xr.kept M0
                    clear P2 N2 HC2 M1 M2 p1
                    have r0 := hSH.r0; have r1 := hSH.r1; have r2 := hSH.r2; have r3 := hSH.r3; have r4 := hSH.r4; have rf := hSH.rf; have p0 := hSH.p0; have p1 := hSH.p1; have p2 := hSH.p2
                    obtain ⟨k0, k1, k2, k3, k4, kb⟩ := hSH.set (.int .i64 2) (.bool false) (.string ⟨#[]⟩) (.string ⟨#[]⟩) (.bool false)
                    have HP : Keep (ShowPost sum path ts there text width w (.returned (.agg #[.int .i64 2, .bool false, .string ⟨#[]⟩, .string ⟨#[]⟩, .bool false])) (set5 _ rs (.int .i64 2) (.bool false) (.string ⟨#[]⟩) (.string ⟨#[]⟩) (.bool false))) := ⟨HBAD.out 2 (fun h => by cases h) (fun _ => ⟨wd, plainD xs, HG.out, by rw [HA2.out, HW2.out, HT.out, HFv.out, HX.out]; rfl⟩) (.inr rfl) _ kb⟩
                    unfold set5 at k0 k1 k2 k3 k4 HP
                    clear kb hSH
                    go_wp2
                    refine bodyPost_ret (v := .agg #[.int .i64 2, .bool false, .string ⟨#[]⟩, .string ⟨#[]⟩, .bool false]) ?_ rfl HP.out
                    go_light
                    simp [results, Tryd.results7, go_sem, k0, k1, k2, k3, k4]
                  | true =>
                    have HX : Keep ((d.toList == H.toList) = true) := ⟨hhx⟩
                    cases hmx : (m.toList == [120]) with
                    | false =>
                      have HM : Keep ((m.toList == [120]) = false) := ⟨hmx⟩
                      have p1 := hSH.p1
                      rw [HT.out] at p1
                      go_upto_region 13 with fail
                      have HC2 : Keep (∀ x : Later xq.world, Calls Tryd.prog 25 #[.string text, .int .i64 width] x.world fun e w'' => e = .returned (.string H) ∧ ∃ y : Later xq.world, w'' = y.world) := ⟨fun x => x.call (by rw [HW.out, HH.out]; exact fileDigits_any text wd _ htx hw1 hw8)⟩
                      have P2 : ∀ x : Later xq.world, x.world.cell? ⟨pb, 2, none⟩ = some (.string text) := fun x => (hSH.later x.kept).p2
                      have N2 : ∀ x : Later xq.world, x.world.cell? ⟨xb, 2, none⟩ = some (.string d) := fun x => cell_later x.kept M2
                      (haveI := later_any; refine wp_region_later (by kernel_rfl) (by kernel_rfl) ?_; (repeat (go_big_quiet_step (first | (go_at_call 25; exact HC2.out _)))); refine wpQuiet_nil ?_; intro _ hwq; obtain ⟨xr, hwq2⟩ := hwq; subst hwq2)
                      replace hSH := hSH.later xr.kept
                      replace M0 := cell_later xr.kept M0
                      clear P2 N2 HC2 M1 M2 p1
                      have p2 := hSH.p2
                      go_wp2_with fail
                      refine (entry_any path text false _ (by omega) (by omega)).mono ?_
                      rintro e w8 ⟨rfl, hb8⟩
                      replace hSH := (hSH.later (belowS_one _ (.cells #[.bool true, .string text, .bool false] 53))).later hb8
                      clear p2 hb8
                      have r0 := hSH.r0; have r1 := hSH.r1; have r2 := hSH.r2; have r3 := hSH.r3; have r4 := hSH.r4; have rf := hSH.rf
                      obtain ⟨k0, k1, k2, k3, k4, kb⟩ := hSH.set (.int .i64 0) (.bool true) (.string path) (.string text) (.bool false)
                      have HP : Keep (ShowPost sum path ts there text width w (.returned (.agg #[.int .i64 0, .bool true, .string path, .string text, .bool false])) (set5 _ rs (.int .i64 0) (.bool true) (.string path) (.string text) (.bool false))) := ⟨⟨0, true, false⟩, .inr ⟨wd, plainD xs, HG.out, by rw [HA2.out, HW2.out, HT.out, HFv.out, HX.out, HM.out]; rfl⟩, rfl, kb⟩
                      unfold set5 at k0 k1 k2 k3 k4 HP
                      clear kb hSH
                      go_wp2
                      refine bodyPost_ret (v := .agg #[.int .i64 0, .bool true, .string path, .string text, .bool false]) ?_ rfl HP.out
                      go_light
                      simp [results, Tryd.results7, go_sem, k0, k1, k2, k3, k4]
                    | true =>
                      have HM : Keep ((m.toList == [120]) = true) := ⟨hmx⟩
                      have p1 := hSH.p1
                      rw [HT.out] at p1
                      go_upto_region 13 with fail
                      have HC2 : Keep (∀ x : Later xq.world, Calls Tryd.prog 25 #[.string text, .int .i64 width] x.world fun e w'' => e = .returned (.string H) ∧ ∃ y : Later xq.world, w'' = y.world) := ⟨fun x => x.call (by rw [HW.out, HH.out]; exact fileDigits_any text wd _ htx hw1 hw8)⟩
                      have P2 : ∀ x : Later xq.world, x.world.cell? ⟨pb, 2, none⟩ = some (.string text) := fun x => (hSH.later x.kept).p2
                      have N2 : ∀ x : Later xq.world, x.world.cell? ⟨xb, 2, none⟩ = some (.string d) := fun x => cell_later x.kept M2
                      (haveI := later_any; refine wp_region_later (by kernel_rfl) (by kernel_rfl) ?_; (repeat (go_big_quiet_step (first | (go_at_call 25; exact HC2.out _)))); refine wpQuiet_nil ?_; intro _ hwq; obtain ⟨xr, hwq2⟩ := hwq; subst hwq2)
                      replace hSH := hSH.later xr.kept
                      replace M0 := cell_later xr.kept M0
                      clear P2 N2 HC2 M1 M2 p1
                      have p2 := hSH.p2
                      go_wp2_with fail
                      refine (entry_any path text true _ (by omega) (by omega)).mono ?_
                      rintro e w8 ⟨rfl, hb8⟩
                      replace hSH := (hSH.later (belowS_one _ (.cells #[.bool true, .string text, .bool true] 53))).later hb8
                      clear p2 hb8
                      have r0 := hSH.r0; have r1 := hSH.r1; have r2 := hSH.r2; have r3 := hSH.r3; have r4 := hSH.r4; have rf := hSH.rf
                      obtain ⟨k0, k1, k2, k3, k4, kb⟩ := hSH.set (.int .i64 0) (.bool true) (.string path) (.string text) (.bool true)
                      have HP : Keep (ShowPost sum path ts there text width w (.returned (.agg #[.int .i64 0, .bool true, .string path, .string text, .bool true])) (set5 _ rs (.int .i64 0) (.bool true) (.string path) (.string text) (.bool true))) := ⟨⟨0, true, true⟩, .inr ⟨wd, plainD xs, HG.out, by rw [HA2.out, HW2.out, HT.out, HFv.out, HX.out, HM.out]; rfl⟩, rfl, kb⟩
                      unfold set5 at k0 k1 k2 k3 k4 HP
                      clear kb hSH
                      go_wp2
                      refine bodyPost_ret (v := .agg #[.int .i64 0, .bool true, .string path, .string text, .bool true]) ?_ rfl HP.out
                      go_light
                      simp [results, Tryd.results7, go_sem, k0, k1, k2, k3, k4]
        · replace hSH := hSH.later hb3
          clear hb3
          have r0 := hSH.r0; have r1 := hSH.r1; have r2 := hSH.r2; have r3 := hSH.r3; have r4 := hSH.r4; have rf := hSH.rf; have p0 := hSH.p0; have p1 := hSH.p1; have p2 := hSH.p2
          obtain ⟨k0, k1, k2, k3, k4, kb⟩ := hSH.set (.int .i64 1) (.bool false) (.string ⟨#[]⟩) (.string ⟨#[]⟩) (.bool false)
          have HP : Keep (ShowPost sum path ts there text width w (.returned (.agg #[.int .i64 1, .bool false, .string ⟨#[]⟩, .string ⟨#[]⟩, .bool false])) (set5 _ rs (.int .i64 1) (.bool false) (.string ⟨#[]⟩) (.string ⟨#[]⟩) (.bool false))) := ⟨HBAD.out 1 (fun _ wd2 X g => by rcases hno with h | h | ⟨t, h1, h2⟩; exact g.some h; exact absurd g.few (by omega); have hq : wd2 = wd := (by have h3 := g.width; have h4 := HW.out; omega); exact dirs_not h1 h2 X (by rw [← hq]; exact g.dirs)) (fun h => by cases h) (.inl rfl) _ kb⟩
          unfold set5 at k0 k1 k2 k3 k4 HP
          clear kb hSH
          go_wp2
          refine bodyPost_ret (v := .agg #[.int .i64 1, .bool false, .string ⟨#[]⟩, .string ⟨#[]⟩, .bool false]) ?_ rfl HP.out
          go_light
          simp [results, Tryd.results7, go_sem, k0, k1, k2, k3, k4]
end Go.Proofs.YtlgdfeacnalekaaDoor
