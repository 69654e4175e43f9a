/-
  'FnExactValidPatch': an argument of type Patch opened, the walk out of the contracts, the frame.
-/
import Derived.Test.YtcapcjojlpljiaaPatS
import Derived.Test.YtcapcjojlpljiaaChangesT
import Derived.Test.YtcapcjojlpljiaaRows
import Derived.ProofKit
import Derived.OpenShut
import Derived.ChangeOld
import Derived.Below
import Derived.Deep.Slices
import Derived.Lib.SmallJoins
import Derived.Deep.Strs
namespace Go.Proofs.Ytcapcjojlpljiaa.fnExactValidPatch
open Go.ChangeShapes Go.WideShapes Go.ChangeAt Go.RowKit
set_option linter.unusedVariables false

theorem own : ownKnob Try.prog.godebug = none := by kernel_rfl
theorem laidOut : laidOutB Try.prog = true := by kernel_rfl
theorem cellsCh : Try.prog.cellsOf 87 = 7 := by kernel_rfl
theorem cellsFl : Try.prog.cellsOf 85 = 3 := by kernel_rfl
theorem cellsRowC : Try.prog.cellsOf 33 = 1 := by kernel_rfl
theorem cellsS : Try.prog.cellsOf 9 = 1 := by kernel_rfl
theorem cellsB : Try.prog.cellsOf 4 = 1 := by kernel_rfl
theorem cellsP : Try.prog.cellsOf 35 = 1 := by kernel_rfl

set_option maxRecDepth 100000 in
theorem open_file {H : Type} {enc : TypeId × Value → H} {W : World} {n : Nat} {c0 c1 c2 : Value} {x : DataW H × List MemPlace} (h2 : DataW.trod enc Try.prog W 0 (fun _ => true) true n 85 [c0, c1, c2] = some x) :
    ∃ f : Fl, c0 = .bool f.there ∧ c1 = .string f.text ∧ c2 = .bool f.runs ∧ f.text.size ≤ maxLen := by
  obtain ⟨y0, y1, y2, m, _, _, g0, g1, g2⟩ := Go.Deep.trod_struct3 Try.underlying85 h2
  simp only [cellsS, cellsB, List.drop, List.take] at g0 g1 g2
  obtain ⟨b0, e0, _⟩ := DataW.trod_bool Try.underlying4 g0
  obtain ⟨s1, e1, _, hs1⟩ := DataW.trod_string Try.underlying9 g1
  obtain ⟨b2, e2, _⟩ := DataW.trod_bool Try.underlying4 g2
  simp at e0 e1 e2
  exact ⟨⟨b0, s1, b2⟩, e0, e1, e2, hs1⟩

set_option maxRecDepth 100000 in
theorem open_change {H : Type} {enc : TypeId × Value → H} {W : World} {n : Nat} {cs : List Value} {x : DataW H × List MemPlace} {a : Addr} (h1 : W.cells? 0 a 7 = some cs) (h2 : DataW.trod enc Try.prog W 0 (fun _ => true) true n 87 cs = some x) :
    ∃ t : Ch, (W.cell? (a.add 0) = some (.string t.path) ∧ W.cell? (a.add 1) = some (.bool t.old.there) ∧ W.cell? (a.add 2) = some (.string t.old.text) ∧ W.cell? (a.add 3) = some (.bool t.old.runs) ∧ W.cell? (a.add 4) = some (.bool t.new.there) ∧ W.cell? (a.add 5) = some (.string t.new.text) ∧ W.cell? (a.add 6) = some (.bool t.new.runs)) ∧ chMax t := by
  obtain ⟨_, hlen, hc⟩ := World.cells?_some h1
  match cs, hlen with
  | [c0, c1, c2, c3, c4, c5, c6], _ =>
    obtain ⟨y0, y1, y2, m, _, _, g0, g1, g2⟩ := Go.Deep.trod_struct3 Try.underlying87 h2
    simp only [cellsS, cellsFl, List.drop, List.take] at g0 g1 g2
    obtain ⟨s0, e0, _, hs0⟩ := DataW.trod_string Try.underlying9 g0
    obtain ⟨f1, d1, d2, d3, hf1⟩ := open_file g1
    obtain ⟨f2, d4, d5, d6, hf2⟩ := open_file g2
    simp at e0
    subst e0 d1 d2 d3 d4 d5 d6
    exact ⟨⟨s0, f1, f2⟩, ⟨hc 0 (by omega), hc 1 (by omega), hc 2 (by omega), hc 3 (by omega), hc 4 (by omega), hc 5 (by omega), hc 6 (by omega)⟩, hs0, hf1, hf2⟩

set_option maxRecDepth 100000 in
theorem open_patch {H : Type} {enc : TypeId × Value → H} {W : World} {base : Nat} {v : Value} {d : DataW H} {p : List MemPlace} (hv : Value.okWide Try.prog W .any base 35 v) (h : DataW.Trod enc Try.prog W 0 (fun _ => true) true 35 v d p) :
    ∃ a cap ts, v = .agg #[.slice a ts.length cap] ∧ CS W a ts ∧ ts.length ≤ maxLen ∧ ∀ s ∈ ts, chMax s := by
  haveI : Inhabited Ch := ⟨zeroC⟩
  obtain ⟨cs, rfl, hsz⟩ := okWide_struct Try.underlying35 hv
  rw [cellsP] at hsz
  obtain ⟨c0, rfl⟩ : ∃ c0, cs = #[c0] := by
    obtain ⟨l⟩ := cs
    match l, hsz with
    | [c], _ => exact ⟨c, rfl⟩
  obtain ⟨fuel, hf⟩ := h
  obtain ⟨y0, n, _, _, h0⟩ := trod_struct1 Try.underlying35 hf
  simp only [cellsRowC, Value.cells, List.drop, List.take] at h0
  rcases Go.Deep.open_slice Try.underlying33 h0 with ⟨hcs, _⟩ | ⟨a, len, cap, m, n, D, Pl, hcs, _, hl, hm, hmm, _, hx⟩
  · simp at hcs
    subst hcs
    exact ⟨none, 0, [], rfl, .inl rfl, Nat.zero_le _, fun s hs => by simp at hs⟩
  · simp at hcs
    subst hcs
    simp at hmm
    subst hmm
    rw [cellsCh] at hx
    obtain ⟨V, hV⟩ := Go.Deep.choose_lt (α := Ch) (p := fun i t => (W.cell? ((a.add (i * 7)).add 0) = some (.string t.path) ∧ W.cell? ((a.add (i * 7)).add 1) = some (.bool t.old.there) ∧ W.cell? ((a.add (i * 7)).add 2) = some (.string t.old.text) ∧ W.cell? ((a.add (i * 7)).add 3) = some (.bool t.old.runs) ∧ W.cell? ((a.add (i * 7)).add 4) = some (.bool t.new.there) ∧ W.cell? ((a.add (i * 7)).add 5) = some (.string t.new.text) ∧ W.cell? ((a.add (i * 7)).add 6) = some (.bool t.new.runs)) ∧ chMax t) (n := m) (fun i hi => by
      obtain ⟨cs', h1, h2⟩ := hx i hi
      exact open_change h1 h2)
    refine ⟨some a, m, (List.range len).map V, by simp, ?_, by simp; omega, ?_⟩
    · by_cases h0 : len = 0
      · left; simp [h0]
      · right
        obtain ⟨b, off, spot⟩ := a
        have hspot : spot = none := by simpa [Addr.add] using World.cell?_spot (hV 0 (by omega)).1.1
        subst hspot
        refine ⟨b, off, rfl, fun i hi => ?_⟩
        simp at hi
        obtain ⟨⟨q0, q1, q2, q3, q4, q5, q6⟩, _⟩ := hV i (by omega)
        simp only [Go.WideShapes.add_plain, Nat.add_zero] at q0 q1 q2 q3 q4 q5 q6
        simp only [List.getElem_map, List.getElem_range]
        exact ⟨q0, q1, q2, q3, q4, q5, q6⟩
    · intro s hs
      simp only [List.mem_map, List.mem_range] at hs
      obtain ⟨i, hi, rfl⟩ := hs
      exact (hV i (by omega)).2

set_option maxHeartbeats 2000000 in
theorem walk (a : Option Addr) (cap : Nat) (ts : List Ch) (w : World) (hss : CS w a ts) (hn : ts.length ≤ maxLen) (hm : ∀ s ∈ ts, chMax s) :
    Calls Try.prog 4 #[.agg #[.slice a ts.length cap]] w fun e w' => e = .returned (.bool true) ∧ Below w.heap.size w w' := by
  go_enter Try.func4, Try.ntmps4
  go_wp2_with fail
  have hb0 : ∀ o, Below w.heap.size w (w.alloc o) := fun o => (Below.refl _ _).alloc (Nat.le_refl _) _
  refine (szPatch_any a cap ts _ (hss.below (hb0 _)) hn hm).mono ?_
  rintro e w1 ⟨r, rfl, hb1, hr⟩
  have hbx1 := (hb0 _).trans (hb1.mono (hb0 _).size)
  have hx1 : w1.cell? ⟨w.heap.size, 0, none⟩ = some (.slice a ts.length cap) := (hb1.cell (p := ⟨w.heap.size, 0, none⟩) (by simp)).trans (World.cell?_alloc_new _ _ _ _)
  rcases hr with hr | ⟨hr, hle⟩
  · have hr0 : r < 0 := by omega
    clear hr
    go_wp2
    go_ret
    exact ⟨rfl, hbx1⟩
  · have hr0 : ¬ r < 0 := by omega
    have hn' : ts.length ≤ 1048576 := by omega
    have hz : ∀ e ∈ ts, e.path.size ≤ 1048576 := fun e he => by have := size_le_totalC ts e he; unfold sizeC at this; omega
    clear hr
    go_wp2_with fail
    refine (toPatch_any a cap ts w1 (hss.below hbx1) hn').mono ?_
    rintro e w2 ⟨g2, rfl, hs2, hb2, _⟩
    have hbx2 := hbx1.trans (hb2.mono hbx1.size)
    have hx2 := cell_later hb2 hx1
    go_wp2_with fail
    refine (specPatch_any _ _ ts w2 hs2 hn').mono ?_
    rintro e w3 ⟨vb, rfl, hvb, hb3⟩
    have hbx3 := hbx2.trans (hb3.mono hbx2.size)
    have hx3 := cell_later hb3 hx2
    go_wp2_with fail
    refine (toPatch_any a cap ts w3 (hss.below hbx3) hn').mono ?_
    rintro e w4 ⟨g4, rfl, hs4, hb4, _⟩
    have hbx4 := hbx3.trans (hb4.mono hbx3.size)
    have hx4 := cell_later hb4 hx3
    go_wp2_with fail
    have hba : Below w4.heap.size w4 (w4.alloc (.cells #[.slice (some ⟨g4, 0, none⟩) ts.length ts.length] 40)) := (Below.refl _ _).alloc (Nat.le_refl _) _
    refine (implPatch_any _ _ ts _ (hs4.below hba) hn' hz).mono ?_
    rintro e w5 ⟨vb2, rfl, hvb2, hb5⟩
    obtain rfl : vb2 = vb := by
      have := hvb2.trans hvb.symm
      cases vb <;> cases vb2 <;> simp at this ⊢
    have hx0 : w5.cell? ⟨w4.heap.size, 0, none⟩ = some (.slice (some ⟨g4, 0, none⟩) ts.length ts.length) := (hb5.cell (p := ⟨w4.heap.size, 0, none⟩) (by simp)).trans (World.cell?_alloc_new _ _ _ _)
    have hba5 := hba.trans (hb5.mono hba.size)
    have hbx5 := hbx4.trans (hba5.mono hbx4.size)
    have hx5 := cell_later hba5 hx4
    have hs5 := hs4.below hba5
    clear hvb hvb2
    clear hx1 hx2 hx3 hx4
    go_wp2_with fail
    go_region_with (first | (go_at_call 14; refine (toPatch_any a cap ts _ ?_ hn').mono ?_; exact hss.below hbx5.drew; rintro e w6 ⟨g6, rfl, hs6, hb6, _⟩; have hx6 := cell_later (w := w5.drew) hb6 hx0) | (go_at_call 16; refine (eqPatch_any _ _ _ _ ts _ ?_ hs6 hn').mono ?_; exact CS.below (w := w5.drew) hs5 hb6; rintro e w7 ⟨rfl, hb7⟩))
    all_goals
      have hbx6 : Below w.heap.size w w6 := hbx5.drew.trans (hb6.mono hbx5.size)
      have hbx7 := hbx6.trans (hb7.mono hbx6.size)
      go_wp2
      go_ret
      exact ⟨rfl, hbx7⟩

set_option maxRecDepth 100000 in
theorem lifted (os : Os) (started : os.Started) (H : Type) (enc : TypeId × Value → H) :
    ReturnsInHanded {} Try.checked os 4 .any (Rows.fnExactValidPatchSpec.pre6 enc Try.prog Try.f4 Rows.fnExactValidPatchRow.domain false) (Rows.fnExactValidPatchSpec.post enc Try.prog Try.f4 false true false false) := by
  refine returnsInHanded_of_change (C := Try.checked) own started (by kernel_rfl) Try.func4
    (ChangeSpec.witness6 (enc := enc) (C := Try.checked) false ⟨#[], #[.agg #[.slice none 0 0]], []⟩ 8 (by kernel_rfl) (by kernel_rfl) (by kernel_rfl) (by kernel_rfl)) ?_
  intro W base args ds gs before hval0 hW hcnd _
  have hval : ∀ (j : Nat) t v, Try.f4.params[j]? = some t → args[j]? = some v → Value.okWide Try.prog W .any base t v := hval0
  have hW' := hW
  obtain ⟨p, q, hA0, hV, rfl, hfz, hnd⟩ := hW
  have hA : DataW.TrodAll enc Try.prog W 0 (fun _ => true) true Try.f4.params.toList args.toList ds p := hA0
  rw [Try.params4] at hA hval
  obtain ⟨v0, vs0, d0, ds0, p0, q0, hargs, rfl, rfl, h0, r0⟩ := trodAll_cons hA
  obtain ⟨rfl, rfl, rfl⟩ := trodAll_nil r0
  obtain rfl : args = #[v0] := by cases args; simp_all
  obtain ⟨rfl, rfl⟩ := trodVars_none hV
  have k0 := h0
  have lt0 : ∀ x ∈ p0, x.block < W.heap.size := by obtain ⟨m, hm⟩ := k0; exact DataW.trod_lt m _ _ _ hm
  obtain ⟨a0, cap0, ts, rfl, hss, hn, hm⟩ := open_patch (hval 0 35 v0 rfl rfl) h0
  clear hA0 hval0
  refine (walk a0 cap0 ts W hss hn hm).mono fun e W' ⟨he, bel⟩ => ?_
  subst he
  exact ⟨_, rfl, _, _, _, [], _, [], hW', trodAll_mk1 (shut_bool Try.underlying4 _), (trodAll_cons_mk (Below.trod laidOut (by kernel_rfl) (of_decide_eq_true (by kernel_rfl)) k0 bel lt0) trodAll_mk0), rfl, bel.frame _, fun h => by cases h⟩

theorem over : Rows.fnExactValidPatchRow.holds Try.pinned (OpenSpec.ofChange Rows.fnExactValidPatchSpec) :=
  OpenClaim.holds_of_wide 4 Try.f4 rfl rfl rfl rfl rfl rfl rfl ⟨rfl, rfl, rfl, rfl, rfl⟩ rfl rfl rfl rfl rfl (by kernel_rfl) Try.func4 (by kernel_rfl)
    (of_decide_eq_true (by kernel_rfl)) (by unfold Func.isWrapper; first | (rw [if_pos (by decide +kernel)]; kernel_rfl) | (rw [if_neg (by decide +kernel)]; exact ⟨rfl, rfl⟩))
    (fun os started H enc _ => lifted os started H enc)

theorem proved : Rows.FnExactValidPatchSaid := over
end Go.Proofs.Ytcapcjojlpljiaa.fnExactValidPatch
