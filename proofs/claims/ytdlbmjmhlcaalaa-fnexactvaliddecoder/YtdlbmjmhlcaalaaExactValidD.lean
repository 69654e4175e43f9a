/-
  'FnExactValidDecoder': the walk out of the contracts; the frame.
-/
import Derived.Test.YtdlbmjmhlcaalaaDecOpen
namespace Go.Proofs.Ytdlbmjmhlcaalaa.fnExactValidDecoder
open Go.ChangeShapes Go.WideShapes Go.ChangeAt Go.RowKit
set_option linter.unusedVariables false

theorem own : ownKnob Try.prog.godebug = none := by kernel_rfl
theorem laidOut : laidOutB Try.prog = true := by kernel_rfl

set_option maxRecDepth 20000 in
set_option maxHeartbeats 2000000 in
theorem walk (m : Int) (rest : ByteArray) (a : Option Addr) (cap : Nat) (ss : List ByteArray) (bad : Bool) (w : World) (hss : SS w a ss) (hn : ss.length ≤ maxLen) (hm : ∀ s ∈ ss, s.size ≤ maxLen) (hr : rest.size ≤ maxLen) :
    Calls Try.prog 4 #[decV m rest (.slice a ss.length cap) bad] w fun e w' => e = .returned (.bool true) ∧ Below w.heap.size w w' := by
  unfold decV
  go_enter Try.func4, Try.ntmps4
  go_wp2_with fail
  have hb0 : ∀ o, Below w.heap.size w (w.alloc o) := fun o => (Below.refl _ _).alloc (Nat.le_refl _) _
  refine (szDec_any m rest a cap ss bad _ (hss.below (hb0 _)) hn hm hr).mono ?_
  rintro e w1 ⟨r, rfl, hb1, hr1⟩
  have hbx1 := (hb0 _).trans (hb1.mono (hb0 _).size)
  have x10 : w1.cell? ⟨w.heap.size, 0, none⟩ = some (.int .i64 m) := (hb1.cell (p := ⟨w.heap.size, 0, none⟩) (by simp)).trans (World.cell?_alloc_new _ _ _ _)
  have x11 : w1.cell? ⟨w.heap.size, 1, none⟩ = some (.string rest) := (hb1.cell (p := ⟨w.heap.size, 1, none⟩) (by simp)).trans (World.cell?_alloc_new _ _ _ _)
  have x12 : w1.cell? ⟨w.heap.size, 2, none⟩ = some (.slice a ss.length cap) := (hb1.cell (p := ⟨w.heap.size, 2, none⟩) (by simp)).trans (World.cell?_alloc_new _ _ _ _)
  have x13 : w1.cell? ⟨w.heap.size, 3, none⟩ = some (.bool bad) := (hb1.cell (p := ⟨w.heap.size, 3, none⟩) (by simp)).trans (World.cell?_alloc_new _ _ _ _)
  rcases hr1 with hr1 | ⟨hr1, hle⟩
  · go_wp2
    go_ret
    exact ⟨rfl, hbx1⟩
  · have hr0 : ¬ r < 0 := by omega
    have hn' : ss.length ≤ 1048576 := by omega
    have hrs : rest.size ≤ 1099511627776 := by omega
    clear hr1 hle
    go_wp2_with fail
    refine (toDec_any m rest a cap ss bad w1 (hss.below hbx1) hn').mono ?_
    rintro e w2 ⟨g2, rfl, hs2, hb2⟩
    have hs2 := ss_of_own hs2
    have hbx2 := hbx1.trans (hb2.mono hbx1.size)
    have x20 := cell_later hb2 x10
    have x21 := cell_later hb2 x11
    have x22 := cell_later hb2 x12
    have x23 := cell_later hb2 x13
    clear x10 x11 x12 x13
    go_wp2_with fail
    refine (specValidD_any m rest _ _ ss bad w2 hs2 hn hrs).mono ?_
    rintro e w3 ⟨rfl, hb3⟩
    have hbx3 := hbx2.trans (hb3.mono hbx2.size)
    have x30 := cell_later hb3 x20
    have x31 := cell_later hb3 x21
    have x32 := cell_later hb3 x22
    have x33 := cell_later hb3 x23
    clear x20 x21 x22 x23
    go_wp2_with fail
    refine (toDec_any m rest a cap ss bad w3 (hss.below hbx3) hn').mono ?_
    rintro e w4 ⟨g4, rfl, hs4, hb4⟩
    have hs4 := ss_of_own hs4
    have hbx4 := hbx3.trans (hb4.mono hbx3.size)
    have x40 := cell_later hb4 x30
    have x41 := cell_later hb4 x31
    have x42 := cell_later hb4 x32
    have x43 := cell_later hb4 x33
    clear x30 x31 x32 x33
    unfold decV
    go_wp2_with fail
    have hba : Below w4.heap.size w4 (w4.alloc (.cells #[.int .i64 m, .string rest, .slice (some ⟨g4, 0, none⟩) ss.length ss.length, .bool bad] 32)) := (Below.refl _ _).alloc (Nat.le_refl _) _
    refine (implValidD_any m rest _ _ ss bad _ (hs4.below hba) hn hrs).mono ?_
    rintro e w5 ⟨rfl, hb5⟩
    have y0 : w5.cell? ⟨w4.heap.size, 0, none⟩ = some (.int .i64 m) := (hb5.cell (p := ⟨w4.heap.size, 0, none⟩) (by simp)).trans (World.cell?_alloc_new _ _ _ _)
    have y1 : w5.cell? ⟨w4.heap.size, 1, none⟩ = some (.string rest) := (hb5.cell (p := ⟨w4.heap.size, 1, none⟩) (by simp)).trans (World.cell?_alloc_new _ _ _ _)
    have y2 : w5.cell? ⟨w4.heap.size, 2, none⟩ = some (.slice (some ⟨g4, 0, none⟩) ss.length ss.length) := (hb5.cell (p := ⟨w4.heap.size, 2, none⟩) (by simp)).trans (World.cell?_alloc_new _ _ _ _)
    have y3 : w5.cell? ⟨w4.heap.size, 3, none⟩ = some (.bool bad) := (hb5.cell (p := ⟨w4.heap.size, 3, none⟩) (by simp)).trans (World.cell?_alloc_new _ _ _ _)
    have hba5 := hba.trans (hb5.mono hba.size)
    have hbx5 := hbx4.trans (hba5.mono hbx4.size)
    have x50 := cell_later hba5 x40
    have x51 := cell_later hba5 x41
    have x52 := cell_later hba5 x42
    have x53 := cell_later hba5 x43
    have hs5 := hs4.below hba5
    generalize validD m rest ss bad = vb at *
    clear x40 x41 x42 x43
    go_wp2_with fail
    have hto := toDec_any m rest a cap ss bad w5.drew (hss.below hbx5.drew) hn'
    unfold decV at hto
    go_region_held3 (fun w' => (w'.cell? ⟨w4.heap.size, 0, none⟩ = some (.int .i64 m) ∧ w'.cell? ⟨w4.heap.size, 1, none⟩ = some (.string rest) ∧ w'.cell? ⟨w4.heap.size, 2, none⟩ = some (.slice (some ⟨g4, 0, none⟩) ss.length ss.length) ∧ w'.cell? ⟨w4.heap.size, 3, none⟩ = some (.bool bad)) ∧ (w'.cell? ⟨w.heap.size, 0, none⟩ = some (.int .i64 m) ∧ w'.cell? ⟨w.heap.size, 1, none⟩ = some (.string rest) ∧ w'.cell? ⟨w.heap.size, 2, none⟩ = some (.slice a ss.length cap) ∧ w'.cell? ⟨w.heap.size, 3, none⟩ = some (.bool bad))) (first | go_keep | (exact hk6) | (exact hk7))
      ((first | (go_at_call 14; refine hto.mono ?_; rintro e w6 ⟨g6, rfl, hs6, hb6⟩; unfold decV; have hk6 := And.intro (And.intro (cell_later (w := w5.drew) hb6 y0) (And.intro (cell_later (w := w5.drew) hb6 y1) (And.intro (cell_later (w := w5.drew) hb6 y2) (cell_later (w := w5.drew) hb6 y3)))) (And.intro (cell_later (w := w5.drew) hb6 x50) (And.intro (cell_later (w := w5.drew) hb6 x51) (And.intro (cell_later (w := w5.drew) hb6 x52) (cell_later (w := w5.drew) hb6 x53)))); have he := eqDec_any m rest _ _ ss.length ss.length ss bad w6 (SS.below (w := w5.drew) hs5 hb6) (ss_of_own hs6) hn'; unfold decV at he) | (go_at_call 16; refine he.mono ?_; rintro e w7 ⟨rfl, hb7⟩; have hk7 := And.intro (And.intro (cell_later hb7 hk6.1.1) (And.intro (cell_later hb7 hk6.1.2.1) (And.intro (cell_later hb7 hk6.1.2.2.1) (cell_later hb7 hk6.1.2.2.2)))) (And.intro (cell_later hb7 hk6.2.1) (And.intro (cell_later hb7 hk6.2.2.1) (And.intro (cell_later hb7 hk6.2.2.2.1) (cell_later hb7 hk6.2.2.2.2)))))))
    have hbx6 : Below w.heap.size w w6 := hbx5.drew.trans (hb6.mono hbx5.size)
    have hbx7 := hbx6.trans (hb7.mono hbx6.size)
    go_wp2
    go_ret
    exact ⟨rfl, hbx7⟩

set_option maxRecDepth 100000 in
theorem lifted (os : Os) (started : os.Started) (H : Type) (enc : TypeId × Value → H) :
    ReturnsInHanded {} Try.checked os 4 .any (Rows.fnExactValidDecoderSpec.pre6 enc Try.prog Try.f4 Rows.fnExactValidDecoderRow.domain false) (Rows.fnExactValidDecoderSpec.post enc Try.prog Try.f4 false true false false) := by
  refine returnsInHanded_of_change (C := Try.checked) own started (by kernel_rfl) Try.func4
    (ChangeSpec.witness6 (enc := enc) (C := Try.checked) false ⟨#[], #[.agg #[.int .i64 0, .string ByteArray.empty, .slice none 0 0, .bool false]], []⟩ 8 (by kernel_rfl) (by kernel_rfl) (by kernel_rfl) (by kernel_rfl)) ?_
  intro W base args ds gs before hval0 hW hcnd _
  have hval : ∀ (j : Nat) t v, Try.f4.params[j]? = some t → args[j]? = some v → Value.okWide Try.prog W .any base t v := hval0
  have hW' := hW
  obtain ⟨p, q, hA0, hV, rfl, hfz, hnd⟩ := hW
  have hA : DataW.TrodAll enc Try.prog W 0 (fun _ => true) true Try.f4.params.toList args.toList ds p := hA0
  rw [Try.params4] at hA hval
  obtain ⟨v0, vs0, d0, ds0, p0, q0, hargs, rfl, rfl, h0, r0⟩ := trodAll_cons hA
  obtain ⟨rfl, rfl, rfl⟩ := trodAll_nil r0
  obtain rfl : args = #[v0] := by cases args; simp_all
  obtain ⟨rfl, rfl⟩ := trodVars_none hV
  have k0 := h0
  have lt0 : ∀ x ∈ p0, x.block < W.heap.size := by obtain ⟨m, hm⟩ := k0; exact DataW.trod_lt m _ _ _ hm
  obtain ⟨m0, rest0, a0, cap0, ss0, bad0, rfl, hss, hn, hm, hr⟩ := open_dec (hval 0 29 v0 rfl rfl) h0
  clear hA0 hval0
  refine (walk m0 rest0 a0 cap0 ss0 bad0 W hss hn hm hr).mono fun e W' ⟨he, bel⟩ => ?_
  subst he
  exact ⟨_, rfl, _, _, _, [], _, [], hW', trodAll_mk1 (shut_bool Try.underlying4 _), (trodAll_cons_mk (Below.trod laidOut (by kernel_rfl) (of_decide_eq_true (by kernel_rfl)) k0 bel lt0) trodAll_mk0), rfl, bel.frame _, fun h => by cases h⟩

theorem over : Rows.fnExactValidDecoderRow.holds Try.pinned (OpenSpec.ofChange Rows.fnExactValidDecoderSpec) :=
  OpenClaim.holds_of_wide 4 Try.f4 rfl rfl rfl rfl rfl rfl rfl ⟨rfl, rfl, rfl, rfl, rfl⟩ rfl rfl rfl rfl rfl (by kernel_rfl) Try.func4 (by kernel_rfl)
    (of_decide_eq_true (by kernel_rfl)) (by unfold Func.isWrapper; first | (rw [if_pos (by decide +kernel)]; kernel_rfl) | (rw [if_neg (by decide +kernel)]; exact ⟨rfl, rfl⟩))
    (fun os started H enc _ => lifted os started H enc)

theorem proved : Rows.FnExactValidDecoderSaid := over
end Go.Proofs.Ytdlbmjmhlcaalaa.fnExactValidDecoder
