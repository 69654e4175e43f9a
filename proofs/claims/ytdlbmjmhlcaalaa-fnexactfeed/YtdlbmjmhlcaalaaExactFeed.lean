/-
  'FnExactFeed': the walk out of the contracts; the frame.
-/
import Derived.Test.YtdlbmjmhlcaalaaFeedLaw
namespace Go.Proofs.Ytdlbmjmhlcaalaa.fnExactFeed
open Go.ChangeShapes Go.WideShapes Go.ChangeAt Go.RowKit
open Go.ChangeMaps (open_string shut_string)
set_option linter.unusedVariables false

theorem own : ownKnob Try.prog.godebug = none := by kernel_rfl
theorem laidOut : laidOutB Try.prog = true := by kernel_rfl

theorem feedD_len (m : Int) (rest : ByteArray) (ss : List ByteArray) (bad : Bool) (bytes : ByteArray) : (feedD m rest ss bad bytes).fs.length ≤ 1000 := by
  unfold feedD
  split
  · rename_i hV
    obtain ⟨n, rfl, _, _, hl, _⟩ := validD_parts hV
    split
    · simp only; omega
    · have := feedP_room n (500 - ss.length) (rest ++ bytes)
      simp only [List.length_append, Int.toNat_natCast]
      omega
  · simp

set_option maxRecDepth 20000 in
set_option maxHeartbeats 8000000 in
theorem walk (m : Int) (rest : ByteArray) (a : Option Addr) (cap : Nat) (ss : List ByteArray) (bad : Bool) (bytes : ByteArray) (w : World) (hss : SS w a ss) (hn : ss.length ≤ maxLen) (hm : ∀ s ∈ ss, s.size ≤ maxLen) (hr : rest.size ≤ maxLen) (hbs : bytes.size ≤ maxLen) :
    Calls Try.prog 5 #[decV m rest (.slice a ss.length cap) bad, .string bytes] w fun e w' => e = .returned (.bool true) ∧ Below w.heap.size w w' := by
  unfold decV
  have hb0 : ∀ o, Below w.heap.size w (w.alloc o) := fun o => (Below.refl _ _).alloc (Nat.le_refl _) _
  by_cases hbig : (1048576 : Int) < bytes.size
  · go_enter Try.func5, Try.ntmps5
    go_wp2
    go_ret
    exact ⟨rfl, hb0 _⟩
  · have hbs2 : bytes.size ≤ 1073741824 := by omega
    go_enter Try.func5, Try.ntmps5
    go_wp2_with fail
    refine (szDec_any m rest a cap ss bad _ (hss.below (hb0 _)) hn hm hr).mono ?_
    rintro e w1 ⟨r, rfl, hb1, hr1⟩
    have hbx1 := (hb0 _).trans (hb1.mono (hb0 _).size)
    have hA1 : Fed w1 w.heap.size m rest (.slice a ss.length cap) bad := Fed.later (W := w.alloc (.cells #[.int .i64 m, .string rest, .slice a ss.length cap, .bool bad] 29)) ⟨by simp, by simp, by simp, by simp, fun j => by simp⟩ hb1
    clear hb1
    rcases hr1 with hr1 | ⟨hr1, hle⟩
    · go_wp2
      go_ret
      exact ⟨rfl, hbx1⟩
    · have hr0 : ¬ r < 0 := by omega
      have hn' : ss.length ≤ 1048576 := by omega
      have hrs : rest.size ≤ 1073741824 := by omega
      have hdl := feedD_len m rest ss bad bytes
      clear hr1 hle hbig
      have x10 := hA1.c0
      have x11 := hA1.c1
      have x12 := hA1.c2
      have x13 := hA1.c3
      go_wp2_with fail
      refine (toDec_any m rest a cap ss bad w1 (hss.below hbx1) hn').mono ?_
      rintro e w2 ⟨g2, rfl, ho2, hb2⟩
      have hA2 := hA1.later hb2
      have hbx2 := hbx1.trans (hb2.mono hbx1.size)
      have hcell : ∀ i (h : i < ss.length), w2.cell? ⟨g2, 0 + i, none⟩ = some (.string ss[i]) := fun i hi => by
        rw [Nat.zero_add, ho2.cellAt i (by omega), List.getElem?_map, List.getElem?_eq_getElem hi]; rfl
      have hsf := specFeed_any m rest g2 0 ss.length ss bad bytes w2 hcell hn hrs hbs2
      have himp : ∀ a' cp' W, SS W a' ss → Calls Try.prog 18 #[decV m rest (.slice a' ss.length cp') bad, .string bytes] W fun e w' => FeedPost W (feedD m rest ss bad bytes) e w' := fun a' cp' W h => implFeed_any m rest a' cp' ss bad bytes W h hn hrs hbs2
      generalize feedD m rest ss bad bytes = d at *
      clear x10 x11 x12 x13 hcell hA1
      go_wp2_with fail
      refine hsf.mono ?_
      rintro e w3 ⟨v3, rfl, ho3, hb3⟩
      obtain ⟨a3, c3, rfl⟩ := owns_slice ho3
      clear hsf
      unfold decV
      have hbx3 := hbx2.trans (hb3.mono hbx2.size)
      have hal3 : Below w3.heap.size w3 (w3.alloc (.cells #[.int .i64 d.m, .string d.rest, .slice a3 d.fs.length c3, .bool d.bad] 32)) := (Below.refl _ _).alloc (Nat.le_refl _) _
      have hA3 := (hA2.later hb3).later hal3
      have h63 := fed_new w3 d.m d.rest (.slice a3 d.fs.length c3) d.bad
      have o63 := ho3.alloc (.cells #[.int .i64 d.m, .string d.rest, .slice a3 d.fs.length c3, .bool d.bad] 32)
      have hbx3a := hbx3.trans (hal3.mono hbx3.size)
      have hz3 := hbx3.size
      clear hA2 ho2
      have x0 := hA3.c0
      have x1 := hA3.c1
      have x2 := hA3.c2
      have x3 := hA3.c3
      go_wp2_with fail
      refine (toDec_any m rest a cap ss bad _ (hss.below hbx3a) hn').mono ?_
      rintro e w4 ⟨g4, rfl, ho4, hb4⟩
      have hbx4 := hbx3a.trans (hb4.mono hbx3a.size)
      have hA4 := hA3.later hb4
      have h64 := h63.later hb4
      have o64 := owns_below o63 hb4
      have hg4 : w3.heap.size + 1 ≤ g4 := by have := owns_row_ge ho4 (j := g4) rfl; simpa using this
      have hg4' : g4 < w4.heap.size := own_lt ho4 rfl
      have hr3 : ∀ k, (Value.slice a3 d.fs.length c3).ownBlock = some k → w2.heap.size ≤ k ∧ k < w3.heap.size := fun k hk => ⟨owns_row_ge ho3 hk, own_lt ho3 hk⟩
      clear x0 x1 x2 x3
      clear hA3 h63 o63
      unfold decV
      have hal4 : Below w4.heap.size w4 (w4.alloc (.cells #[.int .i64 m, .string rest, .slice (some ⟨g4, 0, none⟩) ss.length ss.length, .bool bad] 32)) := (Below.refl _ _).alloc (Nat.le_refl _) _
      have hA4a := hA4.later hal4
      have h64a := h64.later hal4
      have h74a := fed_new w4 m rest (.slice (some ⟨g4, 0, none⟩) ss.length ss.length) bad
      have o64a := o64.alloc (.cells #[.int .i64 m, .string rest, .slice (some ⟨g4, 0, none⟩) ss.length ss.length, .bool bad] 32)
      have o74a := ho4.alloc (.cells #[.int .i64 m, .string rest, .slice (some ⟨g4, 0, none⟩) ss.length ss.length, .bool bad] 32)
      have hbx4a := hbx4.trans (hal4.mono hbx4.size)
      go_wp2_with fail
      refine (himp _ _ _ (ss_of_own o74a)).mono ?_
      rintro e w5 ⟨v5, rfl, ho5, hb5⟩
      obtain ⟨a5, c5, rfl⟩ := owns_slice ho5
      have hbx5 := hbx4a.trans (hb5.mono hbx4a.size)
      have hb78 : w4.heap.size < w5.heap.size := by have := hb5.size; simp at this; omega
      have hr5 : ∀ k, (Value.slice a5 d.fs.length c5).ownBlock = some k → w4.heap.size + 1 ≤ k ∧ k < w5.heap.size := fun k hk => ⟨by have := owns_row_ge ho5 hk; simpa using this, own_lt ho5 hk⟩
      unfold decV
      have hal5 : Below w5.heap.size w5 (w5.alloc (.cells #[.int .i64 d.m, .string d.rest, .slice a5 d.fs.length c5, .bool d.bad] 32)) := (Below.refl _ _).alloc (Nat.le_refl _) _
      have hA5 := (hA4a.later hb5).later hal5
      have h65 := (h64a.later hb5).later hal5
      have h75 := (h74a.later hb5).later hal5
      have h85 := fed_new w5 d.m d.rest (.slice a5 d.fs.length c5) d.bad
      have o65 := (owns_below o64a hb5).alloc (.cells #[.int .i64 d.m, .string d.rest, .slice a5 d.fs.length c5, .bool d.bad] 32)
      have o75 := (owns_below o74a hb5).alloc (.cells #[.int .i64 d.m, .string d.rest, .slice a5 d.fs.length c5, .bool d.bad] 32)
      have o85 := ho5.alloc (.cells #[.int .i64 d.m, .string d.rest, .slice a5 d.fs.length c5, .bool d.bad] 32)
      have hbx5a := hbx5.trans (hal5.mono hbx5.size)
      clear hA4 h64 o64 hA4a h64a h74a o64a o74a ho3 ho4 ho5
      have y0 := h65.c0
      have y1 := h65.c1
      have y2 := h65.c2
      have y3 := h65.c3
      go_wp2_with fail
      refine (eqDec_any d.m d.rest a5 a3 c5 c3 d.fs d.bad _ (ss_of_row o85) (ss_of_row o65) (by omega)).mono ?_
      rintro e w6 ⟨rfl, hb6⟩
      have hbx6 := hbx5a.trans (hb6.mono hbx5a.size)
      have hA6 := hA5.later hb6
      have h66 := h65.later hb6
      have h76 := h75.later hb6
      have h86 := h85.later hb6
      have o66 := owns_below o65 hb6
      have o76 := owns_below o75 hb6
      have o86 := owns_below o85 hb6
      clear y0 y1 y2 y3
      clear hA5 h65 h75 h85 o65 o75 o85
      generalize hB6 : w3.heap.size = b6 at *
      generalize hB7 : w4.heap.size = b7 at *
      generalize hB8 : w5.heap.size = b8 at *
      have x0 := hA6.c0
      have x1 := hA6.c1
      have x2 := hA6.c2
      have x3 := hA6.c3
      have z0 := h76.c0
      have z1 := h76.c1
      have z2 := h76.c2
      have z3 := h76.c3
      have hto := toDec_any m rest a cap ss bad w6.drew (hss.below hbx6.drew) hn'
      unfold decV at hto
      go_wp2_with fail
      go_region_held3 (fun w' => (w'.cell? ⟨b7, 0, none⟩ = some (.int .i64 m) ∧ w'.cell? ⟨b7, 1, none⟩ = some (.string rest) ∧ w'.cell? ⟨b7, 2, none⟩ = some (.slice (some ⟨g4, 0, none⟩) ss.length ss.length) ∧ w'.cell? ⟨b7, 3, none⟩ = some (.bool bad)) ∧ (w'.cell? ⟨w.heap.size, 0, none⟩ = some (.int .i64 m) ∧ w'.cell? ⟨w.heap.size, 1, none⟩ = some (.string rest) ∧ w'.cell? ⟨w.heap.size, 2, none⟩ = some (.slice a ss.length cap) ∧ w'.cell? ⟨w.heap.size, 3, none⟩ = some (.bool bad))) (first | go_keep | (exact hk7) | (exact hk8))
        ((first | (go_at_call 14; refine hto.mono ?_; rintro e w7 ⟨g7, rfl, ho7, hb7⟩; unfold decV; have hA7 := hA6.drew.later hb7; have h77 := h76.drew.later hb7; have hk7 := And.intro (And.intro h77.c0 (And.intro h77.c1 (And.intro h77.c2 h77.c3))) (And.intro hA7.c0 (And.intro hA7.c1 (And.intro hA7.c2 hA7.c3))); have he := eqDec_any m rest _ _ ss.length ss.length ss bad w7 (ss_of_own (owns_below (w := w6.drew) o76.drew hb7)) (ss_of_own ho7) hn'; unfold decV at he) | (go_at_call 16; refine he.mono ?_; rintro e w8 ⟨rfl, hb8⟩; have hA8 := hA7.later hb8; have h78 := h77.later hb8; have hk8 := And.intro (And.intro h78.c0 (And.intro h78.c1 (And.intro h78.c2 h78.c3))) (And.intro hA8.c0 (And.intro hA8.c1 (And.intro hA8.c2 hA8.c3))))))
      have hb68 : Below w6.heap.size w6 w8 := ((Below.refl _ _).drew.trans hb7).trans (hb8.mono hb7.size)
      have hbx8 := hbx6.trans (hb68.mono hbx6.size)
      have h68 := h66.later hb68
      have h88 := h86.later hb68
      have o68 := owns_below o66 hb68
      have o78 := owns_below o76 hb68
      have o88 := owns_below o86 hb68
      clear hk7 hk8 he hto hA6 h66 h76 h86 o66 o76 o86 hA7 h77
      clear x0 x1 x2 x3 z0 z1 z2 z3
      have z0 := h78.c0
      have z1 := h78.c1
      have z2 := h78.c2
      have z3 := h78.c3
      go_wp2_with fail
      refine (markDec_any m rest bad (some ⟨g4, 0, none⟩) ss.length ss _ w8 o78 hn').mono ?_
      rintro e w9 ⟨rfl, o79, hg9⟩
      have hrow9 : (Value.slice (some ⟨g4, 0, none⟩) ss.length ss.length).ownBlock = some g4 := rfl
      rw [hrow9] at hg9
      have hbx9 := hbx8.grown hg9 hbx8.size (fun k hk => by cases hk; omega)
      have hA9 := hA8.grown hg9 (by intro e; cases e; omega)
      have h69 := h68.grown hg9 (by intro e; cases e; omega)
      have h89 := h88.grown hg9 (by intro e; cases e; omega)
      have o69 := owns_grown o68 hg9 (fun k hk e => by cases e; have := hr3 _ hk; omega)
      have o89 := owns_grown o88 hg9 (fun k hk e => by cases e; have := hr5 _ hk; omega)
      have hk1 : ¬ ((1 + ss.length : Nat) : Int) < 0 := by omega
      clear hA8 h68 h78 h88 o68 o78 o88 o79 hg9
      clear z0 z1 z2 z3
      have x0 := h89.c0
      have x1 := h89.c1
      have x2 := h89.c2
      have x3 := h89.c3
      have y0 := h69.c0
      have y1 := h69.c1
      have y2 := h69.c2
      have y3 := h69.c3
      go_wp2_with fail
      refine (eqDec_any d.m d.rest a5 a3 c5 c3 d.fs d.bad _ (ss_of_row o89) (ss_of_row o69) (by omega)).mono ?_
      rintro e w10 ⟨rfl, hb10⟩
      have hbx10 := hbx9.trans (hb10.mono hbx9.size)
      have hA10 := hA9.later hb10
      have h610 := h69.later hb10
      have h810 := h89.later hb10
      have o610 := owns_below o69 hb10
      have o810 := owns_below o89 hb10
      clear hA9 h69 h89 o69 o89
      clear x0 x1 x2 x3 y0 y1 y2 y3
      have x0 := h810.c0
      have x1 := h810.c1
      have x2 := h810.c2
      have x3 := h810.c3
      go_wp2_with fail
      refine (markDec_any d.m d.rest d.bad a5 c5 d.fs _ w10 o810 (by omega)).mono ?_
      rintro e w11 ⟨rfl, o811, hg11⟩
      have hbx11 := hbx10.grown hg11 hbx10.size (fun k hk => by have := hr5 k hk; omega)
      have hA11 := hA10.grown hg11 (fun e => by have := hr5 _ e.symm; omega)
      have h611 := h610.grown hg11 (fun e => by have := hr5 _ e.symm; omega)
      have h811 := h810.grown hg11 (fun e => by have := hr5 _ e.symm; omega)
      have o611 := owns_grown o610 hg11 (fun k hk e => by have := hr3 _ hk; have := hr5 _ e.symm; omega)
      have s811 : SS w11 a5 (marks 1 d.fs.length) := ss_of_row (cp := c5) (base := _) (by rw [marks_len]; exact o811)
      clear hA10 h610 h810 o610 o810 o811 hg11
      clear x0 x1 x2 x3
      have x0 := h811.c0
      have x1 := h811.c1
      have x2 := h811.c2
      have x3 := h811.c3
      go_wp2_with fail
      refine (heldDec_any d.m d.rest d.bad a5 c5 d.fs.length w11 s811 (by omega)).mono ?_
      rintro e w12 ⟨rfl, hb12⟩
      have hbx12 := hbx11.trans (hb12.mono hbx11.size)
      have hA12 := hA11.later hb12
      have h612 := h611.later hb12
      have h812 := h811.later hb12
      have o612 := owns_below o611 hb12
      have s812 := s811.below hb12
      have hq1 : ¬ ((1 + d.fs.length : Nat) : Int) < 0 := by omega
      clear hA11 h611 h811 o611 s811
      clear x0 x1 x2 x3
      have x0 := hA12.c0
      have x1 := hA12.c1
      have x2 := hA12.c2
      have x3 := hA12.c3
      go_wp2_with fail
      refine (toDec_any m rest a cap ss bad _ (hss.below hbx12) hn').mono ?_
      rintro e w13 ⟨g13, rfl, ho13, hb13⟩
      have hbx13 := hbx12.trans (hb13.mono hbx12.size)
      have h613 := h612.later hb13
      have h813 := h812.later hb13
      have o613 := owns_below o612 hb13
      have s813 := s812.below hb13
      clear hA12 h612 h812 o612 s812
      clear x0 x1 x2 x3
      go_wp2_with fail
      refine (himp _ _ _ (ss_of_own ho13)).mono ?_
      rintro e w14 ⟨v14, rfl, ho14, hb14⟩
      obtain ⟨a14, c14, rfl⟩ := owns_slice ho14
      unfold decV
      have hbx14 := hbx13.trans (hb14.mono hbx13.size)
      have hal14 : Below w14.heap.size w14 (w14.alloc (.cells #[.int .i64 d.m, .string d.rest, .slice a14 d.fs.length c14, .bool d.bad] 32)) := (Below.refl _ _).alloc (Nat.le_refl _) _
      have h614 := (h613.later hb14).later hal14
      have h814 := (h813.later hb14).later hal14
      have o614 := (owns_below o613 hb14).alloc (.cells #[.int .i64 d.m, .string d.rest, .slice a14 d.fs.length c14, .bool d.bad] 32)
      have s814 := (s813.below hb14).below hal14
      have o1214 := ho14.alloc (.cells #[.int .i64 d.m, .string d.rest, .slice a14 d.fs.length c14, .bool d.bad] 32)
      have hbx14a := hbx14.trans (hal14.mono hbx14.size)
      clear h613 h813 o613 s813 ho13 ho14
      have y0 := h614.c0
      have y1 := h614.c1
      have y2 := h614.c2
      have y3 := h614.c3
      go_wp2_with fail
      refine (eqDec_any d.m d.rest a14 a3 c14 c3 d.fs d.bad _ (ss_of_row o1214) (ss_of_row o614) (by omega)).mono ?_
      rintro e w15 ⟨rfl, hb15⟩
      have hbx15 := hbx14a.trans (hb15.mono hbx14a.size)
      have h815 := h814.later hb15
      have s815 := s814.below hb15
      clear h614 h814 o614 s814 o1214
      clear y0 y1 y2 y3
      have x0 := h815.c0
      have x1 := h815.c1
      have x2 := h815.c2
      have x3 := h815.c3
      go_wp2_with fail
      refine (heldDec_any d.m d.rest d.bad a5 c5 d.fs.length w15 s815 (by omega)).mono ?_
      rintro e w16 ⟨rfl, hb16⟩
      go_wp2
      go_ret
      exact ⟨rfl, hbx15.trans (hb16.mono hbx15.size)⟩

set_option maxRecDepth 100000 in
theorem lifted (os : Os) (started : os.Started) (H : Type) (enc : TypeId × Value → H) :
    ReturnsInHanded {} Try.checked os 5 .any (Rows.fnExactFeedSpec.pre6 enc Try.prog Try.f5 Rows.fnExactFeedRow.domain false) (Rows.fnExactFeedSpec.post enc Try.prog Try.f5 false true false false) := by
  refine returnsInHanded_of_change (C := Try.checked) own started (by kernel_rfl) Try.func5
    (ChangeSpec.witness6 (enc := enc) (C := Try.checked) false ⟨#[], #[.agg #[.int .i64 0, .string ByteArray.empty, .slice none 0 0, .bool false], .string ByteArray.empty], []⟩ 8 (by kernel_rfl) (by kernel_rfl) (by kernel_rfl) (by kernel_rfl)) ?_
  intro W base args ds gs before hval0 hW hcnd _
  have hval : ∀ (j : Nat) t v, Try.f5.params[j]? = some t → args[j]? = some v → Value.okWide Try.prog W .any base t v := hval0
  have hW' := hW
  obtain ⟨p, q, hA0, hV, rfl, hfz, hnd⟩ := hW
  have hA : DataW.TrodAll enc Try.prog W 0 (fun _ => true) true Try.f5.params.toList args.toList ds p := hA0
  rw [Try.params5] at hA hval
  obtain ⟨v0, vs0, d0, ds0, p0, q0, hargs, rfl, rfl, h0, r0⟩ := trodAll_cons hA
  obtain ⟨v1, vs1, d1, ds1, p1, q1, rfl, rfl, rfl, h1, r1⟩ := trodAll_cons r0
  obtain ⟨rfl, rfl, rfl⟩ := trodAll_nil r1
  obtain rfl : args = #[v0, v1] := by cases args; simp_all
  obtain ⟨rfl, rfl⟩ := trodVars_none hV
  have k0 := h0
  have lt0 : ∀ x ∈ p0, x.block < W.heap.size := by obtain ⟨m, hm⟩ := k0; exact DataW.trod_lt m _ _ _ hm
  obtain ⟨a1, rfl, rfl, rfl, w1⟩ := open_string Try.underlying9 (hval 1 9 v1 rfl rfl) h1
  obtain ⟨m0, rest0, a0, cap0, ss0, bad0, rfl, hss, hn, hm, hr⟩ := open_dec (hval 0 29 v0 rfl rfl) h0
  clear hA0 hval0
  refine (walk m0 rest0 a0 cap0 ss0 bad0 a1 W hss hn hm hr w1).mono fun e W' ⟨he, bel⟩ => ?_
  subst he
  exact ⟨_, rfl, _, _, _, [], _, [], hW', trodAll_mk1 (shut_bool Try.underlying4 _), (trodAll_cons_mk (Below.trod laidOut (by kernel_rfl) (of_decide_eq_true (by kernel_rfl)) k0 bel lt0) (trodAll_cons_mk (shut_string Try.underlying9 w1) trodAll_mk0)), rfl, bel.frame _, fun h => by cases h⟩

theorem over : Rows.fnExactFeedRow.holds Try.pinned (OpenSpec.ofChange Rows.fnExactFeedSpec) :=
  OpenClaim.holds_of_wide 5 Try.f5 rfl rfl rfl rfl rfl rfl rfl ⟨rfl, rfl, rfl, rfl, rfl⟩ rfl rfl rfl rfl rfl (by kernel_rfl) Try.func5 (by kernel_rfl)
    (of_decide_eq_true (by kernel_rfl)) (by unfold Func.isWrapper; first | (rw [if_pos (by decide +kernel)]; kernel_rfl) | (rw [if_neg (by decide +kernel)]; exact ⟨rfl, rfl⟩))
    (fun os started H enc _ => lifted os started H enc)

theorem proved : Rows.FnExactFeedSaid := over
end Go.Proofs.Ytdlbmjmhlcaalaa.fnExactFeed
