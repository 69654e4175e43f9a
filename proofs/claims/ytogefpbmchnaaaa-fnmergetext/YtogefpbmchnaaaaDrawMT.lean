/-
  spec.l10Dec at one digit, spec.l7Edit, spec.DrawMergeText: they end, with some texts.
-/
import Derived.Test.YtogefpbmchnaaaaDrawTx
import Derived.Test.YtogefpbmchnaaaaDecT
import Derived.Test.YtogefpbmchnaaaaLinesS
import Derived.Test.YtogefpbmchnaaaaCommI
namespace Go.Proofs.Ytogefpbmchnaaaa
open Go.RowKit

set_option maxRecDepth 20000 in
set_option maxHeartbeats 4000000 in
theorem edit_any (g : Nat) (a : Option Addr) (cap : Nat) (zs : List Int) (p : Nat) (t : ByteArray) (w : World) (h : Rd w g a cap zs p) (hp : p ≤ 100000000) :
    Calls Try.prog 21 #[.pointer (some ⟨g, 0, none⟩), .string t] w fun e w' => ∃ s : ByteArray, e = .returned (.string s) ∧ s.size ≤ 10000000 ∧ Dr g a cap zs w w' p 4000 := by
  have hlt := h.lt
  have hll := linesT_le t
  have hls : ∀ x ∈ linesT t, x.size ≤ 1500 := fun x hx => by
    unfold linesT at hx
    split at hx
    · have := line_size hx; omega
    · simp at hx
  have cL := specLines_any t w
  generalize linesT t = ls at *
  go_enter Try.func21, Try.ntmps21
  go_wp2_with fail
  refine cL.mono ?_
  rintro e w1 ⟨a1, c1, rfl, o1, b1⟩
  have hS1 : SS w1 a1 ls := by
    rcases o1.2 with ⟨hv, h0⟩ | ⟨g', c, cur, hv, _⟩
    · exact .inl (List.eq_nil_of_length_eq_zero h0)
    · cases hv
      refine .inr ⟨g', 0, rfl, fun i hi => ?_⟩
      rw [Nat.zero_add, o1.cellAt i (by omega), List.getElem?_map, List.getElem?_eq_getElem hi]
      rfl
  have hne : ∀ ad, a1 = some ad → 0 < ls.length → some ad.block ≠ some g := fun ad e h0 e2 => by
    have := owns_base o1 ad.block (by rw [e]; rfl)
    simp at e2
    omega
  clear cL o1
  have hR1 := h.below b1
  go_wp2
  go_loopw [6, 7] (fun so si wr => ∃ (i : Nat) (out : ByteArray) (p' : Nat), i ≤ ls.length + 1 ∧ so = .string out ∧ si = .int .i64 (i : Int) ∧ out.size ≤ 2000 * i ∧ p' ≤ p + 2 * i ∧ Rd wr g a cap zs p' ∧ w1.grownBy wr (some g)) (fun _ si _ => ls.length + 1 - (intOf si).toNat)
  case atStart => exact ⟨0, ⟨#[]⟩, p, Nat.zero_le _, rfl, rfl, Nat.le_refl _, Nat.le_refl _, hR1, gr_refl _ _⟩
  case round =>
    obtain ⟨i, out, p', hi, rfl, rfl, hol, hpp, hR, hg⟩ := hrel
    by_cases hlt2 : i < ls.length + 1
    · have hle : (i : Int) ≤ ls.length := by omega
      go_wp2_with fail
      refine (pick_any g a cap zs p' 7 wr hR (by omega) (by omega) (by omega)).mono ?_
      rintro e w2 ⟨x, rfl, hx, hg2, hR2⟩
      have hgx2 := gr_trans hg hg2
      have hcell : ∀ (W : World), w1.grownBy W (some g) → ∀ (hi : i < ls.length), ∃ b off, a1 = some ⟨b, off, none⟩ ∧ W.cell? ⟨b, off + i, none⟩ = some (.string ls[i]) := fun W hW hi => by
        obtain ⟨b, off, e, hc⟩ := (hS1.grown hW hne).at hi
        exact ⟨b, off, e, hc i hi⟩
      by_cases x0 : x = 0
      · have hB : ((x : Int) == 0) = true := by simp; omega
        have hz1 : ¬ 9223372036854775807 < out.size + 1 := by omega
        go_wp2_with fail
        refine (pick_any g a cap zs (p' + 1) 2 w2 hR2 (by omega) (by omega) (by omega)).mono ?_
        rintro e w3 ⟨y, rfl, hy, hg3, hR3⟩
        have hgx3 := gr_trans hgx2 hg3
        go_wp2_with fail
        refine (dec_any y w3 (by omega)).mono ?_
        rintro e w4 ⟨d, rfl, hds, hb4⟩
        have hgx4 := gr_trans hgx3 (gr_below hb4)
        have hR4 := hR3.below hb4
        have HDS : NKeep (d.size = 1) := ⟨hds⟩
        have hz2 : ¬ 9223372036854775807 < out.size + 1 + d.size := by omega
        have hz3 : ¬ 9223372036854775807 < out.size + 1 + d.size + 1 := by omega
        by_cases hil : i < ls.length
        · have hil' : (i : Int) < ls.length := by omega
          obtain ⟨b, off, rfl, hck⟩ := hcell w4 hgx4 hil
          have hlz := hls ls[i] (List.getElem_mem hil)
          have hzz : ¬ 9223372036854775807 < (out.size + 1 + d.size + 1) + ls[i].size := by omega
          clear hcell
          go_wp2
          go_roundw
          case rel => exact ⟨i + 1, _, p' + 1 + 1, by omega, rfl, by go_num, by have k1 : (⟨#[101]⟩ : ByteArray).size = 1 := rfl; have k2 : (⟨#[10]⟩ : ByteArray).size = 1 := rfl; simp only [ByteArray.size_append]; omega, by omega, hR4, hgx4⟩
          case measure => simp [intOf]; omega
        · have hil' : ¬ (i : Int) < ls.length := by omega
          clear hcell
          go_wp2
          go_roundw
          case rel => exact ⟨i + 1, _, p' + 1 + 1, by omega, rfl, by go_num, by have k1 : (⟨#[101]⟩ : ByteArray).size = 1 := rfl; have k2 : (⟨#[10]⟩ : ByteArray).size = 1 := rfl; simp only [ByteArray.size_append]; omega, by omega, hR4, hgx4⟩
          case measure => simp [intOf]; omega
      · have hB : ((x : Int) == 0) = false := by simp; omega
        by_cases x1 : x = 1
        · have hB1 : ((x : Int) == 1) = true := by simp; omega
          clear hcell
          go_wp2
          go_roundw
          case rel => exact ⟨i + 1, out, p' + 1, by omega, rfl, by go_num, by omega, by omega, hR2, hgx2⟩
          case measure => simp [intOf]; omega
        · have hB1 : ((x : Int) == 1) = false := by simp; omega
          by_cases hil : i < ls.length
          · have hil' : (i : Int) < ls.length := by omega
            obtain ⟨b, off, rfl, hck⟩ := hcell w2 hgx2 hil
            have hlz := hls ls[i] (List.getElem_mem hil)
            have hzz : ¬ 9223372036854775807 < out.size + ls[i].size := by omega
            clear hcell
            go_wp2
            go_roundw
            case rel => exact ⟨i + 1, _, p' + 1, by omega, rfl, by go_num, by simp only [ByteArray.size_append]; omega, by omega, hR2, hgx2⟩
            case measure => simp [intOf]; omega
          · have hil' : ¬ (i : Int) < ls.length := by omega
            clear hcell
            go_wp2
            go_roundw
            case rel => exact ⟨i + 1, _, p' + 1, by omega, rfl, by go_num, by (try simp only [ByteArray.size_append]); omega, by omega, hR2, hgx2⟩
            case measure => simp [intOf]; omega
    · obtain rfl : i = ls.length + 1 := by omega
      go_wp2
      go_ret
      exact ⟨out, rfl, by omega, ⟨p', by omega, hR⟩, gr_trans (gr_below b1) hg⟩
theorem s6 : (⟨#[108, 109, 110, 111, 112, 113]⟩ : ByteArray).size = 6 := rfl

set_option maxRecDepth 20000 in
set_option maxHeartbeats 2000000 in
theorem drawMT_any (a : Option Addr) (cap : Nat) (zs : List Int) (w : World) (h : Code0 w a cap zs) :
    Calls Try.prog 7 #[.slice a zs.length cap] w fun e w' => ∃ x y z : ByteArray, e = .returned (.tuple #[.string x, .string y, .string z]) ∧ Below w.heap.size w w' := by
  go_enter Try.func7, Try.ntmps7
  go_wp2_with fail
  refine (open_any a cap zs w h).mono ?_
  rintro e w1 ⟨rfl, b1, hs1, zs', hR1⟩
  have hbel : ∀ W : World, w1.grownBy W (some w.heap.size) → Below w.heap.size w W := fun W hW => b1.grown hW (by omega) (fun k e => by cases e; exact Nat.le_refl _)
  go_wp2_with fail
  refine (pick_any w.heap.size a cap zs' 0 9 w1 hR1 (by omega) (by omega) (by omega)).mono ?_
  rintro e w2 ⟨n0, rfl, hn0, hg2, hR2⟩
  go_wp2
  go_loopw [6, 7] (fun sb sn wr => ∃ (base : ByteArray) (n p : Nat), sb = .string base ∧ sn = .int .i64 (n : Int) ∧ n ≤ n0 ∧ base.size + 2 * n ≤ 20 ∧ p + n ≤ 20 ∧ Rd wr w.heap.size a cap zs' p ∧ w1.grownBy wr (some w.heap.size)) (fun _ sn _ => (intOf sn).toNat)
  case atStart => exact ⟨⟨#[]⟩, n0, 1, rfl, rfl, Nat.le_refl _, by have k0 : (⟨#[]⟩ : ByteArray).size = 0 := rfl; omega, by omega, hR2, hg2⟩
  case round =>
    obtain ⟨base, n, p, rfl, rfl, hnn, hbz, hpn, hR, hg⟩ := hrel
    by_cases hn : 0 < n
    · have hn' : (0 : Int) < n := by omega
      go_wp2_with fail
      refine (pick_any w.heap.size a cap zs' p 6 wr hR (by omega) (by omega) (by omega)).mono ?_
      rintro e w3 ⟨y, rfl, hy, hg3, hR3⟩
      have hg' := gr_trans hg hg3
      go_wp2
      go_roundw
      case rel =>
        refine ⟨_, n - 1, p + 1, rfl, by go_num, by omega, ?_, by omega, hR3, hg'⟩
        have k2 : (⟨#[10]⟩ : ByteArray).size = 1 := rfl
        simp only [ByteArray.size_append, ByteArray.size_extract]
        omega
      case measure => simp [intOf]; omega
    · obtain rfl : n = 0 := by omega
      have hn' : ¬ (0 : Int) < ((0 : Nat) : Int) := by decide
      clear hR1 hR2 hg2 hn
      go_wp2_with fail
      refine (pick_any w.heap.size a cap zs' p 4 wr hR (by omega) (by omega) (by omega)).mono ?_
      rintro e w4 ⟨x4, rfl, hx4, hg4, hR4⟩
      have hq4 := gr_trans hg hg4
      by_cases c4 : x4 = 0
      · have hB4 : ((x4 : Int) == 0) = true := by simp; omega
        have hz4 : ¬ 9223372036854775807 < base.size + 3 := by omega
        go_wp2_with fail
        refine (pick_any w.heap.size a cap zs' (p + 1) 5 w4 hR4 (by omega) (by omega) (by omega)).mono ?_
        rintro e w5 ⟨x5, rfl, hx5, hg5, hR5⟩
        have hq5 := gr_trans hq4 hg5
        by_cases c5 : 0 < x5
        · have hB5 : (0 : Int) < x5 := by omega
          go_wp2_with fail
          refine (edit_any w.heap.size a cap zs' (p + 1 + 1) _ w5 hR5 (by omega)).mono ?_
          rintro e w6 ⟨s6, rfl, hs6, ⟨p6, hp6, hR6⟩, hg6⟩
          have hq6 := gr_trans hq5 hg6
          go_wp2_with fail
          refine (pick_any w.heap.size a cap zs' p6 5 w6 hR6 (by omega) (by omega) (by omega)).mono ?_
          rintro e w7 ⟨x7, rfl, hx7, hg7, hR7⟩
          have hq7 := gr_trans hq6 hg7
          by_cases c7 : 0 < x7
          · have hB7 : (0 : Int) < x7 := by omega
            go_wp2_with fail
            refine (edit_any w.heap.size a cap zs' (p6 + 1) _ w7 hR7 (by omega)).mono ?_
            rintro e w8 ⟨s8, rfl, hs8, ⟨p8, hp8, hR8⟩, hg8⟩
            have hq8 := gr_trans hq7 hg8
            go_wp2_with fail
            refine (pick_any w.heap.size a cap zs' p8 24 w8 hR8 (by omega) (by omega) (by omega)).mono ?_
            rintro e w9 ⟨x9, rfl, hx9, hg9, hR9⟩
            have hq9 := gr_trans hq8 hg9
            by_cases c9 : x9 = 0
            · have hB9 : ((x9 : Int) == 0) = true := by simp; omega
              go_wp2_with fail
              refine (pick_any w.heap.size a cap zs' (p8 + 1) 2 w9 hR9 (by omega) (by omega) (by omega)).mono ?_
              rintro e wA ⟨xA, rfl, hxA, hgA, hRA⟩
              have hqA := gr_trans hq9 hgA
              have hmany := many_any ⟨#[98]⟩ (1500 + xA) wA (by have k1 : (⟨#[98]⟩ : ByteArray).size = 1 := rfl; rw [k1]; omega) (by omega) (by decide) (by decide)
              rw [show ((1500 + xA : Nat) : Int) = 1500 + (xA : Int) by omega] at hmany
              go_wp2_with fail
              refine hmany.mono ?_
              rintro e wB ⟨oB, rfl, _, rfl⟩
              go_wp2
              go_ret3
              exact ⟨_, _, _, rfl, hbel _ hqA⟩
            · have hB9 : ((x9 : Int) == 0) = false := by simp; omega
              by_cases d9 : x9 = 1
              · have hD9 : ((x9 : Int) == 1) = true := by simp; omega
                go_wp2_with fail
                refine (text_any w.heap.size a cap zs' (p8 + 1) w9 hR9 (by omega)).mono ?_
                rintro e wA ⟨sA, rfl, _, ⟨pA, hpA, hRA⟩, hgA⟩
                have hqA := gr_trans hq9 hgA
                go_wp2_with fail
                refine (text_any w.heap.size a cap zs' pA wA hRA (by omega)).mono ?_
                rintro e wB ⟨sB, rfl, _, ⟨pB, hpB, hRB⟩, hgB⟩
                have hqB := gr_trans hqA hgB
                go_wp2_with fail
                refine (text_any w.heap.size a cap zs' pB wB hRB (by omega)).mono ?_
                rintro e wC ⟨sC, rfl, _, _, hgC⟩
                have hqC := gr_trans hqB hgC
                go_wp2
                go_ret3
                exact ⟨_, _, _, rfl, hbel _ hqC⟩
              · have hD9 : ((x9 : Int) == 1) = false := by simp; omega
                go_wp2
                go_ret3
                exact ⟨_, _, _, rfl, hbel _ hq9⟩
          · have hB7 : ¬ (0 : Int) < x7 := by omega
            go_wp2_with fail
            refine (pick_any w.heap.size a cap zs' (p6 + 1) 24 w7 hR7 (by omega) (by omega) (by omega)).mono ?_
            rintro e w9 ⟨x9, rfl, hx9, hg9, hR9⟩
            have hq9 := gr_trans hq7 hg9
            by_cases c9 : x9 = 0
            · have hB9 : ((x9 : Int) == 0) = true := by simp; omega
              go_wp2_with fail
              refine (pick_any w.heap.size a cap zs' ((p6 + 1) + 1) 2 w9 hR9 (by omega) (by omega) (by omega)).mono ?_
              rintro e wA ⟨xA, rfl, hxA, hgA, hRA⟩
              have hqA := gr_trans hq9 hgA
              have hmany := many_any ⟨#[98]⟩ (1500 + xA) wA (by have k1 : (⟨#[98]⟩ : ByteArray).size = 1 := rfl; rw [k1]; omega) (by omega) (by decide) (by decide)
              rw [show ((1500 + xA : Nat) : Int) = 1500 + (xA : Int) by omega] at hmany
              go_wp2_with fail
              refine hmany.mono ?_
              rintro e wB ⟨oB, rfl, _, rfl⟩
              go_wp2
              go_ret3
              exact ⟨_, _, _, rfl, hbel _ hqA⟩
            · have hB9 : ((x9 : Int) == 0) = false := by simp; omega
              by_cases d9 : x9 = 1
              · have hD9 : ((x9 : Int) == 1) = true := by simp; omega
                go_wp2_with fail
                refine (text_any w.heap.size a cap zs' ((p6 + 1) + 1) w9 hR9 (by omega)).mono ?_
                rintro e wA ⟨sA, rfl, _, ⟨pA, hpA, hRA⟩, hgA⟩
                have hqA := gr_trans hq9 hgA
                go_wp2_with fail
                refine (text_any w.heap.size a cap zs' pA wA hRA (by omega)).mono ?_
                rintro e wB ⟨sB, rfl, _, ⟨pB, hpB, hRB⟩, hgB⟩
                have hqB := gr_trans hqA hgB
                go_wp2_with fail
                refine (text_any w.heap.size a cap zs' pB wB hRB (by omega)).mono ?_
                rintro e wC ⟨sC, rfl, _, _, hgC⟩
                have hqC := gr_trans hqB hgC
                go_wp2
                go_ret3
                exact ⟨_, _, _, rfl, hbel _ hqC⟩
              · have hD9 : ((x9 : Int) == 1) = false := by simp; omega
                go_wp2
                go_ret3
                exact ⟨_, _, _, rfl, hbel _ hq9⟩
        · have hB5 : ¬ (0 : Int) < x5 := by omega
          go_wp2_with fail
          refine (pick_any w.heap.size a cap zs' (p + 1 + 1) 5 w5 hR5 (by omega) (by omega) (by omega)).mono ?_
          rintro e w7 ⟨x7, rfl, hx7, hg7, hR7⟩
          have hq7 := gr_trans hq5 hg7
          by_cases c7 : 0 < x7
          · have hB7 : (0 : Int) < x7 := by omega
            go_wp2_with fail
            refine (edit_any w.heap.size a cap zs' ((p + 1 + 1) + 1) _ w7 hR7 (by omega)).mono ?_
            rintro e w8 ⟨s8, rfl, hs8, ⟨p8, hp8, hR8⟩, hg8⟩
            have hq8 := gr_trans hq7 hg8
            go_wp2_with fail
            refine (pick_any w.heap.size a cap zs' p8 24 w8 hR8 (by omega) (by omega) (by omega)).mono ?_
            rintro e w9 ⟨x9, rfl, hx9, hg9, hR9⟩
            have hq9 := gr_trans hq8 hg9
            by_cases c9 : x9 = 0
            · have hB9 : ((x9 : Int) == 0) = true := by simp; omega
              go_wp2_with fail
              refine (pick_any w.heap.size a cap zs' (p8 + 1) 2 w9 hR9 (by omega) (by omega) (by omega)).mono ?_
              rintro e wA ⟨xA, rfl, hxA, hgA, hRA⟩
              have hqA := gr_trans hq9 hgA
              have hmany := many_any ⟨#[98]⟩ (1500 + xA) wA (by have k1 : (⟨#[98]⟩ : ByteArray).size = 1 := rfl; rw [k1]; omega) (by omega) (by decide) (by decide)
              rw [show ((1500 + xA : Nat) : Int) = 1500 + (xA : Int) by omega] at hmany
              go_wp2_with fail
              refine hmany.mono ?_
              rintro e wB ⟨oB, rfl, _, rfl⟩
              go_wp2
              go_ret3
              exact ⟨_, _, _, rfl, hbel _ hqA⟩
            · have hB9 : ((x9 : Int) == 0) = false := by simp; omega
              by_cases d9 : x9 = 1
              · have hD9 : ((x9 : Int) == 1) = true := by simp; omega
                go_wp2_with fail
                refine (text_any w.heap.size a cap zs' (p8 + 1) w9 hR9 (by omega)).mono ?_
                rintro e wA ⟨sA, rfl, _, ⟨pA, hpA, hRA⟩, hgA⟩
                have hqA := gr_trans hq9 hgA
                go_wp2_with fail
                refine (text_any w.heap.size a cap zs' pA wA hRA (by omega)).mono ?_
                rintro e wB ⟨sB, rfl, _, ⟨pB, hpB, hRB⟩, hgB⟩
                have hqB := gr_trans hqA hgB
                go_wp2_with fail
                refine (text_any w.heap.size a cap zs' pB wB hRB (by omega)).mono ?_
                rintro e wC ⟨sC, rfl, _, _, hgC⟩
                have hqC := gr_trans hqB hgC
                go_wp2
                go_ret3
                exact ⟨_, _, _, rfl, hbel _ hqC⟩
              · have hD9 : ((x9 : Int) == 1) = false := by simp; omega
                go_wp2
                go_ret3
                exact ⟨_, _, _, rfl, hbel _ hq9⟩
          · have hB7 : ¬ (0 : Int) < x7 := by omega
            go_wp2_with fail
            refine (pick_any w.heap.size a cap zs' ((p + 1 + 1) + 1) 24 w7 hR7 (by omega) (by omega) (by omega)).mono ?_
            rintro e w9 ⟨x9, rfl, hx9, hg9, hR9⟩
            have hq9 := gr_trans hq7 hg9
            by_cases c9 : x9 = 0
            · have hB9 : ((x9 : Int) == 0) = true := by simp; omega
              go_wp2_with fail
              refine (pick_any w.heap.size a cap zs' (((p + 1 + 1) + 1) + 1) 2 w9 hR9 (by omega) (by omega) (by omega)).mono ?_
              rintro e wA ⟨xA, rfl, hxA, hgA, hRA⟩
              have hqA := gr_trans hq9 hgA
              have hmany := many_any ⟨#[98]⟩ (1500 + xA) wA (by have k1 : (⟨#[98]⟩ : ByteArray).size = 1 := rfl; rw [k1]; omega) (by omega) (by decide) (by decide)
              rw [show ((1500 + xA : Nat) : Int) = 1500 + (xA : Int) by omega] at hmany
              go_wp2_with fail
              refine hmany.mono ?_
              rintro e wB ⟨oB, rfl, _, rfl⟩
              go_wp2
              go_ret3
              exact ⟨_, _, _, rfl, hbel _ hqA⟩
            · have hB9 : ((x9 : Int) == 0) = false := by simp; omega
              by_cases d9 : x9 = 1
              · have hD9 : ((x9 : Int) == 1) = true := by simp; omega
                go_wp2_with fail
                refine (text_any w.heap.size a cap zs' (((p + 1 + 1) + 1) + 1) w9 hR9 (by omega)).mono ?_
                rintro e wA ⟨sA, rfl, _, ⟨pA, hpA, hRA⟩, hgA⟩
                have hqA := gr_trans hq9 hgA
                go_wp2_with fail
                refine (text_any w.heap.size a cap zs' pA wA hRA (by omega)).mono ?_
                rintro e wB ⟨sB, rfl, _, ⟨pB, hpB, hRB⟩, hgB⟩
                have hqB := gr_trans hqA hgB
                go_wp2_with fail
                refine (text_any w.heap.size a cap zs' pB wB hRB (by omega)).mono ?_
                rintro e wC ⟨sC, rfl, _, _, hgC⟩
                have hqC := gr_trans hqB hgC
                go_wp2
                go_ret3
                exact ⟨_, _, _, rfl, hbel _ hqC⟩
              · have hD9 : ((x9 : Int) == 1) = false := by simp; omega
                go_wp2
                go_ret3
                exact ⟨_, _, _, rfl, hbel _ hq9⟩
      · have hB4 : ((x4 : Int) == 0) = false := by simp; omega
        go_wp2_with fail
        refine (pick_any w.heap.size a cap zs' (p + 1) 5 w4 hR4 (by omega) (by omega) (by omega)).mono ?_
        rintro e w5 ⟨x5, rfl, hx5, hg5, hR5⟩
        have hq5 := gr_trans hq4 hg5
        by_cases c5 : 0 < x5
        · have hB5 : (0 : Int) < x5 := by omega
          go_wp2_with fail
          refine (edit_any w.heap.size a cap zs' (p + 1 + 1) _ w5 hR5 (by omega)).mono ?_
          rintro e w6 ⟨s6, rfl, hs6, ⟨p6, hp6, hR6⟩, hg6⟩
          have hq6 := gr_trans hq5 hg6
          go_wp2_with fail
          refine (pick_any w.heap.size a cap zs' p6 5 w6 hR6 (by omega) (by omega) (by omega)).mono ?_
          rintro e w7 ⟨x7, rfl, hx7, hg7, hR7⟩
          have hq7 := gr_trans hq6 hg7
          by_cases c7 : 0 < x7
          · have hB7 : (0 : Int) < x7 := by omega
            go_wp2_with fail
            refine (edit_any w.heap.size a cap zs' (p6 + 1) _ w7 hR7 (by omega)).mono ?_
            rintro e w8 ⟨s8, rfl, hs8, ⟨p8, hp8, hR8⟩, hg8⟩
            have hq8 := gr_trans hq7 hg8
            go_wp2_with fail
            refine (pick_any w.heap.size a cap zs' p8 24 w8 hR8 (by omega) (by omega) (by omega)).mono ?_
            rintro e w9 ⟨x9, rfl, hx9, hg9, hR9⟩
            have hq9 := gr_trans hq8 hg9
            by_cases c9 : x9 = 0
            · have hB9 : ((x9 : Int) == 0) = true := by simp; omega
              go_wp2_with fail
              refine (pick_any w.heap.size a cap zs' (p8 + 1) 2 w9 hR9 (by omega) (by omega) (by omega)).mono ?_
              rintro e wA ⟨xA, rfl, hxA, hgA, hRA⟩
              have hqA := gr_trans hq9 hgA
              have hmany := many_any ⟨#[98]⟩ (1500 + xA) wA (by have k1 : (⟨#[98]⟩ : ByteArray).size = 1 := rfl; rw [k1]; omega) (by omega) (by decide) (by decide)
              rw [show ((1500 + xA : Nat) : Int) = 1500 + (xA : Int) by omega] at hmany
              go_wp2_with fail
              refine hmany.mono ?_
              rintro e wB ⟨oB, rfl, _, rfl⟩
              go_wp2
              go_ret3
              exact ⟨_, _, _, rfl, hbel _ hqA⟩
            · have hB9 : ((x9 : Int) == 0) = false := by simp; omega
              by_cases d9 : x9 = 1
              · have hD9 : ((x9 : Int) == 1) = true := by simp; omega
                go_wp2_with fail
                refine (text_any w.heap.size a cap zs' (p8 + 1) w9 hR9 (by omega)).mono ?_
                rintro e wA ⟨sA, rfl, _, ⟨pA, hpA, hRA⟩, hgA⟩
                have hqA := gr_trans hq9 hgA
                go_wp2_with fail
                refine (text_any w.heap.size a cap zs' pA wA hRA (by omega)).mono ?_
                rintro e wB ⟨sB, rfl, _, ⟨pB, hpB, hRB⟩, hgB⟩
                have hqB := gr_trans hqA hgB
                go_wp2_with fail
                refine (text_any w.heap.size a cap zs' pB wB hRB (by omega)).mono ?_
                rintro e wC ⟨sC, rfl, _, _, hgC⟩
                have hqC := gr_trans hqB hgC
                go_wp2
                go_ret3
                exact ⟨_, _, _, rfl, hbel _ hqC⟩
              · have hD9 : ((x9 : Int) == 1) = false := by simp; omega
                go_wp2
                go_ret3
                exact ⟨_, _, _, rfl, hbel _ hq9⟩
          · have hB7 : ¬ (0 : Int) < x7 := by omega
            go_wp2_with fail
            refine (pick_any w.heap.size a cap zs' (p6 + 1) 24 w7 hR7 (by omega) (by omega) (by omega)).mono ?_
            rintro e w9 ⟨x9, rfl, hx9, hg9, hR9⟩
            have hq9 := gr_trans hq7 hg9
            by_cases c9 : x9 = 0
            · have hB9 : ((x9 : Int) == 0) = true := by simp; omega
              go_wp2_with fail
              refine (pick_any w.heap.size a cap zs' ((p6 + 1) + 1) 2 w9 hR9 (by omega) (by omega) (by omega)).mono ?_
              rintro e wA ⟨xA, rfl, hxA, hgA, hRA⟩
              have hqA := gr_trans hq9 hgA
              have hmany := many_any ⟨#[98]⟩ (1500 + xA) wA (by have k1 : (⟨#[98]⟩ : ByteArray).size = 1 := rfl; rw [k1]; omega) (by omega) (by decide) (by decide)
              rw [show ((1500 + xA : Nat) : Int) = 1500 + (xA : Int) by omega] at hmany
              go_wp2_with fail
              refine hmany.mono ?_
              rintro e wB ⟨oB, rfl, _, rfl⟩
              go_wp2
              go_ret3
              exact ⟨_, _, _, rfl, hbel _ hqA⟩
            · have hB9 : ((x9 : Int) == 0) = false := by simp; omega
              by_cases d9 : x9 = 1
              · have hD9 : ((x9 : Int) == 1) = true := by simp; omega
                go_wp2_with fail
                refine (text_any w.heap.size a cap zs' ((p6 + 1) + 1) w9 hR9 (by omega)).mono ?_
                rintro e wA ⟨sA, rfl, _, ⟨pA, hpA, hRA⟩, hgA⟩
                have hqA := gr_trans hq9 hgA
                go_wp2_with fail
                refine (text_any w.heap.size a cap zs' pA wA hRA (by omega)).mono ?_
                rintro e wB ⟨sB, rfl, _, ⟨pB, hpB, hRB⟩, hgB⟩
                have hqB := gr_trans hqA hgB
                go_wp2_with fail
                refine (text_any w.heap.size a cap zs' pB wB hRB (by omega)).mono ?_
                rintro e wC ⟨sC, rfl, _, _, hgC⟩
                have hqC := gr_trans hqB hgC
                go_wp2
                go_ret3
                exact ⟨_, _, _, rfl, hbel _ hqC⟩
              · have hD9 : ((x9 : Int) == 1) = false := by simp; omega
                go_wp2
                go_ret3
                exact ⟨_, _, _, rfl, hbel _ hq9⟩
        · have hB5 : ¬ (0 : Int) < x5 := by omega
          go_wp2_with fail
          refine (pick_any w.heap.size a cap zs' (p + 1 + 1) 5 w5 hR5 (by omega) (by omega) (by omega)).mono ?_
          rintro e w7 ⟨x7, rfl, hx7, hg7, hR7⟩
          have hq7 := gr_trans hq5 hg7
          by_cases c7 : 0 < x7
          · have hB7 : (0 : Int) < x7 := by omega
            go_wp2_with fail
            refine (edit_any w.heap.size a cap zs' ((p + 1 + 1) + 1) _ w7 hR7 (by omega)).mono ?_
            rintro e w8 ⟨s8, rfl, hs8, ⟨p8, hp8, hR8⟩, hg8⟩
            have hq8 := gr_trans hq7 hg8
            go_wp2_with fail
            refine (pick_any w.heap.size a cap zs' p8 24 w8 hR8 (by omega) (by omega) (by omega)).mono ?_
            rintro e w9 ⟨x9, rfl, hx9, hg9, hR9⟩
            have hq9 := gr_trans hq8 hg9
            by_cases c9 : x9 = 0
            · have hB9 : ((x9 : Int) == 0) = true := by simp; omega
              go_wp2_with fail
              refine (pick_any w.heap.size a cap zs' (p8 + 1) 2 w9 hR9 (by omega) (by omega) (by omega)).mono ?_
              rintro e wA ⟨xA, rfl, hxA, hgA, hRA⟩
              have hqA := gr_trans hq9 hgA
              have hmany := many_any ⟨#[98]⟩ (1500 + xA) wA (by have k1 : (⟨#[98]⟩ : ByteArray).size = 1 := rfl; rw [k1]; omega) (by omega) (by decide) (by decide)
              rw [show ((1500 + xA : Nat) : Int) = 1500 + (xA : Int) by omega] at hmany
              go_wp2_with fail
              refine hmany.mono ?_
              rintro e wB ⟨oB, rfl, _, rfl⟩
              go_wp2
              go_ret3
              exact ⟨_, _, _, rfl, hbel _ hqA⟩
            · have hB9 : ((x9 : Int) == 0) = false := by simp; omega
              by_cases d9 : x9 = 1
              · have hD9 : ((x9 : Int) == 1) = true := by simp; omega
                go_wp2_with fail
                refine (text_any w.heap.size a cap zs' (p8 + 1) w9 hR9 (by omega)).mono ?_
                rintro e wA ⟨sA, rfl, _, ⟨pA, hpA, hRA⟩, hgA⟩
                have hqA := gr_trans hq9 hgA
                go_wp2_with fail
                refine (text_any w.heap.size a cap zs' pA wA hRA (by omega)).mono ?_
                rintro e wB ⟨sB, rfl, _, ⟨pB, hpB, hRB⟩, hgB⟩
                have hqB := gr_trans hqA hgB
                go_wp2_with fail
                refine (text_any w.heap.size a cap zs' pB wB hRB (by omega)).mono ?_
                rintro e wC ⟨sC, rfl, _, _, hgC⟩
                have hqC := gr_trans hqB hgC
                go_wp2
                go_ret3
                exact ⟨_, _, _, rfl, hbel _ hqC⟩
              · have hD9 : ((x9 : Int) == 1) = false := by simp; omega
                go_wp2
                go_ret3
                exact ⟨_, _, _, rfl, hbel _ hq9⟩
          · have hB7 : ¬ (0 : Int) < x7 := by omega
            go_wp2_with fail
            refine (pick_any w.heap.size a cap zs' ((p + 1 + 1) + 1) 24 w7 hR7 (by omega) (by omega) (by omega)).mono ?_
            rintro e w9 ⟨x9, rfl, hx9, hg9, hR9⟩
            have hq9 := gr_trans hq7 hg9
            by_cases c9 : x9 = 0
            · have hB9 : ((x9 : Int) == 0) = true := by simp; omega
              go_wp2_with fail
              refine (pick_any w.heap.size a cap zs' (((p + 1 + 1) + 1) + 1) 2 w9 hR9 (by omega) (by omega) (by omega)).mono ?_
              rintro e wA ⟨xA, rfl, hxA, hgA, hRA⟩
              have hqA := gr_trans hq9 hgA
              have hmany := many_any ⟨#[98]⟩ (1500 + xA) wA (by have k1 : (⟨#[98]⟩ : ByteArray).size = 1 := rfl; rw [k1]; omega) (by omega) (by decide) (by decide)
              rw [show ((1500 + xA : Nat) : Int) = 1500 + (xA : Int) by omega] at hmany
              go_wp2_with fail
              refine hmany.mono ?_
              rintro e wB ⟨oB, rfl, _, rfl⟩
              go_wp2
              go_ret3
              exact ⟨_, _, _, rfl, hbel _ hqA⟩
            · have hB9 : ((x9 : Int) == 0) = false := by simp; omega
              by_cases d9 : x9 = 1
              · have hD9 : ((x9 : Int) == 1) = true := by simp; omega
                go_wp2_with fail
                refine (text_any w.heap.size a cap zs' (((p + 1 + 1) + 1) + 1) w9 hR9 (by omega)).mono ?_
                rintro e wA ⟨sA, rfl, _, ⟨pA, hpA, hRA⟩, hgA⟩
                have hqA := gr_trans hq9 hgA
                go_wp2_with fail
                refine (text_any w.heap.size a cap zs' pA wA hRA (by omega)).mono ?_
                rintro e wB ⟨sB, rfl, _, ⟨pB, hpB, hRB⟩, hgB⟩
                have hqB := gr_trans hqA hgB
                go_wp2_with fail
                refine (text_any w.heap.size a cap zs' pB wB hRB (by omega)).mono ?_
                rintro e wC ⟨sC, rfl, _, _, hgC⟩
                have hqC := gr_trans hqB hgC
                go_wp2
                go_ret3
                exact ⟨_, _, _, rfl, hbel _ hqC⟩
              · have hD9 : ((x9 : Int) == 1) = false := by simp; omega
                go_wp2
                go_ret3
                exact ⟨_, _, _, rfl, hbel _ hq9⟩
end Go.Proofs.Ytogefpbmchnaaaa
