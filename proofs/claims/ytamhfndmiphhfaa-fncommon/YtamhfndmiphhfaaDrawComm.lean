/-
  spec.l7List, spec.DrawCommon: they end, with some lists of short lines.
-/
import Derived.Test.YtamhfndmiphhfaaDrP
import Derived.Test.YtamhfndmiphhfaaCommI
import Derived.Deep.AppendLies
namespace Go.Proofs.Ytamhfndmiphhfaa
open Go.RowKit

def lenOfV : Value → Nat | .slice _ n _ => n | _ => 0
theorem own_cap {w : World} {base g n cp m : Nat} {e : TypeId} {size : Nat} {xs : List Value} (h : w.ownsRow base e size (.slice (some ⟨g, 0, none⟩) n cp) m xs) : n ≤ cp ∧ cp ≤ maxLen := by
  rcases h.2 with ⟨h', _⟩ | ⟨g', c, cur, hv, _, _, h3, h4, _⟩
  · cases h'
  · cases hv; exact ⟨h3, h4⟩
theorem ss_of_row {w : World} {base : Nat} {ad : Option Addr} {cp : Nat} {ss : List ByteArray} (h : w.ownsRow base 9 1 (.slice ad ss.length cp) ss.length (ss.map .string)) : SS w ad ss := by
  rcases h.2 with ⟨_, h0⟩ | ⟨g, cap, cur, hv, _⟩
  · left; exact List.eq_nil_of_length_eq_zero h0
  · cases hv
    refine .inr ⟨g, 0, rfl, fun i hi => ?_⟩
    rw [Nat.zero_add, h.cellAt i (by omega), List.getElem?_map, List.getElem?_eq_getElem hi]
    rfl
theorem row_at {w : World} {base g n cp : Nat} {ss : List ByteArray} (h : w.ownsRow base 9 1 (.slice (some ⟨g, 0, none⟩) n cp) n (ss.map .string)) (hn : n = ss.length) : ∀ j u, (ss.map Value.string)[j]? = some u → w.cell? (Addr.add ⟨g, 0, none⟩ j) = some u := fun j u hj => by
  have hlt : j < (ss.map Value.string).length := (List.getElem?_eq_some_iff.1 hj).1
  have ha : Addr.add ⟨g, 0, none⟩ j = ⟨g, j, none⟩ := by simp [Addr.add]; exact fun h => h.symm
  rw [ha, h.cellAt j (by simp at hlt; omega), hj]
theorem str_one (ss : List ByteArray) : ∀ u ∈ ss.map Value.string, u.oneCell' = true := by
  intro u hu
  simp only [List.mem_map] at hu
  obtain ⟨x, _, rfl⟩ := hu
  rfl

set_option maxRecDepth 20000 in
set_option maxHeartbeats 2000000 in
theorem list_any (g : Nat) (a : Option Addr) (cap : Nat) (zs : List Int) (p : Nat) (w : World) (h : Rd w g a cap zs p) (hp : p ≤ 1000000) :
    Calls Try.prog 24 #[.pointer (some ⟨g, 0, none⟩)] w fun e w' => ∃ (ga cp : Nat) (ss : List ByteArray), e = .returned (.slice (some ⟨ga, 0, none⟩) ss.length cp) ∧ w'.ownsRow w.heap.size 9 1 (.slice (some ⟨ga, 0, none⟩) ss.length cp) ss.length (ss.map .string) ∧ ga < w'.heap.size ∧ ss.length ≤ 9 ∧ (∀ s ∈ ss, s.size ≤ 1) ∧ Dr g a cap zs w w' p 12 := by
  obtain ⟨i0, hi, hz0, hz1, hz2⟩ := info_parts Try.infoStr
  have hlt := h.lt
  have hb0 : Below w.heap.size w (w.alloc (.cells #[] 9)) := (Below.refl _ _).alloc (Nat.le_refl _) _
  go_enter Try.func24, Try.ntmps24
  go_wp2_with fail
  refine (pick_any g a cap zs p 10 _ (h.below hb0) (by omega) (by omega) (by omega)).mono ?_
  rintro e w1 ⟨x, rfl, hx, hg1, hR1⟩
  have hgx1 : w.grownBy w1 (some g) := gr_trans (gr_below hb0) hg1
  have hnil : (w.alloc (.cells #[] 9)).ownsRow w.heap.size 9 1 (.slice (some ⟨w.heap.size, 0, none⟩) 0 0) 0 [] := ⟨by simp, .inr ⟨w.heap.size, 0, #[], rfl, Nat.le_refl _, heap_alloc_new w _, Nat.le_refl _, by unfold maxLen; omega, rfl, by simp⟩⟩
  have ho1 := owns_rd hnil hg1 hlt
  have hlt1 : w.heap.size < w1.heap.size := own_lt ho1 rfl
  clear hnil hb0
  go_wp2
  go_loopw [3, 4] (fun v q wr => ∃ (ss : List ByteArray) (q' p' ga cp : Nat), v = .slice (some ⟨ga, 0, none⟩) ss.length cp ∧ q = .int .i64 q' ∧ ss.length + q' ≤ 9 ∧ p' + q' ≤ p + 10 ∧ wr.ownsRow w.heap.size 9 1 (.slice (some ⟨ga, 0, none⟩) ss.length cp) ss.length (ss.map .string) ∧ (∀ s ∈ ss, s.size ≤ 1) ∧ Rd wr g a cap zs p' ∧ w.grownBy wr (some g)) (fun _ q _ => (intOf q).toNat)
  case atStart => exact ⟨[], x, p + 1, w.heap.size, 0, rfl, rfl, by simp; omega, by omega, ho1, by simp, hR1, hgx1⟩
  case round =>
    obtain ⟨ss, q, p', ga, cp, rfl, rfl, hsq, hpq, hown, hss, hR, hg⟩ := hrel
    by_cases hq : 0 < q
    · have hq' : (0 : Int) < q := by omega
      go_wp2_with fail
      refine (pick_any g a cap zs p' 3 wr hR (by omega) (by omega) (by omega)).mono ?_
      rintro e w2 ⟨y, rfl, hy, hg2, hR2⟩
      have ho2 := owns_rd hown hg2 hlt
      have hgx2 := gr_trans hg hg2
      have hw2 := hgx2.size
      go_wp2_with (at_builtin; refine wpList_append_lies _ rfl _ _ 22 rfl w.heap.size 9 i0 _ 1 16 Try.underlying22 hi hz0 hz1 hz2 rfl (by decide) _ _ _ rfl (ho2.alloc _) ⟨w2.heap.size, 0, none⟩ 1 1 [_] rfl rfl (cell_one_new _ _ _) (by simp [Value.oneCell']) (by omega) (by unfold maxLen; omega) (by omega) (by simp; omega) (w2.heap.size + 1) (by simp) ?_; intro g4 c4 w4 ho4 hg4 _ _)
      obtain ⟨t, ht, ho5⟩ : ∃ t : ByteArray, t.size ≤ 1 ∧ w4.ownsRow w.heap.size 9 1 (.slice (some ⟨g4, 0, none⟩) (ss.length + 1) c4) (ss.length + 1) (ss.map .string ++ [.string t]) := by
        refine ⟨_, ?_, ho4⟩
        simp only [ByteArray.size_extract]
        omega
      go_roundw
      case rel =>
        refine ⟨ss ++ [t], q - 1, p' + 1, g4, c4, by simp, by go_num, by simp; omega, by omega, ?_, ?_, ?_, ?_⟩
        · rw [List.length_append, List.map_append]; exact ho5
        · intro u hu
          rcases List.mem_append.1 hu with hu | hu
          · exact hss u hu
          · rw [List.mem_singleton.1 hu]; exact ht
        · exact (hR2.below ((Below.refl _ _).alloc (Nat.le_refl _) _)).own hg4 (fun k hk => owns_row_ge ho2 hk) hlt
        · exact gr_own (gr_alloc _ hgx2) hg4 (fun k hk => owns_row_ge ho2 hk)
      case measure => simp [intOf]; omega
    · obtain rfl : q = 0 := by omega
      have hgl := own_lt hown rfl
      go_wp2
      go_ret
      exact ⟨ga, cp, ss, rfl, hown, hgl, by omega, hss, ⟨p', by omega, hR⟩, hg⟩

def DrawnC (w : World) (e : Ending) (w' : World) : Prop :=
  ∃ (a1 : Option Addr) (c1 : Nat) (ss : List ByteArray) (a2 : Option Addr) (c2 : Nat) (tt : List ByteArray), e = .returned (.tuple #[.slice a1 ss.length c1, .slice a2 tt.length c2]) ∧ SS w' a1 ss ∧ SS w' a2 tt ∧ (∀ s ∈ ss, s.size ≤ 1) ∧ (∀ s ∈ tt, s.size ≤ 1) ∧ ss.length ≤ 1501 ∧ tt.length ≤ 18 ∧ Below w.heap.size w w'

set_option maxRecDepth 20000 in
set_option maxHeartbeats 4000000 in
theorem drawC_any (a : Option Addr) (cap : Nat) (zs : List Int) (w : World) (h : Code0 w a cap zs) :
    Calls Try.prog 11 #[.slice a zs.length cap] w (DrawnC w) := by
  obtain ⟨i0, hi, hz0, hz1, hz2⟩ := info_parts Try.infoStr
  go_enter Try.func11, Try.ntmps11
  go_wp2_with fail
  refine (open_any a cap zs w h).mono ?_
  rintro e w1 ⟨rfl, b1, hs1, zs', hR1⟩
  have hw1 : w.heap.size < w.heap.size + 1 := by omega
  go_wp2_with fail
  refine (list_any w.heap.size a cap zs' 0 w1 hR1 (by omega)).mono ?_
  rintro e w2 ⟨ga, ca, ss, rfl, hoA, hgaL, hsl, hss, ⟨p2, hp2, hR2⟩, hg2⟩
  have hB2 : Below w.heap.size w w2 := b1.grown hg2 (by omega) (fun k e => by cases e; exact Nat.le_refl _)
  rw [hs1] at hoA
  have hgaG := owns_row_ge hoA (j := ga) rfl
  go_wp2_with fail
  refine (list_any w.heap.size a cap zs' p2 w2 hR2 (by omega)).mono ?_
  rintro e w3 ⟨gb, cb, tt, rfl, hoB, hgbL, htl, htt, ⟨p3, hp3, hR3⟩, hg3⟩
  have hB3 : Below w.heap.size w w3 := hB2.grown hg3 hB2.size (fun k e => by cases e; exact Nat.le_refl _)
  have hgbG := owns_row_ge hoB (j := gb) rfl
  have hoA3 := owns_rd hoA hg3 hw1
  have hs2 := hB2.size
  clear hR1 hR2 hoA
  go_wp2_with fail
  refine (pick_any w.heap.size a cap zs' p3 3 w3 hR3 (by omega) (by omega) (by omega)).mono ?_
  rintro e w4 ⟨x4, rfl, hx4, hg4, hR4⟩
  have hoA4 := owns_rd hoA3 hg4 hw1
  have hoB4 := owns_rd hoB hg4 (by omega)
  have hB4 : Below w.heap.size w w4 := hB3.grown hg4 hB3.size (fun k e => by cases e; exact Nat.le_refl _)
  have hgb4 : gb < w4.heap.size := Nat.lt_of_lt_of_le hgbL hg4.size
  have hga4 : ga < w4.heap.size := own_lt hoA4 rfl
  clear hoA3 hoB hR3
  by_cases c4 : x4 = 0
  · have hB4' : ((x4 : Int) == 0) = true := by simp; omega
    have hnil : (w4.alloc (.cells #[] 9)).ownsRow w4.heap.size 9 1 (.slice (some ⟨w4.heap.size, 0, none⟩) 0 0) 0 [] := ⟨by simp, .inr ⟨w4.heap.size, 0, #[], rfl, Nat.le_refl _, heap_alloc_new w4 _, Nat.le_refl _, by unfold maxLen; omega, rfl, by simp⟩⟩
    have hoA4' := hoA4.alloc (.cells #[] 9)
    have hoB4' := hoB4.alloc (.cells #[] 9)
    have hal4 : Below w4.heap.size w4 (w4.alloc (.cells #[] 9)) := (Below.refl _ _).alloc (Nat.le_refl _) _
    clear c4
    have hnB : (Value.slice (some ⟨gb, 0, none⟩) tt.length cb).ownBlock ≠ (Value.slice (some ⟨w4.heap.size, 0, none⟩) 0 0).ownBlock := by
      intro e
      have e' : gb = w4.heap.size := by simpa [Value.ownBlock] using e
      omega
    have tok : True := trivial
    go_wp2_with (first
      | (at_builtin; have _t := tok; refine wpList_append_own _ rfl _ _ 22 rfl w4.heap.size 9 i0 _ 1 16 Try.underlying22 hi hz0 hz1 hz2 rfl (by decide) (.slice (some ⟨w4.heap.size, 0, none⟩) 0 0) 0 [] rfl hnil ⟨ga, 0, none⟩ ss.length ca (ss.map .string) rfl (by simp) (row_at hoA4' rfl) (str_one ss) (by unfold maxLen; omega) (by omega) (by simp) ?_; intro v5 w5 ho5 hg5 _; clear tok; have hoB5 := hoB4'.kept hg5 (.inr hnB); rw [Nat.zero_add, List.nil_append] at ho5; obtain ⟨ad5, cp5, hv5⟩ := owns_slice ho5; have hs5 := hg5.size; subst hv5)
      | (at_builtin; refine wpList_append_own _ rfl _ _ 22 rfl w4.heap.size 9 i0 _ 1 16 Try.underlying22 hi hz0 hz1 hz2 rfl (by decide) _ _ _ rfl ho5 ⟨gb, 0, none⟩ tt.length cb (tt.map .string) rfl (by simp) (row_at hoB5 rfl) (str_one tt) (by unfold maxLen; omega) (by omega) (by simp at hs5; omega) ?_; intro v6 w6 ho6 hg6 _; obtain ⟨ad6, cp6, hv6⟩ := owns_slice ho6; subst hv6))
    rw [World.size_alloc] at hs5
    have hg56 : w4.grownBy w6 none := by
      refine ⟨hg6.os.trans (hg5.os.trans rfl), hg6.tape.trans (hg5.tape.trans rfl), hg6.output.trans (hg5.output.trans rfl), by have := hg6.size; omega, fun k hk _ => ?_⟩
      rw [hg6.block k (by omega) (fun e => by have := owns_row_ge ho5 e.symm; omega), hg5.block k (by simp; omega) (fun e => by simp [Value.ownBlock] at e; omega)]
      exact Below.heap_alloc _ _ _ hk
    have hoA6 := hoA4.kept hg56 (.inr (by simp [Value.ownBlock]))
    have hR6 := hR4.kept hg56 (fun k e => by cases e)
    have hB6 : Below w.heap.size w w6 := hB4.grown hg56 hB4.size (fun k e => by cases e)
    obtain ⟨uu, huu⟩ : ∃ uu, uu = ss ++ tt := ⟨_, rfl⟩
    have hul : ss.length + tt.length = uu.length := by rw [huu]; simp
    have ho6' : w6.ownsRow w4.heap.size 9 1 (.slice ad6 uu.length cp6) uu.length (uu.map .string) := by
      rw [← hul, huu, List.map_append]
      exact ho6
    have hS6 : SS w6 ad6 uu := ss_of_row ho6'
    have htl6 : uu.length ≤ 18 := by omega
    have htt6 : ∀ s ∈ uu, s.size ≤ 1 := by
      rw [huu]; intro s hs
      rcases List.mem_append.1 hs with hs | hs
      · exact hss s hs
      · exact htt s hs
    have hn6 : ∀ ad, ad6 = some ad → w.heap.size < ad.block ∧ some ad.block ≠ (Value.slice (some ⟨ga, 0, none⟩) ss.length ca).ownBlock ∧ ad.block < w6.heap.size := fun ad e => by
      subst e
      have e1 := owns_row_ge ho6' (j := ad.block) rfl
      have e2 := own_lt ho6' (g := ad.block) rfl
      have := hB4.size
      exact ⟨by omega, by simp [Value.ownBlock]; omega, e2⟩
    rw [show (ss.length + tt.length) = uu.length by omega]
    clear ho6 ho5 hoB5 hnil hoA4' hoB4' huu htt htl hoB4 hoA4 hg5 hg6 hg56
    generalize ad6 = ab at *
    generalize cp6 = cb at *
    generalize uu = tt at *
    go_wp2_with fail
    refine (pick_any w.heap.size a cap zs' (p3 + 1) 60 w6 hR6 (by omega) (by omega) (by omega)).mono ?_
    rintro e w7 ⟨x7, rfl, hx7, hg7, hR7⟩
    have hoA7 := owns_rd hoA6 hg7 hw1
    have hS7 : SS w7 ab tt := hS6.grown hg7 (fun ad e h0 => by have := (hn6 ad e).1; simp; omega)
    have hB7 : Below w.heap.size w w7 := hB6.grown hg7 hB6.size (fun k e => by cases e; exact Nat.le_refl _)
    have hn7 : ∀ ad, ab = some ad → w.heap.size < ad.block ∧ some ad.block ≠ (Value.slice (some ⟨ga, 0, none⟩) ss.length ca).ownBlock ∧ ad.block < w7.heap.size := fun ad e => ⟨(hn6 ad e).1, (hn6 ad e).2.1, Nat.lt_of_lt_of_le (hn6 ad e).2.2 hg7.size⟩
    by_cases c7 : x7 = 0
    · have hB7' : ((x7 : Int) == 0) = true := by simp; omega
      clear c7
      go_wp2
      go_loopw [5] (fun v wr => ∃ (us : List ByteArray) (g c : Nat), v = .slice (some ⟨g, 0, none⟩) us.length c ∧ us.length ≤ 1501 ∧ (∀ s ∈ us, s.size ≤ 1) ∧ wr.ownsRow (w.heap.size + 1) 9 1 (.slice (some ⟨g, 0, none⟩) us.length c) us.length (us.map .string) ∧ SS wr ab tt ∧ (∀ ad, ab = some ad → w.heap.size < ad.block ∧ some ad.block ≠ (Value.slice (some ⟨g, 0, none⟩) us.length c).ownBlock ∧ ad.block < wr.heap.size) ∧ Rd wr w.heap.size a cap zs' ((p3 + 1) + 1) ∧ Below w.heap.size w wr) (fun v _ => 1501 - lenOfV v)
      case atStart => exact ⟨ss, ga, ca, rfl, by omega, hss, hoA7, hS7, hn7, hR7, hB7⟩
      case round =>
        obtain ⟨us, g, c, rfl, hul, hus, hou, hS, hnb, hR, hB⟩ := hrel
        have hcap := own_cap hou
        by_cases hlt : us.length < 1501
        · have hlt' : (us.length : Int) < 1501 := by omega
          have hsz := hB.size
          have hrl := hR.lt
          go_wp2_with (at_builtin; refine wpList_append_lies _ rfl _ _ 22 rfl (w.heap.size + 1) 9 i0 _ 1 16 Try.underlying22 hi hz0 hz1 hz2 rfl (by decide) _ _ _ rfl (hou.alloc _) ⟨wr.heap.size, 0, none⟩ 1 1 [.string ⟨#[97]⟩] rfl rfl (cell_one_new _ _ _) (by simp [Value.oneCell']) (by omega) (by unfold maxLen; omega) (by omega) (by simp; omega) (wr.heap.size + 1) (by simp) ?_; intro g8 c8 w8 ho8 hg8 hat8 hlt8)
          have hgx : wr.grownBy w8 (Value.slice (some ⟨g, 0, none⟩) us.length c).ownBlock := gr_trans (gr_below ((Below.refl _ _).alloc (Nat.le_refl _) _)) hg8
          go_roundw
          case rel =>
            refine ⟨us ++ [⟨#[97]⟩], g8, c8, by simp, by simp; omega, ?_, ?_, ?_, ?_, ?_, ?_⟩
            · intro u hu
              rcases List.mem_append.1 hu with hu | hu
              · exact hus u hu
              · rw [List.mem_singleton.1 hu]; exact Nat.le_refl 1
            · rw [List.length_append, List.map_append]; exact ho8
            · exact hS.grown hgx (fun ad e _ => (hnb ad e).2.1)
            · intro ad e
              refine ⟨(hnb ad e).1, fun e2 => ?_, Nat.lt_of_lt_of_le (hnb ad e).2.2 hgx.size⟩
              have e3 : ad.block = g8 := by simpa [Value.ownBlock] using e2
              rcases hat8 with h | h
              · exact (hnb ad e).2.1 ((congrArg some e3).trans h.symm)
              · have := (hnb ad e).2.2; omega
            · exact hR.own hgx (fun k hk => owns_row_ge hou hk) (by omega)
            · exact hB.grown hgx hB.size (fun k hk => by have := owns_row_ge hou hk; omega)
          case measure => simp [lenOfV]; omega
        · obtain ⟨L, hL⟩ : ∃ L, us.length = L := ⟨_, rfl⟩
          obtain rfl : L = 1501 := by omega
          rw [hL] at hou hcap ⊢
          go_wp2_with fail
          refine (pick_any w.heap.size a cap zs' ((p3 + 1) + 1) 2 wr hR (by omega) (by omega) (by omega)).mono ?_
          rintro e w9 ⟨x9, rfl, hx9, hg9, hR9⟩
          have ho9 := owns_rd hou hg9 (by omega)
          have hS9 : SS w9 ab tt := hS.grown hg9 (fun ad e h0 => by have := (hnb ad e).1; simp; omega)
          have hA9 : SS w9 (some ⟨g, 0, none⟩) us := by
            refine .inr ⟨g, 0, rfl, fun i hi => ?_⟩
            rw [Nat.zero_add, ho9.cellAt i (by omega), List.getElem?_map, List.getElem?_eq_getElem hi]
            rfl
          have HL : NKeep (us.length = 1501) := ⟨hL⟩
          clear hL
          go_wp2
          go_ret2
          refine ⟨some ⟨g, 0, none⟩, c, us.take (1500 + x9), ab, cb, tt, ?_, ?_, hS9, ?_, htt6, ?_, htl6, hB.grown hg9 hB.size (fun k e => by cases e; exact Nat.le_refl _)⟩
          · rw [List.length_take, HL.out, show min (1500 + x9) 1501 = 1500 + x9 by omega]
            simp
            try omega
          · refine .inr ⟨g, 0, rfl, fun i hi => ?_⟩
            rcases hA9 with h | ⟨b', o', e', hc'⟩
            · have := HL.out; rw [h] at this; simp at this
            · cases e'
              rw [hc' i (by have := HL.out; simp at hi; omega)]
              simp
          · exact fun s hs => hus s (List.mem_of_mem_take hs)
          · rw [List.length_take]; omega
    · have hB7' : ((x7 : Int) == 0) = false := by simp; omega
      clear c7
      go_wp2
      go_ret2
      exact ⟨some ⟨ga, 0, none⟩, ca, ss, ab, cb, tt, rfl, ss_of_row hoA7, hS7, hss, htt6, by omega, htl6, hB7⟩
  · have hB4' : ((x4 : Int) == 0) = false := by simp; omega
    have hS4 : SS w4 (some ⟨gb, 0, none⟩) tt := ss_of_row hoB4
    have hn4 : ∀ ad : Addr, (some ⟨gb, 0, none⟩ : Option Addr) = some ad → w.heap.size < ad.block ∧ some ad.block ≠ (Value.slice (some ⟨ga, 0, none⟩) ss.length ca).ownBlock ∧ ad.block < w4.heap.size := fun ad e => by
      cases e
      have := hB2.size
      refine ⟨by simp only; omega, ?_, hgb4⟩
      simp [Value.ownBlock]
      omega
    have htl4 : tt.length ≤ 18 := by omega
    clear c4 htl hoB4
    obtain ⟨ab, hab⟩ : ∃ ab : Option Addr, ab = some ⟨gb, 0, none⟩ := ⟨_, rfl⟩
    rw [← hab] at hS4 hn4 ⊢
    clear hab
    go_wp2_with fail
    refine (pick_any w.heap.size a cap zs' (p3 + 1) 60 w4 hR4 (by omega) (by omega) (by omega)).mono ?_
    rintro e w7 ⟨x7, rfl, hx7, hg7, hR7⟩
    have hoA7 := owns_rd hoA4 hg7 hw1
    have hS7 : SS w7 ab tt := hS4.grown hg7 (fun ad e h0 => by have := (hn4 ad e).1; simp; omega)
    have hB7 : Below w.heap.size w w7 := hB4.grown hg7 hB4.size (fun k e => by cases e; exact Nat.le_refl _)
    have hn7 : ∀ ad, ab = some ad → w.heap.size < ad.block ∧ some ad.block ≠ (Value.slice (some ⟨ga, 0, none⟩) ss.length ca).ownBlock ∧ ad.block < w7.heap.size := fun ad e => ⟨(hn4 ad e).1, (hn4 ad e).2.1, Nat.lt_of_lt_of_le (hn4 ad e).2.2 hg7.size⟩
    by_cases c7 : x7 = 0
    · have hB7' : ((x7 : Int) == 0) = true := by simp; omega
      clear c7
      go_wp2
      go_loopw [5] (fun v wr => ∃ (us : List ByteArray) (g c : Nat), v = .slice (some ⟨g, 0, none⟩) us.length c ∧ us.length ≤ 1501 ∧ (∀ s ∈ us, s.size ≤ 1) ∧ wr.ownsRow (w.heap.size + 1) 9 1 (.slice (some ⟨g, 0, none⟩) us.length c) us.length (us.map .string) ∧ SS wr ab tt ∧ (∀ ad, ab = some ad → w.heap.size < ad.block ∧ some ad.block ≠ (Value.slice (some ⟨g, 0, none⟩) us.length c).ownBlock ∧ ad.block < wr.heap.size) ∧ Rd wr w.heap.size a cap zs' ((p3 + 1) + 1) ∧ Below w.heap.size w wr) (fun v _ => 1501 - lenOfV v)
      case atStart => exact ⟨ss, ga, ca, rfl, by omega, hss, hoA7, hS7, hn7, hR7, hB7⟩
      case round =>
        obtain ⟨us, g, c, rfl, hul, hus, hou, hS, hnb, hR, hB⟩ := hrel
        have hcap := own_cap hou
        by_cases hlt : us.length < 1501
        · have hlt' : (us.length : Int) < 1501 := by omega
          have hsz := hB.size
          have hrl := hR.lt
          go_wp2_with (at_builtin; refine wpList_append_lies _ rfl _ _ 22 rfl (w.heap.size + 1) 9 i0 _ 1 16 Try.underlying22 hi hz0 hz1 hz2 rfl (by decide) _ _ _ rfl (hou.alloc _) ⟨wr.heap.size, 0, none⟩ 1 1 [.string ⟨#[97]⟩] rfl rfl (cell_one_new _ _ _) (by simp [Value.oneCell']) (by omega) (by unfold maxLen; omega) (by omega) (by simp; omega) (wr.heap.size + 1) (by simp) ?_; intro g8 c8 w8 ho8 hg8 hat8 hlt8)
          have hgx : wr.grownBy w8 (Value.slice (some ⟨g, 0, none⟩) us.length c).ownBlock := gr_trans (gr_below ((Below.refl _ _).alloc (Nat.le_refl _) _)) hg8
          go_roundw
          case rel =>
            refine ⟨us ++ [⟨#[97]⟩], g8, c8, by simp, by simp; omega, ?_, ?_, ?_, ?_, ?_, ?_⟩
            · intro u hu
              rcases List.mem_append.1 hu with hu | hu
              · exact hus u hu
              · rw [List.mem_singleton.1 hu]; exact Nat.le_refl 1
            · rw [List.length_append, List.map_append]; exact ho8
            · exact hS.grown hgx (fun ad e _ => (hnb ad e).2.1)
            · intro ad e
              refine ⟨(hnb ad e).1, fun e2 => ?_, Nat.lt_of_lt_of_le (hnb ad e).2.2 hgx.size⟩
              have e3 : ad.block = g8 := by simpa [Value.ownBlock] using e2
              rcases hat8 with h | h
              · exact (hnb ad e).2.1 ((congrArg some e3).trans h.symm)
              · have := (hnb ad e).2.2; omega
            · exact hR.own hgx (fun k hk => owns_row_ge hou hk) (by omega)
            · exact hB.grown hgx hB.size (fun k hk => by have := owns_row_ge hou hk; omega)
          case measure => simp [lenOfV]; omega
        · obtain ⟨L, hL⟩ : ∃ L, us.length = L := ⟨_, rfl⟩
          obtain rfl : L = 1501 := by omega
          rw [hL] at hou hcap ⊢
          go_wp2_with fail
          refine (pick_any w.heap.size a cap zs' ((p3 + 1) + 1) 2 wr hR (by omega) (by omega) (by omega)).mono ?_
          rintro e w9 ⟨x9, rfl, hx9, hg9, hR9⟩
          have ho9 := owns_rd hou hg9 (by omega)
          have hS9 : SS w9 ab tt := hS.grown hg9 (fun ad e h0 => by have := (hnb ad e).1; simp; omega)
          have hA9 : SS w9 (some ⟨g, 0, none⟩) us := by
            refine .inr ⟨g, 0, rfl, fun i hi => ?_⟩
            rw [Nat.zero_add, ho9.cellAt i (by omega), List.getElem?_map, List.getElem?_eq_getElem hi]
            rfl
          have HL : NKeep (us.length = 1501) := ⟨hL⟩
          clear hL
          go_wp2
          go_ret2
          refine ⟨some ⟨g, 0, none⟩, c, us.take (1500 + x9), ab, cb, tt, ?_, ?_, hS9, ?_, htt, ?_, htl4, hB.grown hg9 hB.size (fun k e => by cases e; exact Nat.le_refl _)⟩
          · rw [List.length_take, HL.out, show min (1500 + x9) 1501 = 1500 + x9 by omega]
            simp
            try omega
          · refine .inr ⟨g, 0, rfl, fun i hi => ?_⟩
            rcases hA9 with h | ⟨b', o', e', hc'⟩
            · have := HL.out; rw [h] at this; simp at this
            · cases e'
              rw [hc' i (by have := HL.out; simp at hi; omega)]
              simp
          · exact fun s hs => hus s (List.mem_of_mem_take hs)
          · rw [List.length_take]; omega
    · have hB7' : ((x7 : Int) == 0) = false := by simp; omega
      clear c7
      go_wp2
      go_ret2
      exact ⟨some ⟨ga, 0, none⟩, ca, ss, ab, cb, tt, rfl, ss_of_row hoA7, hS7, hss, htt, by omega, htl4, hB7⟩
end Go.Proofs.Ytamhfndmiphhfaa
