/-
  impl.Under.
-/
import Derived.Test.YtocnnebbllkkeaaUndP
import Derived.Test.YtocnnebbllkkeaaGrow
import Derived.Test.YtocnnebbllkkeaaFind
namespace Go.Proofs.Ytocnnebbllkkeaa
open Go.RowKit

theorem el_setU {B g : Nat} {w : World} {a : Option Addr} {ts : List En} {u : Value} (h : EL B w a ts) (hg : g < B) : EL B (w.setCell ⟨g, 0, none⟩ u) a ts :=
  h.grown (row := some g) ⟨rfl, rfl, rfl, by simp, fun k _ hk => Below.heap_setCell _ _ _ _ (fun e => hk (by rw [e]))⟩ (fun k _ hk _ e => by cases e; omega)

set_option maxRecDepth 100000 in
set_option maxHeartbeats 4000000 in
theorem implUnd_any (a : Option Addr) (cap : Nat) (ts : List En) (p : ByteArray) (w : World) (hts : ES w a ts) (hn : ts.length ≤ 1048576) (hz : ∀ e ∈ ts, e.path.size ≤ 1048576 ∧ e.text.size ≤ 1048576) (hp : p.size ≤ 1048576) :
    Calls Try.prog 20 #[.agg #[.slice a ts.length cap], .string p] w fun e w' => UndPost ts p w e w' := by
  have hal : Below w.heap.size w ((w.alloc (.cells #[.slice a ts.length cap] 29)).alloc (.cells #[.slice none 0 0] 29)) := ((Below.refl _ _).alloc (Nat.le_refl _) _).alloc (by simp) _
  have k0 : ((w.alloc (.cells #[.slice a ts.length cap] 29)).alloc (.cells #[.slice none 0 0] 29)).cell? ⟨w.heap.size + 1, 0, none⟩ = some (.slice none 0 0) := by simp
  have kf : ((w.alloc (.cells #[.slice a ts.length cap] 29)).alloc (.cells #[.slice none 0 0] 29)).frozen? ⟨w.heap.size + 1, 0, none⟩ = false := by simp
  have ks : w.heap.size + 1 < ((w.alloc (.cells #[.slice a ts.length cap] 29)).alloc (.cells #[.slice none 0 0] 29)).heap.size := by simp
  go_enter Try.func20, Try.ntmps20
  go_wp2_with fail
  refine (grow_any a cap ts _ (hts.below hal) hn (fun e he => (hz e he).1)).mono ?_
  rintro e w1 ⟨hb1, hpost⟩
  replace k0 := cell_later hb1 k0
  replace kf : w1.frozen? ⟨w.heap.size + 1, 0, none⟩ = false := (hb1.frozen (p := ⟨w.heap.size + 1, 0, none⟩) ks).trans kf
  have ks1 : w.heap.size + 1 < w1.heap.size := Nat.lt_of_lt_of_le ks hb1.size
  have hbw := hal.trans (hb1.mono hal.size)
  clear hb1 hal hts
  generalize hg : w.heap.size + 1 = g at *
  have hgw : w.heap.size ≤ g := by omega
  clear hg
  rcases hpost with ⟨hv, root, rfl, lo, N, β, μ, φ, hlo, hN, hT, hroot, hS⟩ | ⟨hv, rfl⟩
  · clear ks hlo
    have HG : Keep (GoodT 100 β φ) := ⟨good_of_shape hv hS⟩
    have HW : Keep (∀ us, Told φ (partsB p) [] [] us → us = under ts p) := ⟨fun us h => told_under hv hS h⟩
    go_wp2_with fail
    refine (implPath_any p (by omega) w1).mono ?_
    rintro e w2 ⟨rfl, hb2⟩
    replace k0 := cell_later hb2 k0
    replace kf : w2.frozen? ⟨g, 0, none⟩ = false := (hb2.frozen (p := ⟨g, 0, none⟩) ks1).trans kf
    have ks2 : g < w2.heap.size := Nat.lt_of_lt_of_le ks1 hb2.size
    have hbw2 := hbw.trans (hb2.mono hbw.size)
    have hT2 := hT.below hb2
    clear hb2 hT hbw ks1
    cases hpk : pathOk pathB p with
    | false =>
      go_wp2
      refine bodyPost_ret (v := .agg #[.slice none ([] : List En).length 0]) ?_ rfl ⟨[], .inl ⟨fun h => (by rw [hpk] at h; cases h.2), rfl⟩, ⟨none, 0, rfl, EL.nil _ _ _⟩, hbw2.setCell (p := ⟨g, 0, none⟩) hgw _⟩
      go_light
      simp [results, Try.results20, go_sem, k0]
    | true =>
      go_wp2_with fail
      refine (find_any lo N root w2 β μ φ hT2 hroot p (by omega)).mono ?_
      rintro e w3 ⟨rfl, hb3⟩
      replace k0 := cell_later hb3 k0
      replace kf : w3.frozen? ⟨g, 0, none⟩ = false := (hb3.frozen (p := ⟨g, 0, none⟩) ks2).trans kf
      have ks3 : g < w3.heap.size := Nat.lt_of_lt_of_le ks2 hb3.size
      have hbw3 := hbw2.trans (hb3.mono hbw2.size)
      have hT3 := hT2.below hb3
      clear hb3 hT2 hbw2 ks2
      cases hβ : β (partsB p) with
      | none =>
        have hu := HW.out [] (told_nothing HG.out hβ)
        unfold ptrV
        go_wp2
        refine bodyPost_ret (v := .agg #[.slice none ([] : List En).length 0]) ?_ rfl ⟨[], .inr ⟨⟨hv, hpk⟩, hu⟩, ⟨none, 0, rfl, EL.nil _ _ _⟩, hbw3.setCell (p := ⟨g, 0, none⟩) hgw _⟩
        go_light
        simp [results, Try.results20, go_sem, k0]
      | some b =>
        have hcall := tellAll_any lo N 100 (by omega) (by omega) β μ φ HG.out (partsB p) b w3 hT3 hβ
        unfold ptrV
        go_wp2_with fail
        refine hcall.mono ?_
        rintro e w4 ⟨ad, cap4, us, rfl, ht, hel, hb4⟩
        obtain rfl := HW.out us ht
        replace k0 := cell_later hb4 k0
        replace kf : w4.frozen? ⟨g, 0, none⟩ = false := (hb4.frozen (p := ⟨g, 0, none⟩) ks3).trans kf
        have hbw4 := hbw3.trans (hb4.mono hbw3.size)
        have hel4 := (el_setU (u := .slice ad (under ts p).length cap4) hel ks3).mono hbw3.size
        clear hb4 hcall ht hel hT3
        go_wp2
        refine bodyPost_ret (v := .agg #[.slice ad (under ts p).length cap4]) ?_ rfl ⟨_, .inr ⟨⟨hv, hpk⟩, rfl⟩, ⟨ad, cap4, rfl, hel4⟩, hbw4.setCell (p := ⟨g, 0, none⟩) hgw _⟩
        go_light
        simp [results, Try.results20, go_sem, k0]
  · go_wp2
    refine bodyPost_ret (v := .agg #[.slice none ([] : List En).length 0]) ?_ rfl ⟨[], .inl ⟨fun h => hv h.1, rfl⟩, ⟨none, 0, rfl, EL.nil _ _ _⟩, hbw.setCell (p := ⟨g, 0, none⟩) hgw _⟩
    go_light
    simp [results, Try.results20, go_sem, k0]
end Go.Proofs.Ytocnnebbllkkeaa
