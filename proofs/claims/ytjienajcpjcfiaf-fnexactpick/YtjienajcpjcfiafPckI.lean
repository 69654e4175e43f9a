/-
  impl.matchSome, impl.Pick.
-/
import Derived.Test.YtjienajcpjcfiafPckP
import Derived.Test.YtjienajcpjcfiafIdxF
import Derived.Test.YtjienajcpjcfiafTreeA
import Derived.Test.YtjienajcpjcfiafGrow
import Derived.Deep.AppendLies
namespace Go.Proofs.Ytjienajcpjcfiaf
open Go.RowKit

theorem told_all {ts : List En} {β : Way → Option Nat} {φ : Way → Option (ByteArray × Bool)} (hv : ValidTs ts) (hS : Shape ts β φ) {us : List En} (h : Told φ [] [] [] us) : us = ts := by
  refine asc_unique h.asc (valid_asc hv) (fun e => ?_)
  rw [told_mem h, List.nil_append, tells_iff hS]

set_option maxRecDepth 20000 in
set_option maxHeartbeats 2000000 in
theorem clos_any (gl p : ByteArray) (bx : Nat) (w : World) (hc : w.cell? ⟨bx, 0, none⟩ = some (.string p)) (hg : gl.size ≤ 1099511627776) (hp : p.size ≤ 1099511627776) :
    Calls Try.prog 118 #[.string gl, .pointer (some ⟨bx, 0, none⟩)] w fun e w' => e = .returned (.bool (matchS gl p)) ∧ Below w.heap.size w w' := by
  have cm := implMatch_any gl p hg hp w
  go_enter Try.func118, Try.ntmps118
  go_wp2_with fail
  refine cm.mono ?_
  rintro e w1 ⟨rfl, hb⟩
  go_wp2
  go_ret
  exact ⟨rfl, hb⟩

set_option maxRecDepth 20000 in
set_option maxHeartbeats 2000000 in
theorem matchSome_any (ag : Option Addr) (cg : Nat) (gs : List ByteArray) (p : ByteArray) (w : World) (hgs : SS w ag gs) (hn : gs.length ≤ 20) (hz : ∀ s ∈ gs, s.size ≤ 1099511627776) (hp : p.size ≤ 1099511627776) :
    Calls Try.prog 76 #[.slice ag gs.length cg, .string p] w fun e w' => e = .returned (.bool (someM gs p)) ∧ Below w.heap.size w w' := by
  have hal : Below w.heap.size w (w.alloc (.cells #[.string p] 9)) := (Below.refl _ _).alloc (Nat.le_refl _) _
  have eg : ∀ args w, (callFunc 118 args).run Try.prog w = .ok (.enter 118 args) w := enters_of Try.func118 (by kernel_rfl) rfl
  have hc : (w.alloc (.cells #[.string p] 9)).cell? ⟨w.heap.size, 0, none⟩ = some (.string p) := by simp
  have cc := contF_any 118 #[.pointer (some ⟨w.heap.size, 0, none⟩)] eg (fun g => matchS g p) ag cg gs _ (hgs.below hal) (by omega) (fun W x hx hB => by
    refine (clos_any x p w.heap.size W (cell_later hB hc) (hz x hx) hp).mono ?_
    rintro e w' ⟨rfl, hb⟩
    exact ⟨rfl, hB.trans (hb.mono hB.size)⟩)
  clear eg
  go_enter Try.func76, Try.ntmps76
  go_wp2_with fail
  refine cc.mono ?_
  rintro e w1 ⟨rfl, hb⟩
  go_wp2
  go_ret
  exact ⟨rfl, hal.trans (hb.mono hal.size)⟩

theorem el_setP {B g : Nat} {w : World} {a : Option Addr} {ts : List En} {u : Value} (h : EL B w a ts) (hg : g < B) : EL B (w.setCell ⟨g, 0, none⟩ u) a ts :=
  h.grown (row := some g) ⟨rfl, rfl, rfl, by simp, fun k _ hk => Below.heap_setCell _ _ _ _ (fun e => hk (by rw [e]))⟩ (fun k _ hk _ e => by cases e; omega)

set_option maxRecDepth 100000 in
set_option maxHeartbeats 4000000 in
theorem implPck_any (a : Option Addr) (cap : Nat) (ts : List En) (ag : Option Addr) (cg : Nat) (gs : List ByteArray) (w : World) (hts : ES w a ts) (hgs : SS w ag gs) (hn : ts.length ≤ 1048576) (hz : ∀ e ∈ ts, e.path.size ≤ 1048576 ∧ e.text.size ≤ 1048576) (hgz : ∀ s ∈ gs, s.size ≤ 1048576) :
    Calls Try.prog 28 #[.agg #[.slice a ts.length cap], .slice ag gs.length cg] w fun e w' => PckPost ts gs w e w' := by
  obtain ⟨i0, hi, hz0, hz1, hzb⟩ := info_parts Try.infoEntry
  have hal : Below w.heap.size w ((w.alloc (.cells #[.slice a ts.length cap] 42)).alloc (.cells #[.slice none 0 0] 42)) := ((Below.refl _ _).alloc (Nat.le_refl _) _).alloc (by simp) _
  have k0 : ((w.alloc (.cells #[.slice a ts.length cap] 42)).alloc (.cells #[.slice none 0 0] 42)).cell? ⟨w.heap.size + 1, 0, none⟩ = some (.slice none 0 0) := by simp
  have kf : ((w.alloc (.cells #[.slice a ts.length cap] 42)).alloc (.cells #[.slice none 0 0] 42)).frozen? ⟨w.heap.size + 1, 0, none⟩ = false := by simp
  have ks : w.heap.size + 1 < ((w.alloc (.cells #[.slice a ts.length cap] 42)).alloc (.cells #[.slice none 0 0] 42)).heap.size := by simp
  by_cases h20 : 20 < gs.length
  · have e20 : (20 : Int) < gs.length := by omega
    go_enter Try.func28, Try.ntmps28
    go_wp2
    refine bodyPost_ret (v := .agg #[.slice none ([] : List En).length 0]) ?_ rfl ⟨[], .inl ⟨fun h => (by have := h.2; omega), rfl⟩, ⟨none, 0, rfl, EL.nil _ _ _⟩, hal⟩
    go_light
    simp [results, Try.results28, go_sem, k0]
  have e20 : ¬ (20 : Int) < gs.length := by omega
  have hg20 : gs.length ≤ 20 := by omega
  clear h20
  go_enter Try.func28, Try.ntmps28
  go_wp2_with fail
  refine (grow_any a cap ts _ (hts.below hal) hn (fun e he => (hz e he).1)).mono ?_
  rintro e w1 ⟨hb1, hpost⟩
  replace k0 := cell_later hb1 k0
  replace kf : w1.frozen? ⟨w.heap.size + 1, 0, none⟩ = false := (hb1.frozen (p := ⟨w.heap.size + 1, 0, none⟩) ks).trans kf
  have ks1 : w.heap.size + 1 < w1.heap.size := Nat.lt_of_lt_of_le ks hb1.size
  have hbw := hal.trans (hb1.mono hal.size)
  clear hb1 hal hts
  generalize hg : w.heap.size + 1 = g at *
  have hgw : w.heap.size ≤ g := by omega
  clear hg
  rcases hpost with ⟨hv, root, rfl, lo, N, β, μ, φ, hlo, hN, hT, hroot, hS⟩ | ⟨hv, rfl⟩
  · clear ks hlo
    have HG : Keep (GoodT 100 β φ) := ⟨good_of_shape hv hS⟩
    have HW : Keep (∀ us, Told φ [] [] [] us → us = ts) := ⟨fun us h => told_all hv hS h⟩
    have hcall := tellAll_any lo N 100 (by omega) (by omega) β μ φ HG.out [] root w1 hT hroot
    go_wp2_with fail
    refine hcall.mono ?_
    rintro e w2 ⟨ad, cap2, us, rfl, ht, hel, hb2⟩
    obtain rfl := HW.out us ht
    replace k0 := cell_later hb2 k0
    replace kf : w2.frozen? ⟨g, 0, none⟩ = false := (hb2.frozen (p := ⟨g, 0, none⟩) ks1).trans kf
    have ks2 : g < w2.heap.size := Nat.lt_of_lt_of_le ks1 hb2.size
    have hbw2 := hbw.trans (hb2.mono hbw.size)
    have hE2 := hel.es
    have hS2 := hgs.below hbw2
    clear hb2 hcall ht hel hT hS HW HG ks1 hbw hgs hroot
    go_wp2
    go_loopw [7, 25] (fun v i wr => ∃ k : Nat, k ≤ us.length ∧ i = .int .i64 (k : Int) ∧ wr.ownsRow w2.heap.size 58 3 v (picked (us.take k) gs).length (ecells (picked (us.take k) gs)) ∧ Below w2.heap.size w2 wr) (fun _ i _ => us.length - (intOf i).toNat)
    case atStart => exact ⟨0, Nat.zero_le _, rfl, World.ownsRow_nil _ _ _ _, Below.refl _ _⟩
    case round =>
      rename_i v _
      obtain ⟨k, hk, rfl, hrow, hB⟩ := hrel
      obtain ⟨av, cv, rfl⟩ := owns_slice hrow
      by_cases hlt : k < us.length
      · have hlt' : (k : Int) < us.length := by omega
        obtain ⟨b, off, rfl, hc⟩ := (hE2.below hB).at hlt
        obtain ⟨x0, x1, x2⟩ := hc k hlt
        have hpt := picked_take (gs := gs) hlt
        have hzz := hz us[k] (List.getElem_mem hlt)
        have hal3 : Below wr.heap.size wr (wr.alloc (.cells #[.string us[k].path, .string us[k].text, .bool us[k].runs] 58)) := (Below.refl _ _).alloc (Nat.le_refl _) _
        have hBa : Below w2.heap.size w2 (wr.alloc (.cells #[.string us[k].path, .string us[k].text, .bool us[k].runs] 58)) := hB.alloc hB.size _
        have e0 : (wr.alloc (.cells #[.string us[k].path, .string us[k].text, .bool us[k].runs] 58)).cell? ⟨wr.heap.size, 0, none⟩ = some (.string us[k].path) := by simp
        have cm := matchSome_any ag cg gs us[k].path _ (hS2.below hBa) hg20 (fun s hs => Nat.le_trans (hgz s hs) (by omega)) (by omega)
        clear hc
        go_wp2_with fail
        refine cm.mono ?_
        rintro e w3 ⟨rfl, hb3⟩
        clear cm
        have hb3' := hal3.trans (hb3.mono hal3.size)
        have hB3 := hB.trans (hb3'.mono hB.size)
        have hrow3 := owns_below hrow hb3'
        have E0 := cell_later hb3 e0
        have E1 : w3.cell? ⟨wr.heap.size, 1, none⟩ = some (.string us[k].text) := cell_later hb3 (by simp)
        have E2 : w3.cell? ⟨wr.heap.size, 2, none⟩ = some (.bool us[k].runs) := cell_later hb3 (by simp)
        have hz3 := hB3.size
        clear e0 hal3 hBa hrow
        cases hs : someM gs us[k].path with
        | false =>
          rw [hs] at hpt
          simp only [Bool.false_eq_true, if_false] at hpt
          have HW : Keep (picked (us.take (k + 1)) gs = picked (us.take k) gs) := ⟨hpt⟩
          clear hpt hs
          go_wp2
          go_roundw
          case rel => exact ⟨k + 1, hlt, by go_num, by rw [HW.out]; exact hrow3, hB3⟩
          case measure => simp only [intOf]; omega
        | true =>
          rw [hs] at hpt
          simp only [if_true] at hpt
          have HW : Keep (picked (us.take (k + 1)) gs = picked (us.take k) gs ++ [us[k]]) := ⟨hpt⟩
          have hlen : (picked (us.take k) gs).length ≤ 1048576 := Nat.le_trans (picked_len _ _) (by simp; omega)
          clear hpt hs
          go_wp2_with (at_builtin; refine wpList_append_lies _ rfl _ _ 40 rfl w2.heap.size 58 i0 _ 3 40 Try.underlying40 hi hz0 hz1 hzb rfl (by decide) _ _ _ rfl (hrow3.alloc _) ⟨w3.heap.size, 0, none⟩ 1 1 (ecell us[k]) rfl rfl (by exact news_3 _ _ _ _ (by simp)) (by exact one_3 _) (by omega) (by unfold maxLen; omega) (by omega) (by simp; omega) (w3.heap.size + 1) (by simp) ?_; intro g4 c4 w4 ho4 hg4 _ _)
          go_roundw
          case rel =>
            refine ⟨k + 1, hlt, by go_num, ?_, ?_⟩
            · rw [HW.out, ecells_snoc, List.length_append]; exact ho4
            · exact (hB3.alloc hB3.size _).grown hg4 (by simp; omega) (fun j hj => by have := owns_row_ge hrow3 hj; omega)
          case measure => simp only [intOf]; omega
      · obtain rfl : k = us.length := by omega
        rw [List.take_length] at hrow ⊢
        have hel := el_of_row hrow
        have k2 := cell_later hB k0
        have kf2 : wr.frozen? ⟨g, 0, none⟩ = false := (hB.frozen (p := ⟨g, 0, none⟩) ks2).trans kf
        have hbw3 := hbw2.trans (hB.mono hbw2.size)
        have hel2 := (el_setP (u := .slice av (picked us gs).length cv) hel ks2).mono hbw2.size
        clear hrow hel
        go_wp2
        refine bodyPost_ret (v := .agg #[.slice av (picked us gs).length cv]) ?_ rfl ⟨picked us gs, .inr ⟨⟨hv, hg20⟩, rfl⟩, ⟨av, cv, rfl, hel2⟩, hbw3.setCell (p := ⟨g, 0, none⟩) hgw _⟩
        go_light
        simp [results, Try.results28, go_sem, k2]
  · go_wp2
    refine bodyPost_ret (v := .agg #[.slice none ([] : List En).length 0]) ?_ rfl ⟨[], .inl ⟨fun h => hv h.1, rfl⟩, ⟨none, 0, rfl, EL.nil _ _ _⟩, hbw.setCell (p := ⟨g, 0, none⟩) hgw _⟩
    go_light
    simp [results, Try.results28, go_sem, k0]
end Go.Proofs.Ytjienajcpjcfiaf
