/-
  spec.Get.
-/
import Derived.Test.YtocnnebbllkkeaaGetP
import Derived.Test.YtocnnebbllkkeaaSpecTree
namespace Go.Proofs.Ytocnnebbllkkeaa
open Go.RowKit

set_option maxRecDepth 100000 in
set_option maxHeartbeats 4000000 in
theorem specGet_any (a : Option Addr) (cap : Nat) (ts : List En) (p : ByteArray) (w : World) (hts : ES w a ts) (hn : ts.length ≤ 1048576) :
    Calls Try.prog 12 #[.agg #[.slice a ts.length cap], .string p] w fun e w' => GetPost ts p w e w' := by
  have hal : Below w.heap.size w ((w.alloc (.cells #[.slice a ts.length cap] 29)).alloc (.cells #[.string ⟨#[]⟩, .string ⟨#[]⟩, .bool false] 34)) := ((Below.refl _ _).alloc (Nat.le_refl _) _).alloc (by simp) _
  have m0 : ((w.alloc (.cells #[.slice a ts.length cap] 29)).alloc (.cells #[.string ⟨#[]⟩, .string ⟨#[]⟩, .bool false] 34)).cell? ⟨w.heap.size, 0, none⟩ = some (.slice a ts.length cap) := by simp
  have k0 : ((w.alloc (.cells #[.slice a ts.length cap] 29)).alloc (.cells #[.string ⟨#[]⟩, .string ⟨#[]⟩, .bool false] 34)).cell? ⟨w.heap.size + 1, 0, none⟩ = some (.string ⟨#[]⟩) := by simp
  have k1 : ((w.alloc (.cells #[.slice a ts.length cap] 29)).alloc (.cells #[.string ⟨#[]⟩, .string ⟨#[]⟩, .bool false] 34)).cell? ⟨w.heap.size + 1, 1, none⟩ = some (.string ⟨#[]⟩) := by simp
  have k2 : ((w.alloc (.cells #[.slice a ts.length cap] 29)).alloc (.cells #[.string ⟨#[]⟩, .string ⟨#[]⟩, .bool false] 34)).cell? ⟨w.heap.size + 1, 2, none⟩ = some (.bool false) := by simp
  have kf : ∀ j, ((w.alloc (.cells #[.slice a ts.length cap] 29)).alloc (.cells #[.string ⟨#[]⟩, .string ⟨#[]⟩, .bool false] 34)).frozen? ⟨w.heap.size + 1, j, none⟩ = false := fun j => by simp
  have ks : w.heap.size + 1 < ((w.alloc (.cells #[.slice a ts.length cap] 29)).alloc (.cells #[.string ⟨#[]⟩, .string ⟨#[]⟩, .bool false] 34)).heap.size := by simp
  go_enter Try.func12, Try.ntmps12
  go_wp2_with fail
  refine (specTree_any a cap ts _ (hts.below hal) hn).mono ?_
  rintro e w1 ⟨vb, rfl, hvb, hb1⟩
  replace k0 := cell_later hb1 k0
  replace k1 := cell_later hb1 k1
  replace k2 := cell_later hb1 k2
  replace kf : ∀ j, w1.frozen? ⟨w.heap.size + 1, j, none⟩ = false := fun j => (hb1.frozen (p := ⟨w.heap.size + 1, j, none⟩) ks).trans (kf j)
  replace m0 := cell_later hb1 m0
  have hbw := hal.trans (hb1.mono hal.size)
  have hE := hts.below hbw
  have HV : Keep (vb = true ↔ ValidTs ts) := ⟨hvb⟩
  clear hvb hb1 hal hts
  generalize hg : w.heap.size + 1 = g at *
  have hgw : w.heap.size ≤ g := by omega
  clear hg
  cases vb with
  | false =>
    go_wp2
    refine bodyPost_ret (v := .tuple #[entV none, .bool false]) ?_ rfl ⟨none, .inr ⟨.inl (fun h => by have := HV.out.2 h; cases this), rfl⟩, rfl, ?_⟩
    · go_light
      simp [results, Try.results12, go_sem, entV, k0, k1, k2]
    · exact ((hbw.setCell (p := ⟨g, 0, none⟩) hgw _).setCell (p := ⟨g, 1, none⟩) hgw _).setCell (p := ⟨g, 2, none⟩) hgw _
  | true =>
    have hv := HV.out.1 rfl
    go_wp2
    go_loopw [6] (fun i wr => ∃ k : Nat, i = .int .i64 k ∧ k ≤ ts.length ∧ Keep (∀ e ∈ ts.take k, e.path ≠ p) ∧ w1 = wr) (fun i _ => ts.length - (intOf i).toNat)
    case atStart => exact ⟨0, rfl, Nat.zero_le _, ⟨fun e he => by simp at he⟩, rfl⟩
    case round =>
      obtain ⟨k, rfl, hk, hno, rfl⟩ := hrel
      by_cases hlt : k < ts.length
      · have hlt' : (k : Int) < ts.length := by omega
        obtain ⟨b, off, rfl, hc⟩ := hE.at hlt
        obtain ⟨x0, x1, x2⟩ := hc k hlt
        clear hc
        cases hq : (ts[k].path.toList == p.toList) with
        | true =>
          have HP : Keep (ts[k].path = p) := ⟨beq_str.1 hq⟩
          go_wp2
          refine bodyPost_ret (v := .tuple #[entV (some ts[k]), .bool true]) ?_ rfl ⟨some ts[k], .inl ⟨hv, ts[k], List.getElem_mem hlt, HP.out, rfl⟩, rfl, ?_⟩
          · go_light
            simp [results, Try.results12, go_sem, entV, k0, k1, k2]
          · exact ((hbw.setCell (p := ⟨g, 0, none⟩) hgw _).setCell (p := ⟨g, 1, none⟩) hgw _).setCell (p := ⟨g, 2, none⟩) hgw _
        | false =>
          go_wp2
          go_roundw
          case rel => exact ⟨k + 1, by congr 1, by omega, ⟨by
            rw [List.take_succ_eq_append_getElem hlt]
            intro e' he
            rcases List.mem_append.1 he with h | h
            · exact hno.out e' h
            · rw [List.mem_singleton.1 h]; intro h2; rw [beq_str.2 h2] at hq; cases hq⟩, trivial⟩
          case measure => simp only [intOf]; omega
      · have hkn : k = ts.length := by omega
        have HN : Keep (∀ e ∈ ts, e.path ≠ p) := ⟨by have := hno.out; rw [hkn, List.take_length] at this; exact this⟩
        clear hkn
        go_wp2
        refine bodyPost_ret (v := .tuple #[entV none, .bool false]) ?_ rfl ⟨none, .inr ⟨.inr HN.out, rfl⟩, rfl, ?_⟩
        · go_light
          simp [results, Try.results12, go_sem, entV, k0, k1, k2]
        · exact ((hbw.setCell (p := ⟨g, 0, none⟩) hgw _).setCell (p := ⟨g, 1, none⟩) hgw _).setCell (p := ⟨g, 2, none⟩) hgw _
end Go.Proofs.Ytocnnebbllkkeaa
