/-
  spec.Join.
-/
import Derived.Test.YtebgoligoeklbaaJnB
import Derived.Test.YtebgoligoeklbaaChgS
import Derived.Test.YtebgoligoeklbaaJoinR
import Derived.Test.YtebgoligoeklbaaNameS
import Derived.Test.YtebgoligoeklbaaPatS
import Derived.Deep.RegionLaw
import Derived.Deep.CutRange
namespace Go.Proofs.Ytebgoligoeklbaa
open Go.RowKit

/-- Behind a call that gives a change, and whether there is one. -/
def CutX (c : Ch) (bb : Bool) (W1 : World) (pv bv : Value) (W : World) : Prop := ∃ fb, pv = .pointer (some ⟨fb, 0, none⟩) ∧ bv = .bool bb ∧ CBox fb c W ∧ W1.heap.size ≤ fb ∧ Below W1.heap.size W1 W
theorem newX {Y X : World} {t : TypeId} (h : Below (Y.alloc (.cells #[.string ⟨#[]⟩, .bool false, .string ⟨#[]⟩, .bool false, .bool false, .string ⟨#[]⟩, .bool false] t)).drew.heap.size (Y.alloc (.cells #[.string ⟨#[]⟩, .bool false, .string ⟨#[]⟩, .bool false, .bool false, .string ⟨#[]⟩, .bool false] t)).drew X) : CBox Y.heap.size noCh X :=
  CBox.later (W := (Y.alloc (.cells #[.string ⟨#[]⟩, .bool false, .string ⟨#[]⟩, .bool false, .bool false, .string ⟨#[]⟩, .bool false] t)).drew) ⟨by simp [noCh], by simp [noCh], by simp [noCh], by simp [noCh], by simp [noCh], by simp [noCh], by simp [noCh], fun j => by simp, by simp⟩ h
theorem cutX_mk {W1 W : World} {c : Ch} {bb : Bool} (hb : Below W1.heap.size W1 W) : CutX c bb W1 (.pointer (some ⟨W.heap.size, 0, none⟩)) (.bool bb) (W.alloc (.cells #[.string c.path, .bool c.old.there, .string c.old.text, .bool c.old.runs, .bool c.new.there, .string c.new.text, .bool c.new.runs] 54)) :=
  ⟨_, rfl, rfl, ⟨by simp, by simp, by simp, by simp, by simp, by simp, by simp, fun j => by simp, by simp⟩, hb.size, hb.alloc hb.size _⟩
theorem cutX_mk' {W1 W : World} {c : Ch} {bb : Bool} {fb : Nat} (hb : Below W1.heap.size W1 W) (hn : CBox fb noCh W) (hl : W1.heap.size ≤ fb) : CutX c bb W1 (.pointer (some ⟨fb, 0, none⟩)) (.bool bb) (((((((W.setCell ⟨fb, 0, none⟩ (.string c.path)).setCell ⟨fb, 1, none⟩ (.bool c.old.there)).setCell ⟨fb, 2, none⟩ (.string c.old.text)).setCell ⟨fb, 3, none⟩ (.bool c.old.runs)).setCell ⟨fb, 4, none⟩ (.bool c.new.there)).setCell ⟨fb, 5, none⟩ (.string c.new.text)).setCell ⟨fb, 6, none⟩ (.bool c.new.runs)) :=
  ⟨fb, rfl, rfl, hn.set c, hl, box7_below _ _ _ _ _ _ _ hb hl⟩

set_option maxRecDepth 100000 in
set_option maxHeartbeats 16000000 in
theorem specJoin_any (a b : Option Addr) (ca cb : Nat) (ps qs : List Ch) (w : World) (hps : CS w a ps) (hqs : CS w b qs) (hn : ps.length ≤ 1048576) (hnb : qs.length ≤ 1048576) :
    Calls Try.prog 6 #[.agg #[.slice a ps.length ca], .agg #[.slice b qs.length cb]] w fun e w' => JoinPost ps qs w e w' := by
  obtain ⟨i0, hi, hz0, hz1, hzb⟩ := info_parts Try.infoChange
  have hal : Below w.heap.size w (((w.alloc (.cells #[.slice a ps.length ca] 28)).alloc (.cells #[.slice b qs.length cb] 28)).alloc (.cells #[.slice none 0 0] 28)) := (((Below.refl _ _).alloc (Nat.le_refl _) _).alloc (by simp) _).alloc (by simp; omega) _
  have m0 : (((w.alloc (.cells #[.slice a ps.length ca] 28)).alloc (.cells #[.slice b qs.length cb] 28)).alloc (.cells #[.slice none 0 0] 28)).cell? ⟨w.heap.size, 0, none⟩ = some (.slice a ps.length ca) := by simp [go_sem]
  have m1 : (((w.alloc (.cells #[.slice a ps.length ca] 28)).alloc (.cells #[.slice b qs.length cb] 28)).alloc (.cells #[.slice none 0 0] 28)).cell? ⟨w.heap.size + 1, 0, none⟩ = some (.slice b qs.length cb) := by simp [go_sem]
  have k0 : (((w.alloc (.cells #[.slice a ps.length ca] 28)).alloc (.cells #[.slice b qs.length cb] 28)).alloc (.cells #[.slice none 0 0] 28)).cell? ⟨w.heap.size + 1 + 1, 0, none⟩ = some (.slice none 0 0) := by simp [go_sem]
  have kf : (((w.alloc (.cells #[.slice a ps.length ca] 28)).alloc (.cells #[.slice b qs.length cb] 28)).alloc (.cells #[.slice none 0 0] 28)).frozen? ⟨w.heap.size + 1 + 1, 0, none⟩ = false := by simp [go_sem]
  have os0 : w.heap.size + 1 + 1 < (((w.alloc (.cells #[.slice a ps.length ca] 28)).alloc (.cells #[.slice b qs.length cb] 28)).alloc (.cells #[.slice none 0 0] 28)).heap.size := by simp [go_sem]
  go_enter Try.func6, Try.ntmps6
  go_upto_region 1 with fail
  generalize ((w.alloc (.cells #[.slice a ps.length ca] 28)).alloc (.cells #[.slice b qs.length cb] 28)).alloc (.cells #[.slice none 0 0] 28) = W at *
  obtain ⟨g, hg⟩ : ∃ g, g = w.heap.size + 1 + 1 := ⟨_, rfl⟩
  obtain ⟨tb, htb⟩ : ∃ tb, tb = w.heap.size + 1 := ⟨_, rfl⟩
  obtain ⟨ta, hta⟩ : ∃ ta, ta = w.heap.size := ⟨_, rfl⟩
  rw [← hg] at k0 kf os0 ⊢
  rw [← htb] at m1 ⊢
  rw [← hta] at m0 ⊢
  have HS : Keep (ta = w.heap.size ∧ tb = w.heap.size + 1 ∧ g = w.heap.size + 2) := ⟨by omega⟩
  clear hg htb hta
  go_cut [22] (fun v wx => ∃ nb : Bool, v = .bool nb ∧ Keep (nb = false ↔ ValidP ps ∧ ValidP qs) ∧ Below W.heap.size W wx)
  case first =>
    go_wp2_with fail
    refine (specPatch_any a ca ps W (hps.below hal) hn).mono ?_
    rintro e w1 ⟨va, rfl, hva, hb1⟩
    have m1' := cell_later hb1 m1
    cases va with
    | false =>
      have HV : Keep ((true = false) ↔ ValidP ps ∧ ValidP qs) := ⟨⟨fun h => (by cases h), fun h => (by have := hva.2 h.1; cases this)⟩⟩
      clear hva
      go_wp2_with fail
      go_meet
      case rel => exact ⟨true, rfl, HV, hb1⟩
    | true =>
      have HV : Keep (ValidP ps) := ⟨hva.1 rfl⟩
      clear hva
      go_wp2_with fail
      refine (specPatch_any b cb qs w1 ((hqs.below hal).below hb1) hnb).mono ?_
      rintro e w2 ⟨vb, rfl, hvb, hb2⟩
      have HV2 : Keep ((!vb) = false ↔ ValidP ps ∧ ValidP qs) := ⟨⟨fun h => ⟨HV.out, hvb.1 (by simpa using h)⟩, fun h => by rw [hvb.2 h.2]; rfl⟩⟩
      clear hvb
      go_wp2_with fail
      go_meet
      case rel => exact ⟨_, rfl, HV2, hb1.trans (hb2.mono hb1.size)⟩
  case rest =>
    obtain ⟨nb, rfl, HV, hb1⟩ := hcut
    replace m0 := cell_later hb1 m0
    replace m1 := cell_later hb1 m1
    replace k0 := cell_later hb1 k0
    replace kf : wc.frozen? ⟨g, 0, none⟩ = false := (hb1.frozen (p := ⟨g, 0, none⟩) os0).trans kf
    have os1 : g < wc.heap.size := Nat.lt_of_lt_of_le os0 hb1.size
    have hbw := hal.trans (hb1.mono hal.size)
    clear hb1 hal os0
    cases nb with
    | true =>
      have hnv : ¬ (ValidP ps ∧ ValidP qs) := fun h => by have := HV.out.2 h; cases this
      go_wp2
      refine bodyPost_ret (v := .tuple #[.agg #[.slice none ([] : List Ch).length 0], .bool false]) ?_ rfl ⟨[], false, .inl ⟨hnv, rfl, rfl⟩, ⟨none, 0, rfl, CL.nil _ _ _⟩, hbw.setCell (p := ⟨g, 0, none⟩) (by have := HS.out; show _ ≤ g; omega) _⟩
      go_light
      simp [results, Try.results6, go_sem, k0]
    | false =>
      have hv := HV.out.1 rfl
      have hp200 : ps.length ≤ 200 := hv.1.1
      have hq200 : qs.length ≤ 200 := hv.2.1
      have HS1 : Keep (g < wc.heap.size) := ⟨os1⟩
      have hnil : NmR wc (.slice (some ⟨wc.heap.size, 0, none⟩) 0 0) [] (wc.alloc (.cells #[] 9)) := ⟨⟨by simp, .inr ⟨wc.heap.size, 0, #[], rfl, Nat.le_refl _, heap_alloc_new wc _, Nat.le_refl _, by unfold maxLen; omega, rfl, by simp⟩⟩, (Below.refl _ _).alloc (Nat.le_refl _) _⟩
      have HN : Keep (∀ n ∈ joinNs ps qs, True) := ⟨fun _ _ => trivial⟩
      clear HN os1
      go_wp2
      go_loopw [6, 7] (fun v i wr => ∃ k : Nat, i = .int .i64 k ∧ k ≤ ps.length ∧ NmR wc v (addG [] ((ps.map Ch.path).take k)) wr) (fun _ i _ => ps.length - (intOf i).toNat)
      case atStart => exact ⟨0, rfl, Nat.zero_le _, by simpa [addG] using hnil⟩
      case round =>
        clear hnil
        obtain ⟨k, rfl, hk, hR⟩ := hrel
        have t1 := cell_later hR.bw m0
        have hal := addG_len [] (ps.map Ch.path) k (by simpa using hk)
        simp only [List.length_nil, Nat.zero_add] at hal
        by_cases hml : k < ps.length
        · have hml' : (k : Int) < ps.length := by omega
          obtain ⟨b1, o1, rfl, hc1⟩ := ((hps.below hbw).below hR.bw).at hml
          obtain ⟨x0, _⟩ := hc1 k hml
          have HA : Keep (addG [] ((ps.map Ch.path).take (k + 1)) = nameL (addG [] ((ps.map Ch.path).take k)) ps[k].path) := ⟨by rw [addG_take (by simpa using hml)]; simp⟩
          obtain ⟨ad2, cp2, rfl⟩ := owns_slice hR.row
          have hnm := l6Name_any ad2 cp2 (addG [] ((ps.map Ch.path).take k)) ps[k].path wr (ss_of_rowM hR.row) (by omega)
          generalize addG [] ((ps.map Ch.path).take k) = ls at *
          generalize ps[k].path = s at *
          clear hc1
          go_wp2_with fail
          refine hnm.mono ?_
          rintro e w2 ⟨ad3, cp3, rfl, hrow, hb2⟩
          have hR2 : NmR wc (.slice ad3 (nameL ls s).length cp3) (nameL ls s) w2 := ⟨by
            refine ⟨hrow.1, ?_⟩
            rcases hrow.2 with h' | ⟨g, cap', cur, hv, k1, k2⟩
            · exact .inl h'
            · exact .inr ⟨g, cap', cur, hv, Nat.le_trans hR.bw.size k1, k2⟩, hR.bw.trans (hb2.mono hR.bw.size)⟩
          clear hnm hrow hb2
          go_wp2
          go_roundw
          case rel => exact ⟨k + 1, by congr 1, by omega, by rw [HA.out]; exact hR2⟩
          case measure => simp only [intOf]; omega
        · obtain rfl : k = ps.length := by omega
          rw [List.take_of_length_le (by simp)] at hR hal
          have HL1 : Keep ((addG [] (ps.map Ch.path)).length ≤ 200) := ⟨by omega⟩
          have HJN : Keep (joinNs ps qs = addG (addG [] (ps.map Ch.path)) (qs.map Ch.path)) := ⟨rfl⟩
          clear hal
          generalize addG [] (ps.map Ch.path) = l1 at *
          go_wp2
          clear t1
          go_loopw [6, 8] (fun v i wq => ∃ k : Nat, i = .int .i64 k ∧ k ≤ qs.length ∧ NmR wc v (addG l1 ((qs.map Ch.path).take k)) wq) (fun _ i _ => qs.length - (intOf i).toNat)
          case atStart => exact ⟨0, rfl, Nat.zero_le _, by simpa [addG] using hR⟩
          case round =>
            clear hR
            obtain ⟨k, rfl, hk, hR⟩ := hrel
            have t1 := cell_later hR.bw m1
            have hal := addG_len l1 (qs.map Ch.path) k (by simpa using hk)
            have hl1 := HL1.out
            by_cases hml : k < qs.length
            · have hml' : (k : Int) < qs.length := by omega
              obtain ⟨b1, o1, rfl, hc1⟩ := ((hqs.below hbw).below hR.bw).at hml
              obtain ⟨x0, _⟩ := hc1 k hml
              have HA : Keep (addG l1 ((qs.map Ch.path).take (k + 1)) = nameL (addG l1 ((qs.map Ch.path).take k)) qs[k].path) := ⟨by rw [addG_take (by simpa using hml)]; simp⟩
              obtain ⟨ad2, cp2, rfl⟩ := owns_slice hR.row
              have hnm := l6Name_any ad2 cp2 (addG l1 ((qs.map Ch.path).take k)) qs[k].path wr (ss_of_rowM hR.row) (by omega)
              generalize addG l1 ((qs.map Ch.path).take k) = ls at *
              generalize qs[k].path = s at *
              clear hc1
              go_wp2_with fail
              refine hnm.mono ?_
              rintro e w2 ⟨ad3, cp3, rfl, hrow, hb2⟩
              have hR2 : NmR wc (.slice ad3 (nameL ls s).length cp3) (nameL ls s) w2 := ⟨by
                refine ⟨hrow.1, ?_⟩
                rcases hrow.2 with h' | ⟨g, cap', cur, hv, k1, k2⟩
                · exact .inl h'
                · exact .inr ⟨g, cap', cur, hv, Nat.le_trans hR.bw.size k1, k2⟩, hR.bw.trans (hb2.mono hR.bw.size)⟩
              clear hnm hrow hb2
              go_wp2
              go_roundw
              case rel => exact ⟨k + 1, by congr 1, by omega, by rw [HA.out]; exact hR2⟩
              case measure => simp only [intOf]; omega
            · obtain rfl : k = qs.length := by omega
              rw [List.take_of_length_le (by simp)] at hR
              rw [← HJN.out] at hR
              have hlen : (joinNs ps qs).length ≤ 400 := by have := joinNs_len ps qs; omega
              obtain ⟨an, cn, rfl⟩ := owns_slice hR.row
              obtain ⟨ns, hns⟩ : ∃ ns, ns = joinNs ps qs := ⟨_, rfl⟩
              have HNS : Keep (ns = joinNs ps qs) := ⟨hns⟩
              rw [← hns] at hR hlen ⊢
              have hrow := hR.row
              obtain ⟨ng, HNG⟩ : ∃ ng, Keep (∀ k (h : k < ns.length), an = some ⟨ng, 0, none⟩ ∧ wr.cell? ⟨ng, k, none⟩ = some (.string ns[k])) := by
                by_cases h0 : ns = []
                · exact ⟨0, ⟨fun k hk => by rw [h0] at hk; simp at hk⟩⟩
                · obtain ⟨ng, c, hv2, _⟩ := hrow.form (List.length_pos_iff.2 h0)
                  cases hv2
                  exact ⟨ng, ⟨fun k hk => ⟨rfl, by rw [hrow.cellAt k (by simpa using hk), List.getElem?_map, List.getElem?_eq_getElem hk]; rfl⟩⟩⟩
              have hb3 : Below wr.heap.size wr (wr.alloc (.cells #[.slice none 0 0] 28)) := (Below.refl _ _).alloc (Nat.le_refl _) _
              have hbw2 := (hbw.trans (hR.bw.mono hbw.size)).trans (hb3.mono (hbw.trans (hR.bw.mono hbw.size)).size)
              have hbx := hR.bw.trans (hb3.mono hR.bw.size)
              have o0 : (wr.alloc (.cells #[.slice none 0 0] 28)).cell? ⟨wr.heap.size, 0, none⟩ = some (.slice none 0 0) := by simp
              have of0 : (wr.alloc (.cells #[.slice none 0 0] 28)).frozen? ⟨wr.heap.size, 0, none⟩ = false := by simp
              have os2 : wr.heap.size < (wr.alloc (.cells #[.slice none 0 0] 28)).heap.size := by simp
              have hst0 := OutCh.start o0 of0 os2
              have HNK : Keep (∀ k (h : k < ns.length), an = some ⟨ng, 0, none⟩ ∧ (wr.alloc (.cells #[.slice none 0 0] 28)).cell? ⟨ng, k, none⟩ = some (.string ns[k]) ∧ ng < wr.heap.size) := ⟨fun k hk => ⟨(HNG.out k hk).1, cell_later hb3 (HNG.out k hk).2, World.block_lt_of_cell? wr ⟨ng, k, none⟩ (HNG.out k hk).2⟩⟩
              have HZ : Keep (g < wr.heap.size ∧ wr.heap.size < (wr.alloc (.cells #[.slice none 0 0] 28)).heap.size) := ⟨⟨Nat.lt_of_lt_of_le HS1.out hR.bw.size, os2⟩⟩
              replace m0 := cell_later hbx m0
              replace m1 := cell_later hbx m1
              replace k0 := cell_later hbx k0
              replace kf : (wr.alloc (.cells #[.slice none 0 0] 28)).frozen? ⟨g, 0, none⟩ = false := (hbx.frozen (p := ⟨g, 0, none⟩) HS1.out).trans kf
              go_wp2
              clear hal t1 hl1 HJN HL1 hrow hR HNG hns o0 of0 os2 hb3 hbx
              generalize wr.alloc (.cells #[.slice none 0 0] 28) = W0 at *
              obtain ⟨ob, hob⟩ : ∃ ob, ob = wr.heap.size := ⟨_, rfl⟩
              rw [← hob] at hst0 HZ HNK ⊢
              clear hob
              go_loopw [10] (fun i wr => ∃ (k : Nat) (v : Value), i = .int .i64 k ∧ k ≤ ns.length ∧ OutCh ob W0 v (joinN ps qs (ns.take k)) wr ∧ Keep (∀ n ∈ ns.take k, clJ ps qs n = false)) (fun i _ => ns.length - (intOf i).toNat)
              case atStart => exact ⟨0, _, rfl, Nat.zero_le _, hst0, ⟨fun n hn => by simp at hn⟩⟩
              case round =>
                clear hst0
                obtain ⟨k, v, rfl, hk, hst, HNC⟩ := hrel
                have hbr := hst.below hbw2 (by have := HS.out; have := HZ.out; omega)
                by_cases hlt : k < ns.length
                · have hlt' : (k : Int) < ns.length := by omega
                  obtain ⟨rfl, hnk, hng⟩ := HNK.out k hlt
                  have HTk : Keep (joinN ps qs (ns.take (k + 1)) = joinN ps qs (ns.take k) ++ outJ ps qs ns[k]) := ⟨joinN_take hlt⟩
                  have hdl : (joinN ps qs (ns.take k)).length ≤ 400 := by have := joinN_len ps qs (ns.take k); simp at this; omega
                  have t1 := hst.keep m0 (by have := HS.out; have := HZ.out; omega) (by have := HS.out; have := HZ.out; omega)
                  have t2 := hst.keep m1 (by have := HS.out; have := HZ.out; omega) (by have := HS.out; have := HZ.out; omega)
                  have nk := hst.keep hnk (by have := HZ.out; omega) (by omega)
                  have HNC2 : Keep (clJ ps qs ns[k] = false → ∀ n ∈ ns.take (k + 1), clJ ps qs n = false) := ⟨fun hc n hn => by
                    rw [List.take_succ_eq_append_getElem hlt] at hn
                    rcases List.mem_append.1 hn with h' | h'
                    · exact HNC.out n h'
                    · rw [List.mem_singleton.1 h']; exact hc⟩
                  have HEX : Keep (clJ ps qs ns[k] = true → ∃ n ∈ joinNs ps qs, clJ ps qs n = true) := ⟨fun hc => ⟨ns[k], by rw [← HNS.out]; exact List.getElem_mem hlt, hc⟩⟩
                  have HMEM : Keep ((∃ x ∈ ps, Ch.path x = ns[k]) ∨ ∃ y ∈ qs, Ch.path y = ns[k]) := ⟨((joinNs_mem ps qs).2 ns[k]).1 (by rw [← HNS.out]; exact List.getElem_mem hlt)⟩
                  generalize joinN ps qs (ns.take k) = cs at *
                  obtain ⟨s, hs⟩ : ∃ s, s = ns[k] := ⟨_, rfl⟩
                  rw [← hs] at nk HTk HNC2 HEX HMEM
                  have HO : Keep (outJ ps qs s = outJ2 s (fnd Ch.path ps s) (fnd Ch.path qs s) ∧ clJ ps qs s = clJ2 (fnd Ch.path ps s) (fnd Ch.path qs s)) := ⟨⟨rfl, rfl⟩⟩
                  obtain ⟨c, hc⟩ : ∃ c, c = (fnd Ch.path ps s).getD noCh := ⟨_, rfl⟩
                  obtain ⟨d, hd⟩ : ∃ d, d = (fnd Ch.path qs s).getD noCh := ⟨_, rfl⟩
                  obtain ⟨bc, hbc⟩ : ∃ x, x = (fnd Ch.path ps s).isSome := ⟨_, rfl⟩
                  obtain ⟨bd, hbd⟩ : ∃ x, x = (fnd Ch.path qs s).isSome := ⟨_, rfl⟩
                  have HCD : Keep ((bc = true → fnd Ch.path ps s = some c) ∧ (bc = false → fnd Ch.path ps s = none) ∧ (bd = true → fnd Ch.path qs s = some d) ∧ (bd = false → fnd Ch.path qs s = none)) := ⟨by
                    rw [hc, hd, hbc, hbd]
                    refine ⟨fun h => ?_, fun h => by simpa using h, fun h => ?_, fun h => by simpa using h⟩
                    · obtain ⟨x, hx⟩ := Option.isSome_iff_exists.1 h; rw [hx]; rfl
                    · obtain ⟨x, hx⟩ := Option.isSome_iff_exists.1 h; rw [hx]; rfl⟩
                  have HA1 : Keep (∀ X, Below wr.heap.size wr X → Calls Try.prog 21 #[.agg #[.slice a ps.length ca], .string s] X fun e w' => e = .returned (.tuple #[.agg #[.string c.path, .bool c.old.there, .string c.old.text, .bool c.old.runs, .bool c.new.there, .string c.new.text, .bool c.new.runs], .bool bc]) ∧ Below X.heap.size X w') := ⟨fun X hX => by rw [hc, hbc]; exact l6Change_any a ca ps s X ((hps.below hbr).below hX) (by omega)⟩
                  have HA2 : Keep (∀ X, Below wr.heap.size wr X → Calls Try.prog 21 #[.agg #[.slice b qs.length cb], .string s] X fun e w' => e = .returned (.tuple #[.agg #[.string d.path, .bool d.old.there, .string d.old.text, .bool d.old.runs, .bool d.new.there, .string d.new.text, .bool d.new.runs], .bool bd]) ∧ Below X.heap.size X w') := ⟨fun X hX => by rw [hd, hbd]; exact l6Change_any b cb qs s X ((hqs.below hbr).below hX) (by omega)⟩
                  clear hs hc hd hbc hbd hnk
                  have kq : ∀ {W W' : World}, Below wr.heap.size wr W → Below W.heap.size W W' → Below wr.heap.size wr W' := fun h h' => h.trans (h'.mono h.size)
                  have q0 : Below wr.heap.size wr wr.drew := (Below.refl _ _).drew
                  have qa := ((Below.refl wr.heap.size wr).alloc (Nat.le_refl _) (.cells #[.string ⟨#[]⟩, .bool false, .string ⟨#[]⟩, .bool false, .bool false, .string ⟨#[]⟩, .bool false] 54)).drew
                  go_upto_region 16 with fail
                  go_cut [11, 12] from 56 to 120 (fun pv bv wx => CutX c bc wr pv bv wx)
                  case first =>
                    refine (wpIn_wide (n := 0)).1 ?_
                    refine wpIn_region_inv0 (by kernel_rfl) (by kernel_rfl) (fun T0 => XV T0 [63, 64, 65, 66, 67, 68, 62, 69, 70, 11, 1000, 12] wr (.agg #[.slice a ps.length ca]) (.slice (some ⟨ng, 0, none⟩) ns.length cn) (.int .i64 k) (.pointer (some ⟨ng, k, none⟩)) s c bc 11) ?_ ?_ ?_
                    · exact ⟨Sl2.start _, (Below.refl _ _).drew, (fun h => by rw [getD_repl] at h; cases h)⟩
                    · intro L a2 w9 hinv hall
                      obtain ⟨fb, f1, f2, f3⟩ := hinv.bx (hall 9 (by decide))
                      rw [if_pos (hall 10 (by decide))] at f3
                      have f4 : a2.eval (.tmp 12) = .bool bc := hinv.sl.sl 11 (by decide) _ rfl (hall 11 (by decide))
                      have HX : Keep _ := ⟨hinv.sl.act⟩
                      have f5 := hinv.wd
                      clear hinv hall
                      rw [HX.out]
                      go_wp2_with fail
                      go_meet
                      case rel => exact ⟨fb, evalD2 f1, evalD2 f4, f3, f2, f5⟩
                    · intro L a2 w9 i o hinv hcl hL ho hdep
                      have hi12 : i < 12 := (Array.getElem?_eq_some_iff.1 ho).1
                      have nd := (by decide : ([63, 64, 65, 66, 67, 68, 62, 69, 70, 11, 1000, 12] : List Nat).Nodup)
                      unfold wpOpIn
                      rw [ho]
                      have c1 := cell_later hinv.wd t1
                      have c2 := cell_later hinv.wd nk
                      have HC5 := HA1.out w9 hinv.wd
                      have hc10 : L.getD 9 true = false → L.getD 10 false = false := fun h9 => by
                        cases hb : L.getD 10 false with
                        | false => rfl
                        | true =>
                          have h := hcl 10 _ rfl hb ⟨9, .data⟩ (by simp) rfl
                          rw [getD_ft h9] at h
                          cases h
                      clear hcl
                      match i, hi12, hL, ho, hdep with
                      | 0, _, hL, ho, hdep =>
                        injection ho with ho; subst ho
                        dsimp only
                        rw [if_pos (by rfl)]
                        refine ⟨fun f _ => trivial, ?_⟩
                        have e2 : a2.tmps[2]?.getD undef = .pointer (some ⟨ta, 0, none⟩) := hinv.sl.old (by decide)
                        go_simp
                        exact hinv.step nd (i := 0) (by decide) (show 63 < 127 by omega) (by decide) (by decide) (by decide) rfl (Below.refl _ _)
                      | 1, _, hL, ho, hdep =>
                        injection ho with ho; subst ho
                        dsimp only
                        rw [if_pos (by rfl)]
                        refine ⟨fun f _ => trivial, ?_⟩
                        have e6 : a2.tmps[6]?.getD undef = .slice (some ⟨ng, 0, none⟩) ns.length cn := hinv.sl.old (by decide)
                        go_simp
                        exact hinv.step nd (i := 1) (by decide) (show 64 < 127 by omega) (by decide) (by decide) (by decide) rfl (Below.refl _ _)
                      | 2, _, hL, ho, hdep =>
                        injection ho with ho; subst ho
                        dsimp only
                        rw [if_pos (by rfl)]
                        refine ⟨fun f _ => trivial, ?_⟩
                        have e10 : a2.tmps[10]?.getD undef = .int .i64 k := hinv.sl.old (by decide)
                        go_simp
                        exact hinv.step nd (i := 2) (by decide) (show 65 < 127 by omega) (by decide) (by decide) (by decide) rfl (Below.refl _ _)
                      | 3, _, hL, ho, hdep =>
                        injection ho with ho; subst ho
                        dsimp only
                        rw [if_pos (by rfl)]
                        refine ⟨fun f _ => trivial, ?_⟩
                        have ea : a2.tmps[64]?.getD undef = .slice (some ⟨ng, 0, none⟩) ns.length cn := hinv.sl.new (i := 1) (by decide) rfl (hdep ⟨1, .data⟩ (by simp) rfl)
                        have eb : a2.tmps[65]?.getD undef = .int .i64 k := hinv.sl.new (i := 2) (by decide) rfl (hdep ⟨2, .data⟩ (by simp) rfl)
                        go_simp
                        exact hinv.step nd (i := 3) (by decide) (show 66 < 127 by omega) (by decide) (by decide) (by decide) rfl (Below.refl _ _)
                      | 4, _, hL, ho, hdep =>
                        injection ho with ho; subst ho
                        dsimp only
                        rw [if_pos (by rfl)]
                        refine ⟨fun f _ => trivial, ?_⟩
                        have ea : a2.tmps[66]?.getD undef = .pointer (some ⟨ng, k, none⟩) := hinv.sl.new (i := 3) (by decide) rfl (hdep ⟨3, .data⟩ (by simp) rfl)
                        go_simp
                        exact hinv.step nd (i := 4) (by decide) (show 67 < 127 by omega) (by decide) (by decide) (by decide) rfl (Below.refl _ _)
                      | 5, _, hL, ho, hdep =>
                        injection ho with ho; subst ho
                        dsimp only
                        rw [if_pos (by rfl)]
                        refine ⟨fun f _ => trivial, ?_⟩
                        have ea : a2.tmps[63]?.getD undef = .agg #[.slice a ps.length ca] := hinv.sl.new (i := 0) (by decide) rfl (hdep ⟨0, .data⟩ (by simp) rfl)
                        have eb : a2.tmps[67]?.getD undef = .string s := hinv.sl.new (i := 4) (by decide) rfl (hdep ⟨4, .data⟩ (by simp) rfl)
                        go_simp
                        refine ⟨rfl, CallsIn.mono (callsIn_wide.2 HC5) ?_⟩
                        rintro e w' ⟨rfl, hb'⟩
                        exact hinv.step nd (i := 5) (by decide) (show 68 < 127 by omega) (by decide) (by decide) (by decide) rfl hb'
                      | 6, _, hL, ho, hdep =>
                        injection ho with ho; subst ho
                        dsimp only
                        rw [if_pos (by rfl)]
                        refine ⟨fun f _ => trivial, ?_⟩
                        have ea := hinv.sl.new (i := 5) (by decide) rfl (hdep ⟨5, .data⟩ (by simp) rfl)
                        dsimp only [List.getElem_cons_zero, List.getElem_cons_succ] at ea
                        go_simp
                        exact hinv.step nd (i := 6) (by decide) (show 62 < 127 by omega) (by decide) (by decide) (by decide) rfl (Below.refl _ _)
                      | 7, _, hL, ho, hdep =>
                        injection ho with ho; subst ho
                        dsimp only
                        rw [if_pos (by rfl)]
                        refine ⟨fun f _ => trivial, ?_⟩
                        have ea := hinv.sl.new (i := 6) (by decide) rfl (hdep ⟨6, .data⟩ (by simp) rfl)
                        dsimp only [List.getElem_cons_zero, List.getElem_cons_succ] at ea
                        go_simp
                        exact hinv.step nd (i := 7) (by decide) (show 69 < 127 by omega) (by decide) (by decide) (by decide) rfl (Below.refl _ _)
                      | 8, _, hL, ho, hdep =>
                        injection ho with ho; subst ho
                        dsimp only
                        rw [if_pos (by rfl)]
                        refine ⟨fun f _ => trivial, ?_⟩
                        have ea := hinv.sl.new (i := 6) (by decide) rfl (hdep ⟨6, .data⟩ (by simp) rfl)
                        dsimp only [List.getElem_cons_zero, List.getElem_cons_succ] at ea
                        go_simp
                        exact hinv.step nd (i := 8) (by decide) (show 70 < 127 by omega) (by decide) (by decide) (by decide) rfl (Below.refl _ _)
                      | 9, _, hL, ho, hdep =>
                        injection ho with ho; subst ho
                        dsimp only
                        rw [if_pos (by rfl)]
                        refine ⟨fun f _ => trivial, ?_⟩
                        go_simp
                        exact XV.box (by decide) hinv nd (show 11 < 127 by omega) (hc10 hL)
                      | 10, _, hL, ho, hdep =>
                        injection ho with ho; subst ho
                        dsimp only
                        rw [if_pos (by rfl)]
                        refine ⟨fun f _ => trivial, ?_⟩
                        obtain ⟨fb, f1, f2, f3⟩ := hinv.bx (hdep ⟨9, .data⟩ (by simp) rfl)
                        rw [if_neg (by rw [getD_ft hL]; simp)] at f3
                        have ea : a2.tmps[11]?.getD undef = .pointer (some ⟨fb, 0, none⟩) := evalD2 f1
                        have eb := hinv.sl.new (i := 7) (by decide) rfl (hdep ⟨7, .data⟩ (by simp) rfl)
                        dsimp only [List.getElem_cons_zero, List.getElem_cons_succ] at eb
                        have n0 := f3.c0
                        have n1 := f3.c1
                        have n2 := f3.c2
                        have n3 := f3.c3
                        have n4 := f3.c4
                        have n5 := f3.c5
                        have n6 := f3.c6
                        have nf := f3.fz
                        go_simp
                        exact hinv.store f1 f2 f3 hL
                      | 11, _, hL, ho, hdep =>
                        injection ho with ho; subst ho
                        dsimp only
                        rw [if_pos (by rfl)]
                        refine ⟨fun f _ => trivial, ?_⟩
                        have ea := hinv.sl.new (i := 8) (by decide) rfl (hdep ⟨8, .data⟩ (by simp) rfl)
                        dsimp only [List.getElem_cons_zero, List.getElem_cons_succ] at ea
                        go_simp
                        exact hinv.step nd (i := 11) (by decide) (show 12 < 127 by omega) (by decide) (by decide) (by decide) rfl (Below.refl _ _)
                  case rest =>
                    obtain ⟨fb, rfl, rfl, hF, hfb, hB1⟩ := hcut
                    clear q0 qa
                    generalize hwd : wc = wd at *
                    clear hwd
                    have t2w := cell_later hB1 t2
                    have nkw := cell_later hB1 nk
                    have q0 : Below wr.heap.size wr wd.drew := hB1.drew
                    have qa := (hB1.alloc hB1.size (.cells #[.string ⟨#[]⟩, .bool false, .string ⟨#[]⟩, .bool false, .bool false, .string ⟨#[]⟩, .bool false] 54)).drew
                    have q1 : Below wd.heap.size wd wd.drew := (Below.refl _ _).drew
                    have q2 := ((Below.refl wd.heap.size wd).alloc (Nat.le_refl _) (.cells #[.string ⟨#[]⟩, .bool false, .string ⟨#[]⟩, .bool false, .bool false, .string ⟨#[]⟩, .bool false] 54)).drew
                    go_upto_region 17 with fail
                    go_cut [13, 14] from 56 to 120 (fun pv bv wx => CutX d bd wd pv bv wx)
                    case first =>
                      refine (wpIn_wide (n := 0)).1 ?_
                      refine wpIn_region_inv0 (by kernel_rfl) (by kernel_rfl) (fun T0 => XV T0 [72, 73, 74, 75, 76, 77, 71, 78, 79, 13, 1000, 14] wd (.agg #[.slice b qs.length cb]) (.slice (some ⟨ng, 0, none⟩) ns.length cn) (.int .i64 k) (.pointer (some ⟨ng, k, none⟩)) s d bd 13) ?_ ?_ ?_
                      · exact ⟨Sl2.start _, (Below.refl _ _).drew, (fun h => by rw [getD_repl] at h; cases h)⟩
                      · intro L a2 w9 hinv hall
                        obtain ⟨fb, f1, f2, f3⟩ := hinv.bx (hall 9 (by decide))
                        rw [if_pos (hall 10 (by decide))] at f3
                        have f4 : a2.eval (.tmp 14) = .bool bd := hinv.sl.sl 11 (by decide) _ rfl (hall 11 (by decide))
                        have HX : Keep _ := ⟨hinv.sl.act⟩
                        have f5 := hinv.wd
                        clear hinv hall
                        rw [HX.out]
                        go_wp2_with fail
                        go_meet
                        case rel => exact ⟨fb, evalD2 f1, evalD2 f4, f3, f2, f5⟩
                      · intro L a2 w9 i o hinv hcl hL ho hdep
                        have hi12 : i < 12 := (Array.getElem?_eq_some_iff.1 ho).1
                        have nd := (by decide : ([72, 73, 74, 75, 76, 77, 71, 78, 79, 13, 1000, 14] : List Nat).Nodup)
                        unfold wpOpIn
                        rw [ho]
                        have c1 := cell_later hinv.wd t2w
                        have c2 := cell_later hinv.wd nkw
                        have HC5 := HA2.out w9 (kq hB1 hinv.wd)
                        have hc10 : L.getD 9 true = false → L.getD 10 false = false := fun h9 => by
                          cases hb : L.getD 10 false with
                          | false => rfl
                          | true =>
                            have h := hcl 10 _ rfl hb ⟨9, .data⟩ (by simp) rfl
                            rw [getD_ft h9] at h
                            cases h
                        clear hcl
                        match i, hi12, hL, ho, hdep with
                        | 0, _, hL, ho, hdep =>
                          injection ho with ho; subst ho
                          dsimp only
                          rw [if_pos (by rfl)]
                          refine ⟨fun f _ => trivial, ?_⟩
                          have e2 : a2.tmps[3]?.getD undef = .pointer (some ⟨tb, 0, none⟩) := hinv.sl.old (by decide)
                          go_simp
                          exact hinv.step nd (i := 0) (by decide) (show 72 < 127 by omega) (by decide) (by decide) (by decide) rfl (Below.refl _ _)
                        | 1, _, hL, ho, hdep =>
                          injection ho with ho; subst ho
                          dsimp only
                          rw [if_pos (by rfl)]
                          refine ⟨fun f _ => trivial, ?_⟩
                          have e6 : a2.tmps[6]?.getD undef = .slice (some ⟨ng, 0, none⟩) ns.length cn := hinv.sl.old (by decide)
                          go_simp
                          exact hinv.step nd (i := 1) (by decide) (show 73 < 127 by omega) (by decide) (by decide) (by decide) rfl (Below.refl _ _)
                        | 2, _, hL, ho, hdep =>
                          injection ho with ho; subst ho
                          dsimp only
                          rw [if_pos (by rfl)]
                          refine ⟨fun f _ => trivial, ?_⟩
                          have e10 : a2.tmps[10]?.getD undef = .int .i64 k := hinv.sl.old (by decide)
                          go_simp
                          exact hinv.step nd (i := 2) (by decide) (show 74 < 127 by omega) (by decide) (by decide) (by decide) rfl (Below.refl _ _)
                        | 3, _, hL, ho, hdep =>
                          injection ho with ho; subst ho
                          dsimp only
                          rw [if_pos (by rfl)]
                          refine ⟨fun f _ => trivial, ?_⟩
                          have ea : a2.tmps[73]?.getD undef = .slice (some ⟨ng, 0, none⟩) ns.length cn := hinv.sl.new (i := 1) (by decide) rfl (hdep ⟨1, .data⟩ (by simp) rfl)
                          have eb : a2.tmps[74]?.getD undef = .int .i64 k := hinv.sl.new (i := 2) (by decide) rfl (hdep ⟨2, .data⟩ (by simp) rfl)
                          go_simp
                          exact hinv.step nd (i := 3) (by decide) (show 75 < 127 by omega) (by decide) (by decide) (by decide) rfl (Below.refl _ _)
                        | 4, _, hL, ho, hdep =>
                          injection ho with ho; subst ho
                          dsimp only
                          rw [if_pos (by rfl)]
                          refine ⟨fun f _ => trivial, ?_⟩
                          have ea : a2.tmps[75]?.getD undef = .pointer (some ⟨ng, k, none⟩) := hinv.sl.new (i := 3) (by decide) rfl (hdep ⟨3, .data⟩ (by simp) rfl)
                          go_simp
                          exact hinv.step nd (i := 4) (by decide) (show 76 < 127 by omega) (by decide) (by decide) (by decide) rfl (Below.refl _ _)
                        | 5, _, hL, ho, hdep =>
                          injection ho with ho; subst ho
                          dsimp only
                          rw [if_pos (by rfl)]
                          refine ⟨fun f _ => trivial, ?_⟩
                          have ea : a2.tmps[72]?.getD undef = .agg #[.slice b qs.length cb] := hinv.sl.new (i := 0) (by decide) rfl (hdep ⟨0, .data⟩ (by simp) rfl)
                          have eb : a2.tmps[76]?.getD undef = .string s := hinv.sl.new (i := 4) (by decide) rfl (hdep ⟨4, .data⟩ (by simp) rfl)
                          go_simp
                          refine ⟨rfl, CallsIn.mono (callsIn_wide.2 HC5) ?_⟩
                          rintro e w' ⟨rfl, hb'⟩
                          exact hinv.step nd (i := 5) (by decide) (show 77 < 127 by omega) (by decide) (by decide) (by decide) rfl hb'
                        | 6, _, hL, ho, hdep =>
                          injection ho with ho; subst ho
                          dsimp only
                          rw [if_pos (by rfl)]
                          refine ⟨fun f _ => trivial, ?_⟩
                          have ea := hinv.sl.new (i := 5) (by decide) rfl (hdep ⟨5, .data⟩ (by simp) rfl)
                          dsimp only [List.getElem_cons_zero, List.getElem_cons_succ] at ea
                          go_simp
                          exact hinv.step nd (i := 6) (by decide) (show 71 < 127 by omega) (by decide) (by decide) (by decide) rfl (Below.refl _ _)
                        | 7, _, hL, ho, hdep =>
                          injection ho with ho; subst ho
                          dsimp only
                          rw [if_pos (by rfl)]
                          refine ⟨fun f _ => trivial, ?_⟩
                          have ea := hinv.sl.new (i := 6) (by decide) rfl (hdep ⟨6, .data⟩ (by simp) rfl)
                          dsimp only [List.getElem_cons_zero, List.getElem_cons_succ] at ea
                          go_simp
                          exact hinv.step nd (i := 7) (by decide) (show 78 < 127 by omega) (by decide) (by decide) (by decide) rfl (Below.refl _ _)
                        | 8, _, hL, ho, hdep =>
                          injection ho with ho; subst ho
                          dsimp only
                          rw [if_pos (by rfl)]
                          refine ⟨fun f _ => trivial, ?_⟩
                          have ea := hinv.sl.new (i := 6) (by decide) rfl (hdep ⟨6, .data⟩ (by simp) rfl)
                          dsimp only [List.getElem_cons_zero, List.getElem_cons_succ] at ea
                          go_simp
                          exact hinv.step nd (i := 8) (by decide) (show 79 < 127 by omega) (by decide) (by decide) (by decide) rfl (Below.refl _ _)
                        | 9, _, hL, ho, hdep =>
                          injection ho with ho; subst ho
                          dsimp only
                          rw [if_pos (by rfl)]
                          refine ⟨fun f _ => trivial, ?_⟩
                          go_simp
                          exact XV.box (by decide) hinv nd (show 13 < 127 by omega) (hc10 hL)
                        | 10, _, hL, ho, hdep =>
                          injection ho with ho; subst ho
                          dsimp only
                          rw [if_pos (by rfl)]
                          refine ⟨fun f _ => trivial, ?_⟩
                          obtain ⟨fb, f1, f2, f3⟩ := hinv.bx (hdep ⟨9, .data⟩ (by simp) rfl)
                          rw [if_neg (by rw [getD_ft hL]; simp)] at f3
                          have ea : a2.tmps[13]?.getD undef = .pointer (some ⟨fb, 0, none⟩) := evalD2 f1
                          have eb := hinv.sl.new (i := 7) (by decide) rfl (hdep ⟨7, .data⟩ (by simp) rfl)
                          dsimp only [List.getElem_cons_zero, List.getElem_cons_succ] at eb
                          have n0 := f3.c0
                          have n1 := f3.c1
                          have n2 := f3.c2
                          have n3 := f3.c3
                          have n4 := f3.c4
                          have n5 := f3.c5
                          have n6 := f3.c6
                          have nf := f3.fz
                          go_simp
                          exact hinv.store f1 f2 f3 hL
                        | 11, _, hL, ho, hdep =>
                          injection ho with ho; subst ho
                          dsimp only
                          rw [if_pos (by rfl)]
                          refine ⟨fun f _ => trivial, ?_⟩
                          have ea := hinv.sl.new (i := 8) (by decide) rfl (hdep ⟨8, .data⟩ (by simp) rfl)
                          dsimp only [List.getElem_cons_zero, List.getElem_cons_succ] at ea
                          go_simp
                          exact hinv.step nd (i := 11) (by decide) (show 14 < 127 by omega) (by decide) (by decide) (by decide) rfl (Below.refl _ _)
                    case rest =>
                      obtain ⟨gb, rfl, rfl, hG, hgb, hB2⟩ := hcut
                      have hF2 := hF.later hB2
                      have hB3 : Below wr.heap.size wr wc := kq hB1 hB2
                      have hst2 := hst.later hB3
                      have nk2 := cell_later hB3 nk
                      have k2 := hst2.keep k0 (by have := HS.out; have := HZ.out; omega) (by have := HS.out; have := HZ.out; omega)
                      have kf2 : wc.frozen? ⟨g, 0, none⟩ = false := frozen_of (hst2.grown.block g (by have := HS.out; have := HZ.out; omega) (fun e => by have := HS.out; have := HZ.out; cases e; omega)) kf
                      have hbX := hst2.below hbw2 (by have := HS.out; have := HZ.out; omega)
                      clear t1 t2 t2w nk nkw q0 qa q1 q2 hF hB1 hB2 HA1 HA2 kq hbr hst hfb hgb hB3
                      generalize hX : wc = X at *
                      clear hX
                      have x0 := hF2.c0
                      have x1 := hF2.c1
                      have x2 := hF2.c2
                      have x3 := hF2.c3
                      have x4 := hF2.c4
                      have x5 := hF2.c5
                      have x6 := hF2.c6
                      have y0 := hG.c0
                      have y1 := hG.c1
                      have y2 := hG.c2
                      have y3 := hG.c3
                      have y4 := hG.c4
                      have y5 := hG.c5
                      have y6 := hG.c6
                      clear hF2 hG
                      cases bc with
                      | false =>
                        have hn1 := HCD.out.2.1 rfl
                        cases bd with
                        | false =>
                          exfalso
                          have hn2 := HCD.out.2.2.2 rfl
                          rcases HMEM.out with ⟨z, hz, hzs⟩ | ⟨z, hz, hzs⟩
                          · unfold fnd at hn1
                            rw [List.find?_eq_none] at hn1
                            exact hn1 z hz (eqb_iff.2 hzs)
                          · unfold fnd at hn2
                            rw [List.find?_eq_none] at hn2
                            exact hn2 z hz (eqb_iff.2 hzs)
                        | true =>
                          have hn2 := HCD.out.2.2.1 rfl
                          have HO2 : Keep (outJ ps qs s = [d]) := ⟨by rw [HO.out.1, hn1, hn2]; rfl⟩
                          have HN3 : Keep (∀ n ∈ ns.take (k + 1), clJ ps qs n = false) := ⟨HNC2.out (by rw [HO.out.2, hn1]; rfl)⟩
                          clear hn1 hn2 HCD
                          have hb2 : Below X.heap.size X (X.alloc (.cells #[.string d.path, .bool d.old.there, .string d.old.text, .bool d.old.runs, .bool d.new.there, .string d.new.text, .bool d.new.runs] 54)) := (Below.refl _ _).alloc (Nat.le_refl _) _
                          have o2 := hst2.cell
                          have o2a : ∀ o, (X.alloc o).cell? ⟨ob, 0, none⟩ = some v := fun o => cell_later ((Below.refl _ _).alloc (Nat.le_refl _) o) o2
                          go_wp2_with (first | (at_builtin; refine wpList_append_lies _ rfl _ _ 26 rfl W0.heap.size 54 i0 _ 7 80 Try.underlying26 hi hz0 hz1 hzb rfl (by decide) v cs.length (ccells cs) rfl (hst2.row.alloc _) ⟨X.heap.size, 0, none⟩ 1 1 (chL d) rfl rfl (news_7 X d _ _ rfl) (one_7 _) (by omega) (by unfold maxLen; omega) (by omega) (by have := hst2.grown.size; simp; omega) (X.heap.size + 1) (by simp) ?_; intro g2 cap2 w2 hown2 hgrow2 hat2 hlt2; obtain ⟨hc2, hf2⟩ := hst2.mid hb2 hgrow2))
                          have hst3 := hst2.append hb2 hgrow2 hown2
                          clear hc2 hf2 hb2 hgrow2 hown2 hat2 hlt2 o2 o2a x0 x1 x2 x3 x4 x5 x6 y0 y1 y2 y3 y4 y5 y6 hst2 nk2
                          go_roundw
                          case rel => exact ⟨k + 1, _, by congr 1, hlt, by rw [HTk.out, HO2.out]; exact hst3, HN3⟩
                          case measure => simp only [intOf]; omega
                      | true =>
                        have hn1 := HCD.out.1 rfl
                        cases bd with
                        | false =>
                          have hn2 := HCD.out.2.2.2 rfl
                          have HO2 : Keep (outJ ps qs s = [c]) := ⟨by rw [HO.out.1, hn1, hn2]; rfl⟩
                          have HN3 : Keep (∀ n ∈ ns.take (k + 1), clJ ps qs n = false) := ⟨HNC2.out (by rw [HO.out.2, hn1, hn2]; rfl)⟩
                          clear hn1 hn2 HCD
                          have hb2 : Below X.heap.size X (X.alloc (.cells #[.string c.path, .bool c.old.there, .string c.old.text, .bool c.old.runs, .bool c.new.there, .string c.new.text, .bool c.new.runs] 54)) := (Below.refl _ _).alloc (Nat.le_refl _) _
                          have o2 := hst2.cell
                          have o2a : ∀ o, (X.alloc o).cell? ⟨ob, 0, none⟩ = some v := fun o => cell_later ((Below.refl _ _).alloc (Nat.le_refl _) o) o2
                          go_wp2_with (first | (at_builtin; refine wpList_append_lies _ rfl _ _ 26 rfl W0.heap.size 54 i0 _ 7 80 Try.underlying26 hi hz0 hz1 hzb rfl (by decide) v cs.length (ccells cs) rfl (hst2.row.alloc _) ⟨X.heap.size, 0, none⟩ 1 1 (chL c) rfl rfl (news_7 X c _ _ rfl) (one_7 _) (by omega) (by unfold maxLen; omega) (by omega) (by have := hst2.grown.size; simp; omega) (X.heap.size + 1) (by simp) ?_; intro g2 cap2 w2 hown2 hgrow2 hat2 hlt2; obtain ⟨hc2, hf2⟩ := hst2.mid hb2 hgrow2))
                          have hst3 := hst2.append hb2 hgrow2 hown2
                          clear hc2 hf2 hb2 hgrow2 hown2 hat2 hlt2 o2 o2a x0 x1 x2 x3 x4 x5 x6 y0 y1 y2 y3 y4 y5 y6 hst2 nk2
                          go_roundw
                          case rel => exact ⟨k + 1, _, by congr 1, hlt, by rw [HTk.out, HO2.out]; exact hst3, HN3⟩
                          case measure => simp only [intOf]; omega
                        | true =>
                          have hn2 := HCD.out.2.2.1 rfl
                          have HCL : Keep (clJ ps qs s = !sameF c.new d.old) := ⟨by rw [HO.out.2, hn1, hn2]; rfl⟩
                          have HO1 : Keep (outJ ps qs s = if sameF c.old d.new = true then [] else [⟨s, c.old, d.new⟩]) := ⟨by rw [HO.out.1, hn1, hn2]; rfl⟩
                          clear hn1 hn2 HCD
                          cases hsm : sameF c.new d.old with
                          | false =>
                            have HB9 : Keep (JoinPost ps qs w (.returned (.tuple #[.agg #[.slice none ([] : List Ch).length 0], .bool false])) (X.setCell ⟨g, 0, none⟩ (.slice none 0 0))) := ⟨⟨[], false, .inr ⟨hv.1, hv.2, .inl ⟨HEX.out (by rw [HCL.out, hsm]; rfl), rfl, rfl⟩⟩, ⟨none, 0, rfl, CL.nil _ _ _⟩, hbX.setCell (p := ⟨g, 0, none⟩) (by have := HS.out; show _ ≤ g; omega) _⟩⟩
                            by_cases h1 : c.new.there = d.old.there
                            · by_cases h2 : c.new.text.toList = d.old.text.toList
                              · by_cases h3 : c.new.runs = d.old.runs
                                · exfalso
                                  rw [Bool.eq_false_iff] at hsm
                                  exact hsm (by simp [sameF, h1, h2, h3])
                                · go_wp2
                                  refine bodyPost_ret (v := .tuple #[.agg #[.slice none ([] : List Ch).length 0], .bool false]) ?_ rfl HB9.out
                                  go_light
                                  simp [results, Try.results6, go_sem, k2]
                              · go_wp2
                                refine bodyPost_ret (v := .tuple #[.agg #[.slice none ([] : List Ch).length 0], .bool false]) ?_ rfl HB9.out
                                go_light
                                simp [results, Try.results6, go_sem, k2]
                            · go_wp2
                              refine bodyPost_ret (v := .tuple #[.agg #[.slice none ([] : List Ch).length 0], .bool false]) ?_ rfl HB9.out
                              go_light
                              simp [results, Try.results6, go_sem, k2]
                          | true =>
                            have HN3 : Keep (∀ n ∈ ns.take (k + 1), clJ ps qs n = false) := ⟨HNC2.out (by rw [HCL.out, hsm]; rfl)⟩
                            obtain ⟨⟨h1, h2⟩, h3⟩ : (c.new.there = d.old.there ∧ c.new.text.toList = d.old.text.toList) ∧ c.new.runs = d.old.runs := by simpa [sameF] using hsm
                            have h4 : c.new.text = d.old.text := WideShapes.bytes_inj (by rw [← Lib.toList_data, ← Lib.toList_data]; exact h2)
                            rw [← h1] at y1
                            rw [← h4] at y2
                            rw [← h3] at y3
                            clear hsm h1 h2 h3 h4
                            go_upto_region 24 with fail
                            cases hs2 : sameF c.old d.new with
                            | true =>
                              have HO2 : Keep (outJ ps qs s = []) := ⟨by rw [HO1.out, if_pos hs2]⟩
                              obtain ⟨⟨h1, h2⟩, h3⟩ : (c.old.there = d.new.there ∧ c.old.text.toList = d.new.text.toList) ∧ c.old.runs = d.new.runs := by simpa [sameF] using hs2
                              have h4 : c.old.text = d.new.text := WideShapes.bytes_inj (by rw [← Lib.toList_data, ← Lib.toList_data]; exact h2)
                              rw [← h1] at y4
                              rw [← h4] at y5
                              rw [← h3] at y6
                              clear hs2 h1 h2 h3 h4
                              go_wp2
                              go_roundw
                              case rel => exact ⟨k + 1, v, by congr 1, hlt, by rw [HTk.out, HO2.out, List.append_nil]; exact hst2, HN3⟩
                              case measure => simp only [intOf]; omega
                            | false =>
                              have HO2 : Keep (outJ ps qs s = [⟨s, c.old, d.new⟩]) := ⟨by rw [HO1.out, if_neg (by rw [hs2]; simp)]⟩
                              go_cut [106] from 56 to 120 (fun x wx => x = .bool true ∧ X = wx)
                              case first =>
                                by_cases h1 : c.old.there = d.new.there
                                · by_cases h2 : c.old.text.toList = d.new.text.toList
                                  · by_cases h3 : c.old.runs = d.new.runs
                                    · exfalso
                                      rw [Bool.eq_false_iff] at hs2
                                      exact hs2 (by simp [sameF, h1, h2, h3])
                                    · go_wp2_with fail
                                      go_meet
                                      case rel => exact ⟨rfl, rfl⟩
                                  · go_wp2_with fail
                                    go_meet
                                    case rel => exact ⟨rfl, rfl⟩
                                · go_wp2_with fail
                                  go_meet
                                  case rel => exact ⟨rfl, rfl⟩
                              case rest =>
                                obtain ⟨rfl, rfl⟩ := hcut
                                clear hs2
                                obtain ⟨ad9, cp9, rfl⟩ := owns_slice hst2.row
                                have hb1' : Below X.heap.size X (X.drew.alloc (.cells #[.string s, .bool c.old.there, .string c.old.text, .bool c.old.runs, .bool d.new.there, .string d.new.text, .bool d.new.runs] 54)) := (Below.refl X.heap.size X).drew.alloc (Nat.le_refl _) _
                                have o1 := hst2.cell
                                have o1a : ∀ o, (X.drew.alloc o).cell? ⟨ob, 0, none⟩ = some (.slice ad9 cs.length cp9) := fun o => cell_later ((Below.refl X.heap.size X).drew.alloc (Nat.le_refl _) o) o1
                                have o1b : ∀ o, (X.alloc o).cell? ⟨ob, 0, none⟩ = some (.slice ad9 cs.length cp9) := fun o => cell_later ((Below.refl _ _).alloc (Nat.le_refl _) o) o1
                                have HST : Keep (OutCh ob W0 (.slice ad9 cs.length cp9) cs X) := ⟨hst2⟩
                                have hgs := hst2.grown.size
                                clear hst2
                                go_upto_region 25 with fail
                                refine (wpIn_wide (n := 0)).1 ?_
                                refine wpIn_region_inv0 (by kernel_rfl) (by kernel_rfl) (fun T0 => AV T0 ob fb gb W0 X (.slice ad9 cs.length cp9) (.slice (some ⟨ng, 0, none⟩) ns.length cn) (.int .i64 k) (.pointer (some ⟨ng, k, none⟩)) s c.old d.new cs) ?_ ?_ ?_
                                · exact ⟨Sl2.start _, fun _ => rfl, (fun h => by rw [getD_repl] at h; cases h), (fun h => by rw [getD_repl] at h; cases h), (fun h => by rw [getD_repl] at h; cases h)⟩
                                · intro L a2 w9 hinv hall
                                  have hE := hinv.w3 (hall 14 (by decide))
                                  have HX : Keep _ := ⟨hinv.sl.act⟩
                                  clear hinv hall
                                  obtain ⟨v', hst3⟩ := hE
                                  clear o1 o1a o1b x0 x1 x2 x3 x4 x5 x6 y0 y1 y2 y3 y4 y5 y6 nk2 HST
                                  rw [HX.out]
                                  simp only [updL, aDs, List.contains_cons, List.contains_nil, Nat.reduceAdd, Nat.reduceBEq, Bool.or_false, cond_false, cond_true, Bool.or_true]
                                  go_wp2
                                  go_roundw
                                  case rel => exact ⟨k + 1, _, by congr 1, hlt, by rw [HTk.out, HO2.out]; exact hst3, HN3⟩
                                  case measure => simp only [intOf]; omega
                                · intro L a2 w9 i o hinv hcl hL ho hdep
                                  have hi15 : i < 15 := (Array.getElem?_eq_some_iff.1 ho).1
                                  unfold wpOpIn
                                  rw [ho]
                                  have q14 : L.getD 12 true = false → L.getD 14 false = false := fun h9 => by
                                    cases hb : L.getD 14 false with
                                    | false => rfl
                                    | true => exfalso; have h := hcl 14 _ rfl hb ⟨12, .data⟩ (by simp) rfl; rw [getD_ft h9] at h; cases h
                                  have q12 : (L.getD 11 true = false ∨ L.getD 1 true = false) → L.getD 12 false = false := fun h9 => by
                                    cases hb : L.getD 12 false with
                                    | false => rfl
                                    | true =>
                                      exfalso
                                      rcases h9 with h9 | h9
                                      · have h := hcl 12 _ rfl hb ⟨11, .data⟩ (by simp) rfl; rw [getD_ft h9] at h; cases h
                                      · have h := hcl 12 _ rfl hb ⟨1, .data⟩ (by simp) rfl; rw [getD_ft h9] at h; cases h
                                  have q11 : (L.getD 5 true = false ∨ L.getD 7 true = false ∨ L.getD 9 true = false) → L.getD 11 false = false := fun h9 => by
                                    cases hb : L.getD 11 false with
                                    | false => rfl
                                    | true =>
                                      exfalso
                                      have h10 := hcl 11 _ rfl hb ⟨10, .data⟩ (by simp) rfl
                                      rcases h9 with h9 | h9 | h9
                                      · have h := hcl 10 _ rfl h10 ⟨5, .data⟩ (by simp) rfl; rw [getD_ft h9] at h; cases h
                                      · have h := hcl 10 _ rfl h10 ⟨7, .data⟩ (by simp) rfl; rw [getD_ft h9] at h; cases h
                                      · have h := hcl 10 _ rfl h10 ⟨9, .data⟩ (by simp) rfl; rw [getD_ft h9] at h; cases h
                                  have q411 : L.getD 14 true = false → L.getD 12 false = true → L.getD 11 false = true := fun _ hb => hcl 12 _ rfl hb ⟨11, .data⟩ (by simp) rfl
                                  have q1414 : L.getD 11 true = false → L.getD 14 false = false := fun h9 => by
                                    cases hb : L.getD 14 false with
                                    | false => rfl
                                    | true => exfalso; have h := hcl 12 _ rfl (hcl 14 _ rfl hb ⟨12, .data⟩ (by simp) rfl) ⟨11, .data⟩ (by simp) rfl; rw [getD_ft h9] at h; cases h
                                  clear hcl
                                  match i, hi15, hL, ho, hdep with
                                  | 0, _, hL, ho, hdep =>
                                    injection ho with ho; subst ho
                                    dsimp only
                                    rw [if_pos (by rfl)]
                                    refine ⟨fun f _ => trivial, ?_⟩
                                    have e9 : a2.tmps[9]?.getD undef = .pointer (some ⟨ob, 0, none⟩) := hinv.sl.old (by decide)
                                    go_simp
                                    exact hinv.step (i := 0) rfl (by omega) (by omega) (by omega) rfl
                                  | 1, _, hL, ho, hdep =>
                                    injection ho with ho; subst ho
                                    dsimp only
                                    rw [if_pos (by rfl)]
                                    refine ⟨fun f _ => trivial, ?_⟩
                                    have e107 : a2.tmps[107]?.getD undef = .pointer (some ⟨ob, 0, none⟩) := hinv.sl.new (i := 0) (by decide) rfl (hdep ⟨0, .data⟩ (by simp) rfl)
                                    have h12 := q12 (.inr hL)
                                    cases h11 : L.getD 11 false with
                                    | false =>
                                      obtain rfl := hinv.w0 h11
                                      go_simp
                                      exact hinv.step (i := 1) rfl (by omega) (by omega) (by omega) rfl
                                    | true =>
                                      obtain ⟨rfl, _⟩ := hinv.w1 h11 h12
                                      go_simp
                                      exact hinv.step (i := 1) rfl (by omega) (by omega) (by omega) rfl
                                  | 2, _, hL, ho, hdep =>
                                    injection ho with ho; subst ho
                                    dsimp only
                                    rw [if_pos (by rfl)]
                                    refine ⟨fun f _ => trivial, ?_⟩
                                    have e6 : a2.tmps[6]?.getD undef = .slice (some ⟨ng, 0, none⟩) ns.length cn := hinv.sl.old (by decide)
                                    go_simp
                                    exact hinv.step (i := 2) rfl (by omega) (by omega) (by omega) rfl
                                  | 3, _, hL, ho, hdep =>
                                    injection ho with ho; subst ho
                                    dsimp only
                                    rw [if_pos (by rfl)]
                                    refine ⟨fun f _ => trivial, ?_⟩
                                    have e10 : a2.tmps[10]?.getD undef = .int .i64 k := hinv.sl.old (by decide)
                                    go_simp
                                    exact hinv.step (i := 3) rfl (by omega) (by omega) (by omega) rfl
                                  | 4, _, hL, ho, hdep =>
                                    injection ho with ho; subst ho
                                    dsimp only
                                    rw [if_pos (by rfl)]
                                    refine ⟨fun f _ => trivial, ?_⟩
                                    have e109 : a2.tmps[109]?.getD undef = .slice (some ⟨ng, 0, none⟩) ns.length cn := hinv.sl.new (i := 2) (by decide) rfl (hdep ⟨2, .data⟩ (by simp) rfl)
                                    have e110 : a2.tmps[110]?.getD undef = .int .i64 k := hinv.sl.new (i := 3) (by decide) rfl (hdep ⟨3, .data⟩ (by simp) rfl)
                                    go_simp
                                    exact hinv.step (i := 4) rfl (by omega) (by omega) (by omega) rfl
                                  | 5, _, hL, ho, hdep =>
                                    injection ho with ho; subst ho
                                    dsimp only
                                    rw [if_pos (by rfl)]
                                    refine ⟨fun f _ => trivial, ?_⟩
                                    have e111 : a2.tmps[111]?.getD undef = .pointer (some ⟨ng, k, none⟩) := hinv.sl.new (i := 4) (by decide) rfl (hdep ⟨4, .data⟩ (by simp) rfl)
                                    obtain rfl := hinv.w0 (q11 (.inl hL))
                                    go_simp
                                    exact hinv.step (i := 5) rfl (by omega) (by omega) (by omega) rfl
                                  | 6, _, hL, ho, hdep =>
                                    injection ho with ho; subst ho
                                    dsimp only
                                    rw [if_pos (by rfl)]
                                    refine ⟨fun f _ => trivial, ?_⟩
                                    have e11 : a2.tmps[11]?.getD undef = .pointer (some ⟨fb, 0, none⟩) := hinv.sl.old (by decide)
                                    go_simp
                                    exact hinv.step (i := 6) rfl (by omega) (by omega) (by omega) rfl
                                  | 7, _, hL, ho, hdep =>
                                    injection ho with ho; subst ho
                                    dsimp only
                                    rw [if_pos (by rfl)]
                                    refine ⟨fun f _ => trivial, ?_⟩
                                    have e113 : a2.tmps[113]?.getD undef = .pointer (some ⟨fb, 1, none⟩) := hinv.sl.new (i := 6) (by decide) rfl (hdep ⟨6, .data⟩ (by simp) rfl)
                                    obtain rfl := hinv.w0 (q11 (.inr (.inl hL)))
                                    go_simp
                                    exact hinv.step (i := 7) rfl (by omega) (by omega) (by omega) rfl
                                  | 8, _, hL, ho, hdep =>
                                    injection ho with ho; subst ho
                                    dsimp only
                                    rw [if_pos (by rfl)]
                                    refine ⟨fun f _ => trivial, ?_⟩
                                    have e13 : a2.tmps[13]?.getD undef = .pointer (some ⟨gb, 0, none⟩) := hinv.sl.old (by decide)
                                    go_simp
                                    exact hinv.step (i := 8) rfl (by omega) (by omega) (by omega) rfl
                                  | 9, _, hL, ho, hdep =>
                                    injection ho with ho; subst ho
                                    dsimp only
                                    rw [if_pos (by rfl)]
                                    refine ⟨fun f _ => trivial, ?_⟩
                                    have e115 : a2.tmps[115]?.getD undef = .pointer (some ⟨gb, 4, none⟩) := hinv.sl.new (i := 8) (by decide) rfl (hdep ⟨8, .data⟩ (by simp) rfl)
                                    obtain rfl := hinv.w0 (q11 (.inr (.inr hL)))
                                    go_simp
                                    exact hinv.step (i := 9) rfl (by omega) (by omega) (by omega) rfl
                                  | 10, _, hL, ho, hdep =>
                                    injection ho with ho; subst ho
                                    dsimp only
                                    rw [if_pos (by rfl)]
                                    refine ⟨fun f _ => trivial, ?_⟩
                                    have e112 : a2.tmps[112]?.getD undef = .string s := hinv.sl.new (i := 5) (by decide) rfl (hdep ⟨5, .data⟩ (by simp) rfl)
                                    have e114 : a2.tmps[114]?.getD undef = .agg #[.bool c.old.there, .string c.old.text, .bool c.old.runs] := hinv.sl.new (i := 7) (by decide) rfl (hdep ⟨7, .data⟩ (by simp) rfl)
                                    have e116 : a2.tmps[116]?.getD undef = .agg #[.bool d.new.there, .string d.new.text, .bool d.new.runs] := hinv.sl.new (i := 9) (by decide) rfl (hdep ⟨9, .data⟩ (by simp) rfl)
                                    go_simp
                                    exact hinv.step (i := 10) rfl (by omega) (by omega) (by omega) rfl
                                  | 11, _, hL, ho, hdep =>
                                    injection ho with ho; subst ho
                                    dsimp only
                                    rw [if_pos (by rfl)]
                                    refine ⟨fun f _ => trivial, ?_⟩
                                    have e117 : a2.tmps[117]?.getD undef = .agg #[.string s, .bool c.old.there, .string c.old.text, .bool c.old.runs, .bool d.new.there, .string d.new.text, .bool d.new.runs] := hinv.sl.new (i := 10) (by decide) rfl (hdep ⟨10, .data⟩ (by simp) rfl)
                                    obtain rfl := hinv.w0 (getD_ft hL)
                                    go_simp
                                    exact hinv.build rfl (q12 (.inl hL)) (q1414 hL) hL
                                  | 12, _, hL, ho, hdep =>
                                    injection ho with ho; subst ho
                                    dsimp only
                                    rw [if_pos (by rfl)]
                                    have h11 := hdep ⟨11, .data⟩ (by simp) rfl
                                    obtain ⟨hw, ex⟩ := hinv.w1 h11 (getD_ft hL)
                                    have ev := hinv.sl.sl 1 (by decide) _ rfl (hdep ⟨1, .data⟩ (by simp) rfl)
                                    obtain ⟨g3, cap3, w7, hr3, hown3, hgrow3, _, _⟩ := run_append_lies (P := Try.prog) (X.drew.alloc (.cells #[.string s, .bool c.old.there, .string c.old.text, .bool c.old.runs, .bool d.new.there, .string d.new.text, .bool d.new.runs] 54)) 26 26 W0.heap.size 54 i0 _ 7 80 Try.underlying26 hi hz0 hz1 hzb rfl (by decide) (.slice ad9 cs.length cp9) cs.length (ccells cs) (owns_below HST.out.row hb1') ⟨X.heap.size, 0, none⟩ 1 1 (chL ⟨s, c.old, d.new⟩) rfl (news_7 X.drew ⟨s, c.old, d.new⟩ _ _ rfl) (one_7 _) (by omega) (by unfold maxLen; omega) (by omega) (by simp; omega) (X.heap.size + 1) (by simp)
                                    subst hw
                                    exact wpIn_append _ _ _ rfl ev ex hr3 (hinv.app rfl h11 (q14 hL) hL hown3 hgrow3)
                                  | 13, _, hL, ho, hdep =>
                                    injection ho with ho; subst ho
                                    dsimp only
                                    rw [if_pos (by rfl)]
                                    refine ⟨fun f _ => trivial, ?_⟩
                                    have e9 : a2.tmps[9]?.getD undef = .pointer (some ⟨ob, 0, none⟩) := hinv.sl.old (by decide)
                                    go_simp
                                    exact hinv.step (i := 13) rfl (by omega) (by omega) (by omega) rfl
                                  | 14, _, hL, ho, hdep =>
                                    injection ho with ho; subst ho
                                    dsimp only
                                    rw [if_pos (by rfl)]
                                    refine ⟨fun f _ => trivial, ?_⟩
                                    have h12 := hdep ⟨12, .data⟩ (by simp) rfl
                                    obtain ⟨g3, cap3, ex, hown3, hgrow3⟩ := hinv.w2 h12 (getD_ft hL)
                                    have e119 := evalD2 ex
                                    have e120 : a2.tmps[120]?.getD undef = .pointer (some ⟨ob, 0, none⟩) := hinv.sl.new (i := 13) (by decide) rfl (hdep ⟨13, .data⟩ (by simp) rfl)
                                    obtain ⟨oc3, of3⟩ := HST.out.mid hb1' hgrow3
                                    go_simp
                                    exact hinv.last (q411 hL h12) h12 hL ⟨_, HST.out.append hb1' hgrow3 hown3⟩
                · obtain rfl : k = ns.length := by omega
                  rw [List.take_length] at hst HNC
                  have r2 := hst.keep k0 (by have := HS.out; have := HZ.out; omega) (by have := HS.out; have := HZ.out; omega)
                  have rf2 : wr.frozen? ⟨g, 0, none⟩ = false := frozen_of (hst.grown.block g (by have := HS.out; have := HZ.out; omega) (fun e => by have := HS.out; have := HZ.out; cases e; omega)) kf
                  obtain ⟨ad, cap2, rfl⟩ := owns_slice hst.row
                  have o2 := hst.cell
                  have hcl := cl_of_row hst.row
                  rw [HNS.out] at HNC hst hcl o2 ⊢
                  have HNC3 : Keep (∀ n ∈ joinNs ps qs, clJ ps qs n = false) := ⟨HNC.out⟩
                  by_cases hle : (joinN ps qs (joinNs ps qs)).length ≤ 200
                  · have hle' : ¬ (200 : Int) < (joinN ps qs (joinNs ps qs)).length := by omega
                    have HB : Keep (JoinPost ps qs w (.returned (.tuple #[.agg #[.slice ad (joinN ps qs (joinNs ps qs)).length cap2], .bool true])) (wr.setCell ⟨g, 0, none⟩ (.slice ad (joinN ps qs (joinNs ps qs)).length cap2))) := ⟨⟨_, true, .inr ⟨hv.1, hv.2, .inr ⟨HNC3.out, .inr ⟨hle, rfl, rfl⟩⟩⟩, ⟨ad, cap2, rfl, (hcl.grown (row := some g) (grown_set0 wr g 0 _) (fun j _ hj _ e => by have := HS.out; have := HZ.out; cases e; omega)).mono (show w.heap.size ≤ W0.heap.size by have := HS.out; have := HZ.out; omega)⟩, hbr.setCell (p := ⟨g, 0, none⟩) (by have := HS.out; show _ ≤ g; omega) _⟩⟩
                    clear hcl hst hbr HNC
                    generalize joinN ps qs (joinNs ps qs) = cs at *
                    go_wp2
                    refine bodyPost_ret (v := .tuple #[.agg #[.slice ad cs.length cap2], .bool true]) ?_ rfl HB.out
                    go_light
                    simp [results, Try.results6, go_sem, r2]
                  · have hle' : (200 : Int) < (joinN ps qs (joinNs ps qs)).length := by omega
                    have HB : Keep (JoinPost ps qs w (.returned (.tuple #[.agg #[.slice none ([] : List Ch).length 0], .bool false])) (wr.setCell ⟨g, 0, none⟩ (.slice none 0 0))) := ⟨⟨[], false, .inr ⟨hv.1, hv.2, .inr ⟨HNC3.out, .inl ⟨by omega, rfl, rfl⟩⟩⟩, ⟨none, 0, rfl, CL.nil _ _ _⟩, hbr.setCell (p := ⟨g, 0, none⟩) (by have := HS.out; show _ ≤ g; omega) _⟩⟩
                    clear hcl hst hbr HNC
                    generalize joinN ps qs (joinNs ps qs) = cs at *
                    go_wp2
                    refine bodyPost_ret (v := .tuple #[.agg #[.slice none ([] : List Ch).length 0], .bool false]) ?_ rfl HB.out
                    go_light
                    simp [results, Try.results6, go_sem, r2]
end Go.Proofs.Ytebgoligoeklbaa
