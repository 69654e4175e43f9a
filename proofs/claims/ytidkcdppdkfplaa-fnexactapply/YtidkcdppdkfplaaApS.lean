/-
  spec.Apply.
-/
import Derived.Test.YtidkcdppdkfplaaApR
import Derived.Test.YtidkcdppdkfplaaApB
import Derived.Test.YtidkcdppdkfplaaCopyT
import Derived.Test.YtidkcdppdkfplaaPatS
import Derived.Test.YtidkcdppdkfplaaSpecTree
import Derived.Test.YtidkcdppdkfplaaApC
import Derived.Deep.CutRange
namespace Go.Proofs.Ytidkcdppdkfplaa
open Go.RowKit

def ApplyRel (ts : List En) (cs : List Ch) (us : List En) (c : Int) : Prop :=
  (¬ (ValidTs ts ∧ ValidP cs) ∧ us = [] ∧ c = 1) ∨ (ValidTs ts ∧ ValidP cs ∧
    (((∃ x ∈ cs, sameF (atL ts x.path) x.old = false) ∧ us = [] ∧ c = 2) ∨
     ((∀ x ∈ cs, sameF (atL ts x.path) x.old = true) ∧ ∃ vs, AppRel ts cs vs ∧ ((¬ ValidTs vs ∧ us = [] ∧ c = 3) ∨ (ValidTs vs ∧ us = vs ∧ c = 0)))))
theorem apply_one {ts : List En} {cs : List Ch} {us us' : List En} {c c' : Int} (h : ApplyRel ts cs us c) (h' : ApplyRel ts cs us' c') : us = us' ∧ c = c' := by
  rcases h with ⟨h1, rfl, rfl⟩ | ⟨h1, h2, h⟩
  · rcases h' with ⟨_, rfl, rfl⟩ | ⟨h3, h4, _⟩
    · exact ⟨rfl, rfl⟩
    · exact absurd ⟨h3, h4⟩ h1
  · rcases h' with ⟨h3, _⟩ | ⟨_, _, h'⟩
    · exact absurd ⟨h1, h2⟩ h3
    · rcases h with ⟨⟨x, hx, hs⟩, rfl, rfl⟩ | ⟨ha, vs, hv, h⟩
      · rcases h' with ⟨_, rfl, rfl⟩ | ⟨ha, _⟩
        · exact ⟨rfl, rfl⟩
        · rw [ha x hx] at hs; cases hs
      · rcases h' with ⟨⟨x, hx, hs⟩, _⟩ | ⟨_, vs', hv', h'⟩
        · rw [ha x hx] at hs; cases hs
        · obtain rfl := hv.one hv'
          rcases h with ⟨h5, rfl, rfl⟩ | ⟨h5, rfl, rfl⟩
          · rcases h' with ⟨_, rfl, rfl⟩ | ⟨h6, _⟩
            · exact ⟨rfl, rfl⟩
            · exact absurd h6 h5
          · rcases h' with ⟨h6, _⟩ | ⟨_, rfl, rfl⟩
            · exact absurd h5 h6
            · exact ⟨rfl, rfl⟩
theorem EL.box {B ob : Nat} {w : World} {ad : Option Addr} {us : List En} {v : Value} (h : EL B w ad us) (hne : us = [] ∨ blk ad ≠ some ob) : EL B (w.setCell ⟨ob, 0, none⟩ v) ad us := by
  rcases hne with h' | h'
  · subst h'; exact .inl rfl
  · exact h.grown (row := some ob) (grown_set0 w ob 0 v) (fun g hg _ _ e => h' (by rw [hg, e]))
theorem EL.apart {B ob : Nat} {w : World} {ad : Option Addr} {us : List En} (h : EL B w ad us) (hb : ob < B ∨ w.heap.size ≤ ob) : us = [] ∨ blk ad ≠ some ob := by
  rcases h with h | ⟨g, rfl, h1, h2, _⟩
  · exact .inl h
  · refine .inr (fun e => ?_)
    have e2 : g = ob := by simpa [blk] using e
    omega

def ApplyPost (ts : List En) (cs : List Ch) (w : World) (e : Ending) (w' : World) : Prop :=
  ∃ us c, ApplyRel ts cs us c ∧ (∃ ad cap, e = .returned (TreeV ad us.length cap c) ∧ EL w.heap.size w' ad us) ∧ Below w.heap.size w w'

theorem ap_asc {cs : List Ch} (h : ValidP cs) : AscK Ch.path cs := by
  have key : ∀ i, i < cs.length → ∀ j, j < i → ∀ (hi : i < cs.length) (hj : j < cs.length), Op.bytesLess cs[j].path.toList cs[i].path.toList = true := by
    intro i
    induction i with
    | zero => intro _ j hj; omega
    | succ i ih =>
      intro hi j hj hi' hj'
      obtain ⟨_, _, h1⟩ := h.2 (i + 1) hi
      have h2 := h1 i rfl (by omega)
      by_cases e : j = i
      · subst e; exact h2
      · exact less_trans (ih (by omega) j (by omega) (by omega) hj') h2
  exact List.pairwise_iff_getElem.2 fun i j hi hj hij => key j hj i hij hj hi

set_option maxRecDepth 100000 in
set_option maxHeartbeats 8000000 in
theorem specApply_any (a b : Option Addr) (ca cb : Nat) (ts : List En) (cs : List Ch) (w : World) (hts : ES w a ts) (hcs : CS w b cs) (hn : ts.length ≤ 1048576) (hnb : cs.length ≤ 1048576) (hca : (∃ ad, a = some ad) ∨ (a = none ∧ ca = 0)) :
    Calls Try.prog 6 #[.agg #[.slice a ts.length ca], .agg #[.slice b cs.length cb]] w fun e w' => ApplyPost ts cs w e w' := by
  have hal : Below w.heap.size w (((w.alloc (.cells #[.slice a ts.length ca] 32)).alloc (.cells #[.slice b cs.length cb] 38)).alloc (.cells #[.slice none 0 0] 32)) := (((Below.refl _ _).alloc (Nat.le_refl _) _).alloc (by simp) _).alloc (by simp; omega) _
  have m0 : (((w.alloc (.cells #[.slice a ts.length ca] 32)).alloc (.cells #[.slice b cs.length cb] 38)).alloc (.cells #[.slice none 0 0] 32)).cell? ⟨w.heap.size, 0, none⟩ = some (.slice a ts.length ca) := by simp [go_sem]
  have m1 : (((w.alloc (.cells #[.slice a ts.length ca] 32)).alloc (.cells #[.slice b cs.length cb] 38)).alloc (.cells #[.slice none 0 0] 32)).cell? ⟨w.heap.size + 1, 0, none⟩ = some (.slice b cs.length cb) := by simp [go_sem]
  have k0 : (((w.alloc (.cells #[.slice a ts.length ca] 32)).alloc (.cells #[.slice b cs.length cb] 38)).alloc (.cells #[.slice none 0 0] 32)).cell? ⟨w.heap.size + 1 + 1, 0, none⟩ = some (.slice none 0 0) := by simp [go_sem]
  have kf : (((w.alloc (.cells #[.slice a ts.length ca] 32)).alloc (.cells #[.slice b cs.length cb] 38)).alloc (.cells #[.slice none 0 0] 32)).frozen? ⟨w.heap.size + 1 + 1, 0, none⟩ = false := by simp [go_sem]
  have os0 : w.heap.size + 1 + 1 < (((w.alloc (.cells #[.slice a ts.length ca] 32)).alloc (.cells #[.slice b cs.length cb] 38)).alloc (.cells #[.slice none 0 0] 32)).heap.size := by simp [go_sem]
  go_enter Try.func6, Try.ntmps6
  go_upto_region 1 with fail
  generalize ((w.alloc (.cells #[.slice a ts.length ca] 32)).alloc (.cells #[.slice b cs.length cb] 38)).alloc (.cells #[.slice none 0 0] 32) = W at *
  obtain ⟨g, hg⟩ : ∃ g, g = w.heap.size + 1 + 1 := ⟨_, rfl⟩
  obtain ⟨tb, htb⟩ : ∃ tb, tb = w.heap.size + 1 := ⟨_, rfl⟩
  obtain ⟨ta, hta⟩ : ∃ ta, ta = w.heap.size := ⟨_, rfl⟩
  rw [← hg] at k0 kf os0 ⊢
  rw [← htb] at m1 ⊢
  rw [← hta] at m0 ⊢
  have HS : Keep (ta = w.heap.size ∧ tb = w.heap.size + 1 ∧ g = w.heap.size + 2) := ⟨by omega⟩
  clear hg htb hta
  go_cut [16] (fun v wx => ∃ nb : Bool, v = .bool nb ∧ Keep (nb = false ↔ ValidTs ts ∧ ValidP cs) ∧ Below W.heap.size W wx)
  case first =>
    go_wp2_with fail
    refine (specTree_any a ca ts W (hts.below hal) hn).mono ?_
    rintro e w1 ⟨va, rfl, hva, hb1⟩
    have m1' := cell_later hb1 m1
    cases va with
    | false =>
      have HV : Keep ((true = false) ↔ ValidTs ts ∧ ValidP cs) := ⟨⟨fun h => (by cases h), fun h => (by have := hva.2 h.1; cases this)⟩⟩
      clear hva
      go_wp2_with fail
      go_meet
      case rel => exact ⟨true, rfl, HV, hb1⟩
    | true =>
      have HV : Keep (ValidTs ts) := ⟨hva.1 rfl⟩
      clear hva
      go_wp2_with fail
      refine (specPatch_any b cb cs w1 ((hcs.below hal).below hb1) hnb).mono ?_
      rintro e w2 ⟨vb, rfl, hvb, hb2⟩
      have HV2 : Keep ((!vb) = false ↔ ValidTs ts ∧ ValidP cs) := ⟨⟨fun h => ⟨HV.out, hvb.1 (by simpa using h)⟩, fun h => by rw [hvb.2 h.2]; rfl⟩⟩
      clear hvb
      go_wp2_with fail
      go_meet
      case rel => exact ⟨_, rfl, HV2, hb1.trans (hb2.mono hb1.size)⟩
  case rest =>
    obtain ⟨nb, rfl, HV, hb1⟩ := hcut
    replace m0 := cell_later hb1 m0
    replace m1 := cell_later hb1 m1
    replace k0 := cell_later hb1 k0
    replace kf : wc.frozen? ⟨g, 0, none⟩ = false := (hb1.frozen (p := ⟨g, 0, none⟩) os0).trans kf
    have os1 : g < wc.heap.size := Nat.lt_of_lt_of_le os0 hb1.size
    have hbw := hal.trans (hb1.mono hal.size)
    clear hb1 hal os0
    cases nb with
    | true =>
      have hnv : ¬ (ValidTs ts ∧ ValidP cs) := fun h => by have := HV.out.2 h; cases this
      go_wp2
      refine bodyPost_ret (v := TreeV none ([] : List En).length 0 1) ?_ rfl ⟨[], 1, .inl ⟨hnv, rfl, rfl⟩, ⟨none, 0, rfl, EL.nil _ _ _⟩, hbw.setCell (p := ⟨g, 0, none⟩) (by have := HS.out; show _ ≤ g; omega) _⟩
      go_light
      simp [results, Try.results6, go_sem, TreeV, k0]
    | false =>
      have hv := HV.out.1 rfl
      have HS1 : Keep (g < wc.heap.size) := ⟨os1⟩
      clear os1
      go_wp2
      go_loopw [6] (fun i wr => ∃ k : Nat, i = .int .i64 k ∧ k ≤ cs.length ∧ Below wc.heap.size wc wr ∧ Keep (∀ x ∈ cs.take k, sameF (atL ts x.path) x.old = true)) (fun i _ => cs.length - (intOf i).toNat)
      case atStart => exact ⟨0, rfl, Nat.zero_le _, Below.refl _ _, ⟨fun x hx => by simp at hx⟩⟩
      case round =>
        obtain ⟨k, rfl, hk, hbk, HSM⟩ := hrel
        have t0 := cell_later hbk m0
        have t1 := cell_later hbk m1
        have hbx := hbw.trans (hbk.mono hbw.size)
        by_cases hlt : k < cs.length
        · have hlt' : (k : Int) < cs.length := by omega
          obtain ⟨b1, o1, rfl, hc1⟩ := (hcs.below hbx).at hlt
          obtain ⟨x0, x1, x2, x3, x4, x5, x6⟩ := hc1 k hlt
          have ct0 : ∀ z : Later wr, z.world.cell? ⟨ta, 0, none⟩ = some (.slice a ts.length ca) := fun z => cell_later z.kept t0
          have ct1 : ∀ z : Later wr, z.world.cell? ⟨tb, 0, none⟩ = some (.slice (some ⟨b1, o1, none⟩) cs.length cb) := fun z => cell_later z.kept t1
          have cx0 : ∀ z : Later wr, z.world.cell? ⟨b1, o1 + k * 7, none⟩ = some (.string cs[k].path) := fun z => cell_later z.kept x0
          have cx1 : ∀ z : Later wr, z.world.cell? ⟨b1, o1 + k * 7 + 1, none⟩ = some (.bool cs[k].old.there) := fun z => cell_later z.kept x1
          have cx2 : ∀ z : Later wr, z.world.cell? ⟨b1, o1 + k * 7 + 2, none⟩ = some (.string cs[k].old.text) := fun z => cell_later z.kept x2
          have cx3 : ∀ z : Later wr, z.world.cell? ⟨b1, o1 + k * 7 + 3, none⟩ = some (.bool cs[k].old.runs) := fun z => cell_later z.kept x3
          have kr := cell_later hbk k0
          have kfr : wr.frozen? ⟨g, 0, none⟩ = false := (hbk.frozen (p := ⟨g, 0, none⟩) HS1.out).trans kf
          have HG : Keep (g < wr.heap.size) := ⟨Nat.lt_of_lt_of_le HS1.out hbk.size⟩
          obtain ⟨f1, hf1⟩ : ∃ f1, f1 = atL ts cs[k].path := ⟨_, rfl⟩
          have HA1 : Keep (∀ z : Later wr, Calls Try.prog 19 #[.agg #[.slice a ts.length ca], .string cs[k].path] z.world fun e w'' => e = .returned (.agg #[.bool f1.there, .string f1.text, .bool f1.runs]) ∧ ∃ q : Later wr, w'' = q.world) := ⟨fun z => by rw [hf1]; exact Later.call z (l6At_any a ca ts cs[k].path z.world ((hts.below hbx).below z.kept) hn)⟩
          have HT : Keep (cs.take (k + 1) = cs.take k ++ [cs[k]]) := ⟨List.take_succ_eq_append_getElem hlt⟩
          clear hc1 x0 x1 x2 x3 x4 x5 x6
          cases hsm : sameF f1 cs[k].old with
          | true =>
            have HN2 : Keep (∀ x ∈ cs.take (k + 1), sameF (atL ts x.path) x.old = true) := ⟨fun x hx => by
              rw [HT.out] at hx
              rcases List.mem_append.1 hx with h' | h'
              · exact HSM.out x h'
              · rw [List.mem_singleton.1 h', ← hf1]; exact hsm⟩
            obtain ⟨⟨h1, h2⟩, h3⟩ : (f1.there = cs[k].old.there ∧ f1.text.toList = cs[k].old.text.toList) ∧ f1.runs = cs[k].old.runs := by simpa [sameF] using hsm
            have h4 : f1.text = cs[k].old.text := WideShapes.bytes_inj (by rw [← Lib.toList_data, ← Lib.toList_data]; exact h2)
            rw [← h1] at cx1
            rw [← h4] at cx2
            rw [← h3] at cx3
            clear hsm h1 h2 h3 h4 hf1
            go_upto_region 6 with fail
            (haveI := later_any; refine wp_region_later (by kernel_rfl) (by kernel_rfl) ?_; (repeat (go_big_quiet_step (first | (go_at_call 19; exact HA1.out _)))); refine wpQuiet_nil ?_; intro _ hwq; obtain ⟨xq, hwq2⟩ := hwq; subst hwq2)
            have hbq := hbk.trans (xq.kept.mono hbk.size)
            clear ct0 ct1 cx0 cx1 cx2 cx3 HA1 t0 t1 hbk hbx kr kfr
            go_wp2
            go_roundw
            case rel => exact ⟨k + 1, by congr 1, hlt, hbq, HN2⟩
            case measure => simp only [intOf]; omega
          | false =>
            have HBad : Keep (∀ X, Below wr.heap.size wr X → ApplyPost ts cs w (.returned (TreeV none ([] : List En).length 0 2)) (X.setCell ⟨g, 0, none⟩ (.slice none 0 0))) := ⟨fun X hX => ⟨[], 2, .inr ⟨hv.1, hv.2, .inl ⟨⟨cs[k], List.getElem_mem hlt, by rw [← hf1]; exact hsm⟩, rfl, rfl⟩⟩, ⟨none, 0, rfl, EL.nil _ _ _⟩, (hbx.trans (hX.mono hbx.size)).setCell (p := ⟨g, 0, none⟩) (by have := HS.out; show _ ≤ g; omega) _⟩⟩
            clear hf1
            by_cases h1 : f1.there = cs[k].old.there
            · by_cases h2 : f1.text.toList = cs[k].old.text.toList
              · by_cases h3 : f1.runs = cs[k].old.runs
                · exfalso
                  rw [Bool.eq_false_iff] at hsm
                  exact hsm (by simp [sameF, h1, h2, h3])
                · clear hsm
                  go_upto_region 6 with fail
                  (haveI := later_any; refine wp_region_later (by kernel_rfl) (by kernel_rfl) ?_; (repeat (go_big_quiet_step (first | (go_at_call 19; exact HA1.out _)))); refine wpQuiet_nil ?_; intro _ hwq; obtain ⟨xq, hwq2⟩ := hwq; subst hwq2)
                  have kq := cell_later xq.kept kr
                  have kfq : xq.world.frozen? ⟨g, 0, none⟩ = false := (xq.kept.frozen (p := ⟨g, 0, none⟩) HG.out).trans kfr
                  have HB : Keep (ApplyPost ts cs w (.returned (TreeV none ([] : List En).length 0 2)) (xq.world.setCell ⟨g, 0, none⟩ (.slice none 0 0))) := ⟨HBad.out xq.world xq.kept⟩
                  go_wp2
                  refine bodyPost_ret (v := TreeV none ([] : List En).length 0 2) ?_ rfl HB.out
                  go_light
                  simp [results, Try.results6, go_sem, TreeV, kq]
              · clear hsm
                go_upto_region 6 with fail
                (haveI := later_any; refine wp_region_later (by kernel_rfl) (by kernel_rfl) ?_; (repeat (go_big_quiet_step (first | (go_at_call 19; exact HA1.out _)))); refine wpQuiet_nil ?_; intro _ hwq; obtain ⟨xq, hwq2⟩ := hwq; subst hwq2)
                have kq := cell_later xq.kept kr
                have kfq : xq.world.frozen? ⟨g, 0, none⟩ = false := (xq.kept.frozen (p := ⟨g, 0, none⟩) HG.out).trans kfr
                have HB : Keep (ApplyPost ts cs w (.returned (TreeV none ([] : List En).length 0 2)) (xq.world.setCell ⟨g, 0, none⟩ (.slice none 0 0))) := ⟨HBad.out xq.world xq.kept⟩
                go_wp2
                refine bodyPost_ret (v := TreeV none ([] : List En).length 0 2) ?_ rfl HB.out
                go_light
                simp [results, Try.results6, go_sem, TreeV, kq]
            · clear hsm
              go_upto_region 6 with fail
              (haveI := later_any; refine wp_region_later (by kernel_rfl) (by kernel_rfl) ?_; (repeat (go_big_quiet_step (first | (go_at_call 19; exact HA1.out _)))); refine wpQuiet_nil ?_; intro _ hwq; obtain ⟨xq, hwq2⟩ := hwq; subst hwq2)
              have kq := cell_later xq.kept kr
              have kfq : xq.world.frozen? ⟨g, 0, none⟩ = false := (xq.kept.frozen (p := ⟨g, 0, none⟩) HG.out).trans kfr
              have HB : Keep (ApplyPost ts cs w (.returned (TreeV none ([] : List En).length 0 2)) (xq.world.setCell ⟨g, 0, none⟩ (.slice none 0 0))) := ⟨HBad.out xq.world xq.kept⟩
              go_wp2
              refine bodyPost_ret (v := TreeV none ([] : List En).length 0 2) ?_ rfl HB.out
              go_light
              simp [results, Try.results6, go_sem, TreeV, kq]
        · obtain rfl : k = cs.length := by omega
          rw [List.take_length] at HSM
          have kr := cell_later hbk k0
          have kfr : wr.frozen? ⟨g, 0, none⟩ = false := (hbk.frozen (p := ⟨g, 0, none⟩) HS1.out).trans kf
          have HG : Keep (g < wr.heap.size) := ⟨Nat.lt_of_lt_of_le HS1.out hbk.size⟩
          have hcp := l5Copy_any a ca ts wr (hts.below hbx) hn hca
          go_wp2_with fail
          refine hcp.mono ?_
          rintro e w2 ⟨⟨ad2, cap2, rfl, hel2⟩, hb2⟩
          have hb3 : Below w2.heap.size w2 (w2.alloc (.cells #[.slice ad2 ts.length cap2] 32)) := (Below.refl _ _).alloc (Nat.le_refl _) _
          have o0 : (w2.alloc (.cells #[.slice ad2 ts.length cap2] 32)).cell? ⟨w2.heap.size, 0, none⟩ = some (.slice ad2 ts.length cap2) := by simp
          have of0 : (w2.alloc (.cells #[.slice ad2 ts.length cap2] 32)).frozen? ⟨w2.heap.size, 0, none⟩ = false := by simp
          have os0 : w2.heap.size < (w2.alloc (.cells #[.slice ad2 ts.length cap2] 32)).heap.size := by simp
          have hap := hel2.apart (ob := w2.heap.size) (.inr (Nat.le_refl _))
          obtain ⟨B0, hB0⟩ : ∃ B0, B0 = wr.heap.size := ⟨_, rfl⟩
          have hel3 : EL B0 (w2.alloc (.cells #[.slice ad2 ts.length cap2] 32)) ad2 ts := by rw [hB0]; exact hel2.below hb3
          have HB0 : Keep (g < B0 ∧ w.heap.size ≤ B0 ∧ B0 ≤ w2.heap.size) := ⟨by have := HG.out; have := hbx.size; have := hb2.size; omega⟩
          clear hB0
          have hbx2 := hbx.trans (hb2.mono hbx.size)
          have m1q := cell_later hb2 t1
          have k0q := cell_later hb2 kr
          have kfq : w2.frozen? ⟨g, 0, none⟩ = false := (hb2.frozen (p := ⟨g, 0, none⟩) HG.out).trans kfr
          have HG2 : Keep (g < w2.heap.size ∧ w.heap.size ≤ g) := ⟨⟨Nat.lt_of_lt_of_le HG.out hb2.size, by have := HS.out; omega⟩⟩
          have hA0 : AppRel ts (cs.take 0) ts := AppRel.start (valid_asc hv.1)
          have ht100 := hv.1.1
          have hc200 := hv.2.1
          have hCK := ap_asc hv.2
          clear hel2 hb2 hcp kr kfr HG t0 t1 hbk hbx
          go_wp2
          generalize w2.alloc (.cells #[.slice ad2 ts.length cap2] 32) = W2 at *
          obtain ⟨ob, hob⟩ : ∃ ob, ob = w2.heap.size := ⟨_, rfl⟩
          rw [← hob] at o0 of0 os0 hap ⊢
          have HOB : Keep (ob = w2.heap.size ∧ ob < W2.heap.size) := ⟨⟨hob, os0⟩⟩
          clear hob os0
          go_loopw [8] (fun i wq => ∃ (k : Nat) (ad : Option Addr) (cp : Nat) (us : List En), i = .int .i64 k ∧ k ≤ cs.length ∧ wq.cell? ⟨ob, 0, none⟩ = some (.slice ad us.length cp) ∧ wq.frozen? ⟨ob, 0, none⟩ = false ∧ EL B0 wq ad us ∧ (us = [] ∨ blk ad ≠ some ob) ∧ Below w2.heap.size w2 wq ∧ AppRel ts (cs.take k) us ∧ us.length ≤ ts.length + k ∧ ob < wq.heap.size) (fun i _ => cs.length - (intOf i).toNat)
          case atStart => exact ⟨0, ad2, cap2, ts, rfl, Nat.zero_le _, o0, of0, hel3, hap, hb3, hA0, Nat.le_refl _, HOB.out.2⟩
          case round =>
            clear o0 of0 hap hel3 hb3 hA0
            obtain ⟨k, ad, cp, us, rfl, hk, o0, of0, hel, hap, hbq, hAR, hul, hobq⟩ := hrel
            have t1 := cell_later hbq m1q
            have hbx3 := hbx2.trans (hbq.mono hbx2.size)
            by_cases hlt : k < cs.length
            · have hlt' : (k : Int) < cs.length := by omega
              obtain ⟨b1, o1, rfl, hc1⟩ := (hcs.below hbx3).at hlt
              obtain ⟨x0, _, _, _, x4, x5, x6⟩ := hc1 k hlt
              have hly := l6Lay_any ad cp us cs[k].path cs[k].new wr.drew (hel.es.below ((Below.refl _ _).drew)) (by omega) hAR.asc
              have HE : Keep (∀ (ad3 : Option Addr) (cp3 : Nat) (vs : List En) (X : World), LayRel us cs[k].path cs[k].new vs → EL wr.heap.size X ad3 vs → Below wr.heap.size wr X → vs.length ≤ us.length + 1 → (X.setCell ⟨ob, 0, none⟩ (.slice ad3 vs.length cp3)).cell? ⟨ob, 0, none⟩ = some (.slice ad3 vs.length cp3) ∧ (X.setCell ⟨ob, 0, none⟩ (.slice ad3 vs.length cp3)).frozen? ⟨ob, 0, none⟩ = false ∧ EL B0 (X.setCell ⟨ob, 0, none⟩ (.slice ad3 vs.length cp3)) ad3 vs ∧ (vs = [] ∨ blk ad3 ≠ some ob) ∧ Below w2.heap.size w2 (X.setCell ⟨ob, 0, none⟩ (.slice ad3 vs.length cp3)) ∧ AppRel ts (cs.take (k + 1)) vs ∧ vs.length ≤ ts.length + (k + 1) ∧ ob < (X.setCell ⟨ob, 0, none⟩ (.slice ad3 vs.length cp3)).heap.size) := ⟨fun ad3 cp3 vs X h1 h2 h3 h4 => by
                have hap3 := h2.apart (ob := ob) (.inl hobq)
                refine ⟨World.cell?_setCell_same _ _ _ (cell_later h3 o0), (World.frozen?_setCell _ _ _ _).trans ((h3.frozen (p := ⟨ob, 0, none⟩) hobq).trans of0), (h2.box hap3).mono (Nat.le_trans HB0.out.2.2 hbq.size), hap3, (hbq.trans (h3.mono hbq.size)).setCell (p := ⟨ob, 0, none⟩) (by have := HOB.out; show _ ≤ ob; omega) _, hAR.step hlt hCK h1, by omega, by have := h3.size; simp; omega⟩⟩
              go_upto_region 12 with fail
              refine (wpIn_wide (n := 0)).1 ?_
              refine wpIn_region_inv0 (by kernel_rfl) (by kernel_rfl) (fun T0 => YV T0 wr (.agg #[.slice ad us.length cp]) (.slice (some ⟨b1, o1, none⟩) cs.length cb) (.int .i64 k) tb b1 (o1 + k * 7) us cs[k].path cs[k].new (fun X => ∃ (ad3 : Option Addr) (cp3 : Nat) (vs : List En), X.cell? ⟨ob, 0, none⟩ = some (.slice ad3 vs.length cp3) ∧ X.frozen? ⟨ob, 0, none⟩ = false ∧ EL B0 X ad3 vs ∧ (vs = [] ∨ blk ad3 ≠ some ob) ∧ Below w2.heap.size w2 X ∧ AppRel ts (cs.take (k + 1)) vs ∧ vs.length ≤ ts.length + (k + 1) ∧ ob < X.heap.size)) ?_ ?_ ?_
              · exact ⟨Sl2.start _, fun _ => rfl, (fun h => by rw [getD_repl] at h; cases h), (fun h => by rw [getD_repl] at h; cases h)⟩
              · intro L a2 w9 hinv hall
                obtain ⟨ad3, cp3, vs, y1, y2, y3, y4, y5, y6, y7, y8⟩ := hinv.w3 (hall 14 (by decide))
                have HX : Keep _ := ⟨hinv.sl.act⟩
                clear hinv hall HE hly x0 x4 x5 x6 t1 o0 of0
                rw [HX.out]
                simp only [updL, yDs, List.contains_cons, List.contains_nil, Nat.reduceAdd, Nat.reduceBEq, Bool.or_false, cond_false, cond_true, Bool.or_true]
                go_wp2
                go_roundw
                case rel => exact ⟨k + 1, ad3, cp3, vs, by congr 1, hlt, y1, y2, y3, y4, y5, y6, y7, y8⟩
                case measure => simp only [intOf]; omega
              · intro L a2 w9 i o hinv hcl hL ho hdep
                have hi15 : i < 15 := (Array.getElem?_eq_some_iff.1 ho).1
                unfold wpOpIn
                rw [ho]
                have q13 : i < 13 → L.getD 13 false = false := fun hi => by
                  cases hb : L.getD 13 false with
                  | false => rfl
                  | true =>
                    exfalso
                    have d0 := hcl 13 _ rfl hb ⟨0, .data⟩ (by simp) rfl
                    have d6 := hcl 13 _ rfl hb ⟨6, .data⟩ (by simp) rfl
                    have d12 := hcl 13 _ rfl hb ⟨12, .data⟩ (by simp) rfl
                    have d5 := hcl 6 _ rfl d6 ⟨5, .data⟩ (by simp) rfl
                    have d4 := hcl 5 _ rfl d5 ⟨4, .data⟩ (by simp) rfl
                    have d3 := hcl 4 _ rfl d4 ⟨3, .data⟩ (by simp) rfl
                    have d2 := hcl 4 _ rfl d4 ⟨2, .data⟩ (by simp) rfl
                    have d1 := hcl 2 _ rfl d2 ⟨1, .data⟩ (by simp) rfl
                    have d11 := hcl 12 _ rfl d12 ⟨11, .data⟩ (by simp) rfl
                    have d10 := hcl 11 _ rfl d11 ⟨10, .data⟩ (by simp) rfl
                    have d9 := hcl 10 _ rfl d10 ⟨9, .data⟩ (by simp) rfl
                    have d8 := hcl 10 _ rfl d10 ⟨8, .data⟩ (by simp) rfl
                    have d7 := hcl 8 _ rfl d8 ⟨7, .data⟩ (by simp) rfl
                    have hf := getD_ft hL
                    match i, hi, hf with
                    | 0, _, hf => rw [d0] at hf; cases hf
                    | 1, _, hf => rw [d1] at hf; cases hf
                    | 2, _, hf => rw [d2] at hf; cases hf
                    | 3, _, hf => rw [d3] at hf; cases hf
                    | 4, _, hf => rw [d4] at hf; cases hf
                    | 5, _, hf => rw [d5] at hf; cases hf
                    | 6, _, hf => rw [d6] at hf; cases hf
                    | 7, _, hf => rw [d7] at hf; cases hf
                    | 8, _, hf => rw [d8] at hf; cases hf
                    | 9, _, hf => rw [d9] at hf; cases hf
                    | 10, _, hf => rw [d10] at hf; cases hf
                    | 11, _, hf => rw [d11] at hf; cases hf
                    | 12, _, hf => rw [d12] at hf; cases hf
                have q14 : L.getD 13 true = false → L.getD 14 false = false := fun h9 => by
                  cases hb : L.getD 14 false with
                  | false => rfl
                  | true => exfalso; have h := hcl 14 _ rfl hb ⟨13, .data⟩ (by simp) rfl; rw [getD_ft h9] at h; cases h
                clear hcl
                match i, hi15, hL, ho, hdep, q13 with
                | 0, _, hL, ho, hdep, q13 =>
                  injection ho with ho; subst ho
                  dsimp only
                  rw [if_pos (by rfl)]
                  refine ⟨fun f _ => trivial, ?_⟩
                  obtain rfl := hinv.w0 (q13 (by omega))
                  have e7 : a2.tmps[7]?.getD undef = .pointer (some ⟨ob, 0, none⟩) := hinv.sl.old (by decide)
                  go_simp
                  exact hinv.step (i := 0) rfl (by omega) rfl
                | 1, _, hL, ho, hdep, q13 =>
                  injection ho with ho; subst ho
                  dsimp only
                  rw [if_pos (by rfl)]
                  refine ⟨fun f _ => trivial, ?_⟩
                  obtain rfl := hinv.w0 (q13 (by omega))
                  have e3 : a2.tmps[3]?.getD undef = .pointer (some ⟨tb, 0, none⟩) := hinv.sl.old (by decide)
                  go_simp
                  exact hinv.step (i := 1) rfl (by omega) rfl
                | 2, _, hL, ho, hdep, q13 =>
                  injection ho with ho; subst ho
                  dsimp only
                  rw [if_pos (by rfl)]
                  refine ⟨fun f _ => trivial, ?_⟩
                  obtain rfl := hinv.w0 (q13 (by omega))
                  have e51 : a2.tmps[51]?.getD undef = .pointer (some ⟨tb, 0, none⟩) := hinv.sl.new (i := 1) (by decide) rfl (hdep ⟨1, .data⟩ (by simp) rfl)
                  go_simp
                  exact hinv.step (i := 2) rfl (by omega) rfl
                | 3, _, hL, ho, hdep, q13 =>
                  injection ho with ho; subst ho
                  dsimp only
                  rw [if_pos (by rfl)]
                  refine ⟨fun f _ => trivial, ?_⟩
                  obtain rfl := hinv.w0 (q13 (by omega))
                  have e8 : a2.tmps[8]?.getD undef = .int .i64 k := hinv.sl.old (by decide)
                  go_simp
                  exact hinv.step (i := 3) rfl (by omega) rfl
                | 4, _, hL, ho, hdep, q13 =>
                  injection ho with ho; subst ho
                  dsimp only
                  rw [if_pos (by rfl)]
                  refine ⟨fun f _ => trivial, ?_⟩
                  obtain rfl := hinv.w0 (q13 (by omega))
                  have e52 : a2.tmps[52]?.getD undef = .slice (some ⟨b1, o1, none⟩) cs.length cb := hinv.sl.new (i := 2) (by decide) rfl (hdep ⟨2, .data⟩ (by simp) rfl)
                  have e53 : a2.tmps[53]?.getD undef = .int .i64 k := hinv.sl.new (i := 3) (by decide) rfl (hdep ⟨3, .data⟩ (by simp) rfl)
                  go_simp
                  exact hinv.step (i := 4) rfl (by omega) rfl
                | 5, _, hL, ho, hdep, q13 =>
                  injection ho with ho; subst ho
                  dsimp only
                  rw [if_pos (by rfl)]
                  refine ⟨fun f _ => trivial, ?_⟩
                  obtain rfl := hinv.w0 (q13 (by omega))
                  have e54 : a2.tmps[54]?.getD undef = .pointer (some ⟨b1, o1 + k * 7, none⟩) := hinv.sl.new (i := 4) (by decide) rfl (hdep ⟨4, .data⟩ (by simp) rfl)
                  go_simp
                  exact hinv.step (i := 5) rfl (by omega) rfl
                | 6, _, hL, ho, hdep, q13 =>
                  injection ho with ho; subst ho
                  dsimp only
                  rw [if_pos (by rfl)]
                  refine ⟨fun f _ => trivial, ?_⟩
                  obtain rfl := hinv.w0 (q13 (by omega))
                  have e55 : a2.tmps[55]?.getD undef = .pointer (some ⟨b1, o1 + k * 7, none⟩) := hinv.sl.new (i := 5) (by decide) rfl (hdep ⟨5, .data⟩ (by simp) rfl)
                  go_simp
                  exact hinv.step (i := 6) rfl (by omega) rfl
                | 7, _, hL, ho, hdep, q13 =>
                  injection ho with ho; subst ho
                  dsimp only
                  rw [if_pos (by rfl)]
                  refine ⟨fun f _ => trivial, ?_⟩
                  obtain rfl := hinv.w0 (q13 (by omega))
                  have e3 : a2.tmps[3]?.getD undef = .pointer (some ⟨tb, 0, none⟩) := hinv.sl.old (by decide)
                  go_simp
                  exact hinv.step (i := 7) rfl (by omega) rfl
                | 8, _, hL, ho, hdep, q13 =>
                  injection ho with ho; subst ho
                  dsimp only
                  rw [if_pos (by rfl)]
                  refine ⟨fun f _ => trivial, ?_⟩
                  obtain rfl := hinv.w0 (q13 (by omega))
                  have e57 : a2.tmps[57]?.getD undef = .pointer (some ⟨tb, 0, none⟩) := hinv.sl.new (i := 7) (by decide) rfl (hdep ⟨7, .data⟩ (by simp) rfl)
                  go_simp
                  exact hinv.step (i := 8) rfl (by omega) rfl
                | 9, _, hL, ho, hdep, q13 =>
                  injection ho with ho; subst ho
                  dsimp only
                  rw [if_pos (by rfl)]
                  refine ⟨fun f _ => trivial, ?_⟩
                  obtain rfl := hinv.w0 (q13 (by omega))
                  have e8 : a2.tmps[8]?.getD undef = .int .i64 k := hinv.sl.old (by decide)
                  go_simp
                  exact hinv.step (i := 9) rfl (by omega) rfl
                | 10, _, hL, ho, hdep, q13 =>
                  injection ho with ho; subst ho
                  dsimp only
                  rw [if_pos (by rfl)]
                  refine ⟨fun f _ => trivial, ?_⟩
                  obtain rfl := hinv.w0 (q13 (by omega))
                  have e58 : a2.tmps[58]?.getD undef = .slice (some ⟨b1, o1, none⟩) cs.length cb := hinv.sl.new (i := 8) (by decide) rfl (hdep ⟨8, .data⟩ (by simp) rfl)
                  have e59 : a2.tmps[59]?.getD undef = .int .i64 k := hinv.sl.new (i := 9) (by decide) rfl (hdep ⟨9, .data⟩ (by simp) rfl)
                  go_simp
                  exact hinv.step (i := 10) rfl (by omega) rfl
                | 11, _, hL, ho, hdep, q13 =>
                  injection ho with ho; subst ho
                  dsimp only
                  rw [if_pos (by rfl)]
                  refine ⟨fun f _ => trivial, ?_⟩
                  obtain rfl := hinv.w0 (q13 (by omega))
                  have e60 : a2.tmps[60]?.getD undef = .pointer (some ⟨b1, o1 + k * 7, none⟩) := hinv.sl.new (i := 10) (by decide) rfl (hdep ⟨10, .data⟩ (by simp) rfl)
                  go_simp
                  exact hinv.step (i := 11) rfl (by omega) rfl
                | 12, _, hL, ho, hdep, q13 =>
                  injection ho with ho; subst ho
                  dsimp only
                  rw [if_pos (by rfl)]
                  refine ⟨fun f _ => trivial, ?_⟩
                  obtain rfl := hinv.w0 (q13 (by omega))
                  have e61 : a2.tmps[61]?.getD undef = .pointer (some ⟨b1, o1 + k * 7 + 4, none⟩) := hinv.sl.new (i := 11) (by decide) rfl (hdep ⟨11, .data⟩ (by simp) rfl)
                  go_simp
                  exact hinv.step (i := 12) rfl (by omega) rfl
                | 13, _, hL, ho, hdep, q13 =>
                  injection ho with ho; subst ho
                  dsimp only
                  rw [if_pos (by rfl)]
                  refine ⟨fun f _ => trivial, ?_⟩
                  obtain rfl := hinv.w0 (getD_ft hL)
                  have e50 : a2.tmps[50]?.getD undef = .agg #[.slice ad us.length cp] := hinv.sl.new (i := 0) (by decide) rfl (hdep ⟨0, .data⟩ (by simp) rfl)
                  have e56 : a2.tmps[56]?.getD undef = .string cs[k].path := hinv.sl.new (i := 6) (by decide) rfl (hdep ⟨6, .data⟩ (by simp) rfl)
                  have e62 : a2.tmps[62]?.getD undef = .agg #[.bool cs[k].new.there, .string cs[k].new.text, .bool cs[k].new.runs] := hinv.sl.new (i := 12) (by decide) rfl (hdep ⟨12, .data⟩ (by simp) rfl)
                  go_simp
                  refine ⟨rfl, CallsIn.mono (callsIn_wide.2 hly) ?_⟩
                  rintro e w' ⟨ad3, cp3, vs, rfl, h1, h2, h3, h4⟩
                  exact hinv.call rfl hL (q14 hL) h1 h2 ((Below.refl wr.heap.size wr).drew.trans (h3.mono (Nat.le_refl _))) h4
                | 14, _, hL, ho, hdep, q13 =>
                  injection ho with ho; subst ho
                  dsimp only
                  rw [if_pos (by rfl)]
                  refine ⟨fun f _ => trivial, ?_⟩
                  obtain ⟨ad3, cp3, vs, ex, h1, h2, h3, h4⟩ := hinv.w1 (hdep ⟨13, .data⟩ (by simp) rfl) (getD_ft hL)
                  have e63 := evalD2 ex
                  have e7 : a2.tmps[7]?.getD undef = .pointer (some ⟨ob, 0, none⟩) := hinv.sl.old (by decide)
                  have oc := cell_later h3 o0
                  have ofc : w9.frozen? ⟨ob, 0, none⟩ = false := (h3.frozen (p := ⟨ob, 0, none⟩) hobq).trans of0
                  go_simp
                  exact hinv.last (hdep ⟨13, .data⟩ (by simp) rfl) hL ⟨ad3, cp3, vs, HE.out ad3 cp3 vs w9 h1 h2 h3 h4⟩
            · obtain rfl : k = cs.length := by omega
              rw [List.take_length] at hAR
              have r2 := cell_later hbq k0q
              have rf2 : wr.frozen? ⟨g, 0, none⟩ = false := (hbq.frozen (p := ⟨g, 0, none⟩) HG2.out.1).trans kfq
              have hgl : g < wr.heap.size := Nat.lt_of_lt_of_le HG2.out.1 hbq.size
              have hst := specTree_any ad cp us wr hel.es (by omega)
              go_wp2_with fail
              refine hst.mono ?_
              rintro e w5 ⟨vb, rfl, hvb, hb5⟩
              have HVB : Keep (vb = true ↔ ValidTs us) := ⟨hvb⟩
              replace r2 := cell_later hb5 r2
              replace o0 := cell_later hb5 o0
              replace rf2 : w5.frozen? ⟨g, 0, none⟩ = false := (hb5.frozen (p := ⟨g, 0, none⟩) hgl).trans rf2
              have hbx5 := hbx3.trans (hb5.mono hbx3.size)
              have hap5 := hel.apart (ob := g) (.inl HB0.out.1)
              have hel5 := hel.below hb5
              cases vb with
              | false =>
                have hnv : ¬ ValidTs us := fun h => by have := HVB.out.2 h; cases this
                have HB : Keep (ApplyPost ts cs w (.returned (TreeV none ([] : List En).length 0 3)) (w5.setCell ⟨g, 0, none⟩ (.slice none 0 0))) := ⟨⟨[], 3, .inr ⟨hv.1, hv.2, .inr ⟨HSM.out, us, hAR, .inl ⟨hnv, rfl, rfl⟩⟩⟩, ⟨none, 0, rfl, EL.nil _ _ _⟩, hbx5.setCell (p := ⟨g, 0, none⟩) HG2.out.2 _⟩⟩
                clear hst hvb hel hel5 hAR hap hap5
                go_wp2
                refine bodyPost_ret (v := TreeV none ([] : List En).length 0 3) ?_ rfl HB.out
                go_light
                simp [results, Try.results6, go_sem, TreeV, r2]
              | true =>
                have hvv := HVB.out.1 rfl
                have HB : Keep (ApplyPost ts cs w (.returned (TreeV ad us.length cp 0)) (w5.setCell ⟨g, 0, none⟩ (.slice ad us.length cp))) := ⟨⟨us, 0, .inr ⟨hv.1, hv.2, .inr ⟨HSM.out, us, hAR, .inr ⟨hvv, rfl, rfl⟩⟩⟩, ⟨ad, cp, rfl, (hel5.box hap5).mono HB0.out.2.1⟩, hbx5.setCell (p := ⟨g, 0, none⟩) HG2.out.2 _⟩⟩
                clear hst hvb hel hel5 hAR hap hap5
                go_wp2
                refine bodyPost_ret (v := TreeV ad us.length cp 0) ?_ rfl HB.out
                go_light
                simp [results, Try.results6, go_sem, TreeV, r2]
end Go.Proofs.Ytidkcdppdkfplaa
