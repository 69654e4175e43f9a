/-
  spec.Diff.
-/
import Derived.Test.YtjlflmbifeocbaaRowR
import Derived.Test.YtjlflmbifeocbaaZbf
import Derived.Test.YtjlflmbifeocbaaZbc
import Derived.Test.YtjlflmbifeocbaaZba
import Derived.Test.YtjlflmbifeocbaaZba
import Derived.Test.YtjlflmbifeocbaaZbe
import Derived.Deep.RegionLaw
import Derived.Deep.CutRange
namespace Go.Proofs.Ytjlflmbifeocbaa
open Go.RowKit

def diffC (ts us : List En) (p : ByteArray) : Ch := ⟨p, atL ts p, atL us p⟩
def diffN (ts us : List En) (ns : List ByteArray) : List Ch := ns.flatMap fun p => if sameF (atL ts p) (atL us p) = true then [] else [diffC ts us p]
def diffL (ts us : List En) : List Ch := diffN ts us (pathsL [ts, us])
theorem diffN_take {ts us : List En} {ns : List ByteArray} {k : Nat} (hk : k < ns.length) : diffN ts us (ns.take (k + 1)) = diffN ts us (ns.take k) ++ (if sameF (atL ts ns[k]) (atL us ns[k]) = true then [] else [diffC ts us ns[k]]) := by
  unfold diffN
  rw [List.take_succ_eq_append_getElem hk, List.flatMap_append]
  simp
theorem diffN_len (ts us : List En) : ∀ ns : List ByteArray, (diffN ts us ns).length ≤ ns.length
  | [] => Nat.le_refl _
  | p :: ns => by
    have h := diffN_len ts us ns
    unfold diffN at h ⊢
    rw [List.flatMap_cons, List.length_append, List.length_cons]
    have h1 : (if sameF (atL ts p) (atL us p) = true then ([] : List Ch) else [diffC ts us p]).length ≤ 1 := by
      split
      · exact Nat.zero_le _
      · exact Nat.le_refl _
    omega
def DiffRel (ts us : List En) (cs : List Ch) : Prop := (ValidTs ts ∧ ValidTs us ∧ cs = diffL ts us) ∨ (¬ (ValidTs ts ∧ ValidTs us) ∧ cs = [])
def DiffPost (ts us : List En) (w : World) (e : Ending) (w' : World) : Prop :=
  ∃ cs, DiffRel ts us cs ∧ (∃ ad cap, e = .returned (.agg #[.slice ad cs.length cap]) ∧ CL w.heap.size w' ad cs) ∧ Below w.heap.size w w'

/-- What Diff gives, its room besides. -/
def DiffPostC (ts us : List En) (w : World) (e : Ending) (w' : World) : Prop :=
  ∃ cs, DiffRel ts us cs ∧ (∃ ad cap, e = .returned (.agg #[.slice ad cs.length cap]) ∧ CL w.heap.size w' ad cs ∧ cs.length ≤ cap) ∧ Below w.heap.size w w'

/-- A file in a box. -/
structure FBx (b : Nat) (f : Fl) (W : World) : Prop where
  c0 : W.cell? ⟨b, 0, none⟩ = some (.bool f.there)
  c1 : W.cell? ⟨b, 1, none⟩ = some (.string f.text)
  c2 : W.cell? ⟨b, 2, none⟩ = some (.bool f.runs)
  fz : ∀ j, W.frozen? ⟨b, j, none⟩ = false
theorem FBx.lt {b : Nat} {f : Fl} {W : World} (h : FBx b f W) : b < W.heap.size := World.block_lt_of_cell? W ⟨b, 0, none⟩ h.c0
theorem FBx.later {b : Nat} {f : Fl} {W W' : World} (h : FBx b f W) (hb : Below W.heap.size W W') : FBx b f W' :=
  ⟨cell_later hb h.c0, cell_later hb h.c1, cell_later hb h.c2, fun j => (hb.frozen (p := ⟨b, j, none⟩) h.lt).trans (h.fz j)⟩
def CutF (f : Fl) (W1 : World) (pv : Value) (W : World) : Prop := ∃ fb, pv = .pointer (some ⟨fb, 0, none⟩) ∧ FBx fb f W ∧ W1.heap.size ≤ fb ∧ Below W1.heap.size W1 W
theorem newF {Y X : World} {t : TypeId} (h : Below (Y.alloc (.cells #[.bool false, .string ⟨#[]⟩, .bool false] t)).drew.heap.size (Y.alloc (.cells #[.bool false, .string ⟨#[]⟩, .bool false] t)).drew X) : FBx Y.heap.size noFl X :=
  FBx.later (W := (Y.alloc (.cells #[.bool false, .string ⟨#[]⟩, .bool false] t)).drew) ⟨by simp [noFl], by simp [noFl], by simp [noFl], fun j => by simp⟩ h
theorem cutF_mk {W1 W : World} {f : Fl} (hb : Below W1.heap.size W1 W) : CutF f W1 (.pointer (some ⟨W.heap.size, 0, none⟩)) (W.alloc (.cells #[.bool f.there, .string f.text, .bool f.runs] 54)) :=
  ⟨_, rfl, ⟨by simp, by simp, by simp, fun j => by simp⟩, hb.size, hb.alloc hb.size _⟩
theorem cutF_mk' {W1 W : World} {f : Fl} {fb : Nat} (hb : Below W1.heap.size W1 W) (hn : FBx fb noFl W) (hl : W1.heap.size ≤ fb) : CutF f W1 (.pointer (some ⟨fb, 0, none⟩)) (((W.setCell ⟨fb, 0, none⟩ (.bool f.there)).setCell ⟨fb, 1, none⟩ (.string f.text)).setCell ⟨fb, 2, none⟩ (.bool f.runs)) := by
  have h0 : (W.setCell ⟨fb, 0, none⟩ (.bool f.there)).cell? ⟨fb, 0, none⟩ = some (.bool f.there) := World.cell?_setCell_same _ _ _ hn.c0
  have h1 : ((W.setCell ⟨fb, 0, none⟩ (.bool f.there)).setCell ⟨fb, 1, none⟩ (.string f.text)).cell? ⟨fb, 1, none⟩ = some (.string f.text) := World.cell?_setCell_same _ _ _ ((World.cell?_setCell_other _ _ _ _ (by simp)).trans hn.c1)
  have h2 : ((W.setCell ⟨fb, 0, none⟩ (.bool f.there)).setCell ⟨fb, 1, none⟩ (.string f.text)).cell? ⟨fb, 2, none⟩ = some (.bool noFl.runs) := (World.cell?_setCell_other _ _ _ _ (by simp)).trans ((World.cell?_setCell_other _ _ _ _ (by simp)).trans hn.c2)
  refine ⟨fb, rfl, ⟨?_, (World.cell?_setCell_other _ _ _ _ (by simp)).trans h1, World.cell?_setCell_same _ _ _ h2, fun j => (World.frozen?_setCell _ _ _ _).trans ((World.frozen?_setCell _ _ _ _).trans ((World.frozen?_setCell _ _ _ _).trans (hn.fz j)))⟩, hl, ((hb.setCell (p := ⟨fb, 0, none⟩) hl _).setCell (p := ⟨fb, 1, none⟩) hl _).setCell (p := ⟨fb, 2, none⟩) hl _⟩
  exact (World.cell?_setCell_other _ _ _ _ (by simp)).trans ((World.cell?_setCell_other _ _ _ _ (by simp)).trans h0)

set_option maxRecDepth 100000 in
set_option maxHeartbeats 16000000 in
theorem specDiffC_any (a b : Option Addr) (ca cb : Nat) (ts us : List En) (w : World) (hts : ES w a ts) (hus : ES w b us) (hn : ts.length ≤ 1048576) (hnb : us.length ≤ 1048576) :
    Calls Try.prog 8 #[.agg #[.slice a ts.length ca], .agg #[.slice b us.length cb]] w fun e w' => DiffPostC ts us w e w' := by
  obtain ⟨i0, hi, hz0, hz1, hzb⟩ := info_parts Try.infoChange
  have hal : Below w.heap.size w ((((w.alloc (.cells #[.slice a ts.length ca] 25)).alloc (.cells #[.slice b us.length cb] 25)).alloc (.cells #[.slice none 0 0] 30)).alloc (.cells #[.slice none 0 0] 30)) := ((((Below.refl _ _).alloc (Nat.le_refl _) _).alloc (by simp) _).alloc (by simp; omega) _).alloc (by simp; omega) _
  have m0 : ((((w.alloc (.cells #[.slice a ts.length ca] 25)).alloc (.cells #[.slice b us.length cb] 25)).alloc (.cells #[.slice none 0 0] 30)).alloc (.cells #[.slice none 0 0] 30)).cell? ⟨w.heap.size, 0, none⟩ = some (.slice a ts.length ca) := by simp [go_sem]
  have m1 : ((((w.alloc (.cells #[.slice a ts.length ca] 25)).alloc (.cells #[.slice b us.length cb] 25)).alloc (.cells #[.slice none 0 0] 30)).alloc (.cells #[.slice none 0 0] 30)).cell? ⟨w.heap.size + 1, 0, none⟩ = some (.slice b us.length cb) := by simp [go_sem]
  have k0 : ((((w.alloc (.cells #[.slice a ts.length ca] 25)).alloc (.cells #[.slice b us.length cb] 25)).alloc (.cells #[.slice none 0 0] 30)).alloc (.cells #[.slice none 0 0] 30)).cell? ⟨w.heap.size + 1 + 1, 0, none⟩ = some (.slice none 0 0) := by simp [go_sem]
  have kf : ((((w.alloc (.cells #[.slice a ts.length ca] 25)).alloc (.cells #[.slice b us.length cb] 25)).alloc (.cells #[.slice none 0 0] 30)).alloc (.cells #[.slice none 0 0] 30)).frozen? ⟨w.heap.size + 1 + 1, 0, none⟩ = false := by simp [go_sem]
  have o0 : ((((w.alloc (.cells #[.slice a ts.length ca] 25)).alloc (.cells #[.slice b us.length cb] 25)).alloc (.cells #[.slice none 0 0] 30)).alloc (.cells #[.slice none 0 0] 30)).cell? ⟨w.heap.size + 1 + 1 + 1, 0, none⟩ = some (.slice none 0 0) := by simp [go_sem]
  have of0 : ((((w.alloc (.cells #[.slice a ts.length ca] 25)).alloc (.cells #[.slice b us.length cb] 25)).alloc (.cells #[.slice none 0 0] 30)).alloc (.cells #[.slice none 0 0] 30)).frozen? ⟨w.heap.size + 1 + 1 + 1, 0, none⟩ = false := by simp [go_sem]
  have os0 : w.heap.size + 1 + 1 + 1 < ((((w.alloc (.cells #[.slice a ts.length ca] 25)).alloc (.cells #[.slice b us.length cb] 25)).alloc (.cells #[.slice none 0 0] 30)).alloc (.cells #[.slice none 0 0] 30)).heap.size := by simp [go_sem]
  go_enter Try.func8, Try.ntmps8
  go_upto_region 2 with fail
  generalize (((w.alloc (.cells #[.slice a ts.length ca] 25)).alloc (.cells #[.slice b us.length cb] 25)).alloc (.cells #[.slice none 0 0] 30)).alloc (.cells #[.slice none 0 0] 30) = W at *
  obtain ⟨ob, hob⟩ : ∃ ob, ob = w.heap.size + 1 + 1 + 1 := ⟨_, rfl⟩
  obtain ⟨g, hg⟩ : ∃ g, g = w.heap.size + 1 + 1 := ⟨_, rfl⟩
  obtain ⟨tb, htb⟩ : ∃ tb, tb = w.heap.size + 1 := ⟨_, rfl⟩
  obtain ⟨ta, hta⟩ : ∃ ta, ta = w.heap.size := ⟨_, rfl⟩
  rw [← hob] at o0 of0 os0 ⊢
  rw [← hg] at k0 kf ⊢
  rw [← htb] at m1 ⊢
  rw [← hta] at m0 ⊢
  have HS : Keep (ta = w.heap.size ∧ tb = w.heap.size + 1 ∧ g = w.heap.size + 2 ∧ ob = w.heap.size + 3) := ⟨by omega⟩
  clear hob hg htb hta
  -- whether both are valid
  go_cut [18] (fun v wx => ∃ nb : Bool, v = .bool nb ∧ Keep (nb = false ↔ ValidTs ts ∧ ValidTs us) ∧ Below W.heap.size W wx)
  case first =>
    go_wp2_with fail
    refine (specTree_any a ca ts W (hts.below hal) hn).mono ?_
    rintro e w1 ⟨va, rfl, hva, hb1⟩
    have m1' := cell_later hb1 m1
    cases va with
    | false =>
      have HV : Keep ((true = false) ↔ ValidTs ts ∧ ValidTs us) := ⟨⟨fun h => (by cases h), fun h => (by have := hva.2 h.1; cases this)⟩⟩
      clear hva
      go_wp2_with fail
      go_meet
      case rel => exact ⟨true, rfl, HV, hb1⟩
    | true =>
      have HV : Keep (ValidTs ts) := ⟨hva.1 rfl⟩
      clear hva
      go_wp2_with fail
      refine (specTree_any b cb us w1 ((hus.below hal).below hb1) hnb).mono ?_
      rintro e w2 ⟨vb, rfl, hvb, hb2⟩
      have HV2 : Keep ((!vb) = false ↔ ValidTs ts ∧ ValidTs us) := ⟨⟨fun h => ⟨HV.out, hvb.1 (by simpa using h)⟩, fun h => by rw [hvb.2 h.2]; rfl⟩⟩
      clear hvb
      go_wp2_with fail
      go_meet
      case rel => exact ⟨_, rfl, HV2, hb1.trans (hb2.mono hb1.size)⟩
  case rest =>
    obtain ⟨nb, rfl, HV, hb1⟩ := hcut
    replace m0 := cell_later hb1 m0
    replace m1 := cell_later hb1 m1
    replace k0 := cell_later hb1 k0
    replace o0 := cell_later hb1 o0
    have hWs : g < W.heap.size := by have := HS.out; omega
    replace kf : wc.frozen? ⟨g, 0, none⟩ = false := (hb1.frozen (p := ⟨g, 0, none⟩) hWs).trans kf
    replace of0 : wc.frozen? ⟨ob, 0, none⟩ = false := (hb1.frozen (p := ⟨ob, 0, none⟩) os0).trans of0
    have os1 : ob < wc.heap.size := Nat.lt_of_lt_of_le os0 hb1.size
    have hbw := hal.trans (hb1.mono hal.size)
    have hE1 := hts.below hbw
    have hE2 := hus.below hbw
    clear hb1 hal os0 hWs
    cases nb with
    | true =>
      have hnv : ¬ (ValidTs ts ∧ ValidTs us) := fun h => by have := HV.out.2 h; cases this
      go_wp2
      refine bodyPost_ret (v := .agg #[.slice none ([] : List Ch).length 0]) ?_ rfl ⟨[], .inr ⟨hnv, rfl⟩, ⟨none, 0, rfl, CL.nil _ _ _, Nat.le_refl _⟩, hbw.setCell (p := ⟨g, 0, none⟩) (by have := HS.out; show _ ≤ g; omega) _⟩
      go_light
      simp [results, Try.results8, go_sem, k0]
    | false =>
      have hv := HV.out.1 rfl
      have ht100 : ts.length ≤ 100 := hv.1.1
      have hu100 : us.length ≤ 100 := hv.2.1
      have hba := (Below.refl wc.heap.size wc).alloc (Nat.le_refl _) (.cells #[.slice a ts.length ca, .slice b us.length cb] 25)
      have hTs : TsAt (wc.alloc (.cells #[.slice a ts.length ca, .slice b us.length cb] 25)) wc.heap.size 0 [(a, ca, ts), (b, cb, us)] := fun i hi => by
        match i, hi with
        | 0, _ => exact ⟨by simp, hE1.below hba⟩
        | 1, _ => exact ⟨by simp, hE2.below hba⟩
      have hpl := l6Paths_any wc.heap.size 0 2 [(a, ca, ts), (b, cb, us)] _ hTs (by simp) (fun x hx => by
        rcases List.mem_cons.1 hx with rfl | hx
        · show ts.length ≤ _; omega
        · rw [List.mem_singleton.1 hx]; show us.length ≤ _; omega)
      have hlen : (pathsL [ts, us]).length ≤ 200 := by
        have h1 := addP_len [] ts ts.length (Nat.le_refl _)
        have h2 := addP_len (addP [] ts) us us.length (Nat.le_refl _)
        rw [List.take_length] at h1 h2
        show (addP (addP [] ts) us).length ≤ 200
        simp at h1
        omega
      obtain ⟨ns, hns⟩ : ∃ ns, ns = pathsL [ts, us] := ⟨_, rfl⟩
      have HNS : Keep (ns = pathsL [ts, us]) := ⟨hns⟩
      rw [← hns] at hlen
      have hpl2 : Calls Try.prog 34 #[.slice (some ⟨wc.heap.size, 0, none⟩) 2 2] (wc.alloc (.cells #[.slice a ts.length ca, .slice b us.length cb] 25)) (NamesPost ns (wc.alloc (.cells #[.slice a ts.length ca, .slice b us.length cb] 25))) := by rw [hns]; exact hpl
      clear hns hpl hTs
      go_wp2_with fail
      refine hpl2.mono ?_
      rintro e W0 ⟨an, cn, rfl, hrow, hb2⟩
      have hb3 := hba.trans (hb2.mono hba.size)
      have hbw2 := hbw.trans (hb3.mono hbw.size)
      obtain ⟨ng, HNG⟩ : ∃ ng, Keep (∀ k (h : k < ns.length), an = some ⟨ng, 0, none⟩ ∧ W0.cell? ⟨ng, k, none⟩ = some (.string ns[k])) := by
        by_cases h0 : ns = []
        · exact ⟨0, ⟨fun k hk => by rw [h0] at hk; simp at hk⟩⟩
        · obtain ⟨ng, c, hv2, _⟩ := hrow.form (List.length_pos_iff.2 h0)
          cases hv2
          exact ⟨ng, ⟨fun k hk => ⟨rfl, by rw [hrow.cellAt k (by simpa using hk), List.getElem?_map, List.getElem?_eq_getElem hk]; rfl⟩⟩⟩
      replace m0 := cell_later hb3 m0
      replace m1 := cell_later hb3 m1
      replace k0 := cell_later hb3 k0
      replace kf : W0.frozen? ⟨g, 0, none⟩ = false := (hb3.frozen (p := ⟨g, 0, none⟩) (by have := HS.out; show g < _; omega)).trans kf
      have hst0 := OutCh.start (cell_later hb3 o0) ((hb3.frozen (p := ⟨ob, 0, none⟩) os1).trans of0) (Nat.lt_of_lt_of_le os1 hb3.size)
      have HZ : Keep (ob < W0.heap.size ∧ ∀ k (h : k < ns.length), ng < W0.heap.size ∧ ng ≠ ob) := ⟨⟨Nat.lt_of_lt_of_le os1 hb3.size, fun k hk => by
        have h1 := World.block_lt_of_cell? W0 ⟨ng, k, none⟩ (HNG.out k hk).2
        refine ⟨h1, ?_⟩
        obtain ⟨g9, c9, hv9, hlo9, _⟩ := hrow.form (by omega)
        obtain ⟨rfl, _⟩ := HNG.out k hk
        cases hv9
        have h2 : wc.heap.size + 1 ≤ ng := by simpa using hlo9
        omega⟩⟩
      clear o0 of0 os1 hb2 hb3 hba hE1 hE2 hrow hbw hpl2
      go_wp2
      go_loopw [7] (fun i wr => ∃ (k : Nat) (v : Value), i = .int .i64 k ∧ k ≤ ns.length ∧ OutCh ob W0 v (diffN ts us (ns.take k)) wr) (fun i _ => ns.length - (intOf i).toNat)
      case atStart => exact ⟨0, _, rfl, Nat.zero_le _, hst0⟩
      case round =>
        clear hst0
        obtain ⟨k, v, rfl, hk, hst⟩ := hrel
        have hbr := hst.below hbw2 (by have := HS.out; omega)
        by_cases hlt : k < ns.length
        · have hlt' : (k : Int) < ns.length := by omega
          have hz := HZ.out.2 k hlt
          obtain ⟨rfl, hnk⟩ := HNG.out k hlt
          have HTk : Keep (diffN ts us (ns.take (k + 1)) = diffN ts us (ns.take k) ++ (if sameF (atL ts ns[k]) (atL us ns[k]) = true then [] else [diffC ts us ns[k]])) := ⟨diffN_take hlt⟩
          have hdl : (diffN ts us (ns.take k)).length ≤ 200 := by have := diffN_len ts us (ns.take k); simp at this; omega
          have t1 := hst.keep m0 (by have := HS.out; have := HZ.out.1; omega) (by have := HS.out; omega)
          have t2 := hst.keep m1 (by have := HS.out; have := HZ.out.1; omega) (by have := HS.out; omega)
          have nk := hst.keep hnk hz.1 hz.2
          generalize diffN ts us (ns.take k) = cs at *
          obtain ⟨s, hs⟩ : ∃ s, s = ns[k] := ⟨_, rfl⟩
          rw [← hs] at nk HTk
          unfold diffC at HTk
          obtain ⟨f1, hf1⟩ : ∃ f1, f1 = atL ts s := ⟨_, rfl⟩
          obtain ⟨f2, hf2⟩ : ∃ f2, f2 = atL us s := ⟨_, rfl⟩
          have HA1 : Keep (∀ X, Below wr.heap.size wr X → Calls Try.prog 35 #[.agg #[.slice a ts.length ca], .string s] X fun e w' => e = .returned (.agg #[.bool f1.there, .string f1.text, .bool f1.runs]) ∧ Below X.heap.size X w') := ⟨fun X hX => by rw [hf1]; exact l6At_any a ca ts s X ((hts.below hbr).below hX) (by omega)⟩
          have HA2 : Keep (∀ X, Below wr.heap.size wr X → Calls Try.prog 35 #[.agg #[.slice b us.length cb], .string s] X fun e w' => e = .returned (.agg #[.bool f2.there, .string f2.text, .bool f2.runs]) ∧ Below X.heap.size X w') := ⟨fun X hX => by rw [hf2]; exact l6At_any b cb us s X ((hus.below hbr).below hX) (by omega)⟩
          rw [← hf1, ← hf2] at HTk
          clear hs hf1 hf2 hnk hz
          have kq : ∀ {W W' : World}, Below wr.heap.size wr W → Below W.heap.size W W' → Below wr.heap.size wr W' := fun h h' => h.trans (h'.mono h.size)
          have q0 : Below wr.heap.size wr wr.drew := (Below.refl _ _).drew
          have qa := ((Below.refl wr.heap.size wr).alloc (Nat.le_refl _) (.cells #[.bool false, .string ⟨#[]⟩, .bool false] 54)).drew
          go_upto_region 8 with fail
          go_cut [8] from 24 to 56 (fun pv wx => CutF f1 wr pv wx)
          case first =>
            have t1a : ∀ o, (wr.alloc o).cell? ⟨ta, 0, none⟩ = some (.slice a ts.length ca) := fun o => cell_later ((Below.refl _ _).alloc (Nat.le_refl _) o) t1
            have nka : ∀ o, (wr.alloc o).cell? ⟨ng, k, none⟩ = some (.string s) := fun o => cell_later ((Below.refl _ _).alloc (Nat.le_refl _) o) nk
            go_region_with (go_at_call 35; refine (HA1.out _ ?_).mono ?_; (first | with_reducible exact q0 | with_reducible exact qa); rintro e wG ⟨rfl, hbG⟩; (try (with_reducible have N := newF hbG; have n0 := N.c0; have n1 := N.c1; have n2 := N.c2; have nf := N.fz)))
            all_goals
              go_wp2_with fail
              go_meet
              case rel =>
                first
                  | exact cutF_mk (kq q0 hbG)
                  | exact cutF_mk' (kq qa hbG) N (Nat.le_refl _)
          case rest =>
            obtain ⟨fb, rfl, hF, hfb, hB1⟩ := hcut
            clear q0 qa
            generalize hwd : wc = wd at *
            clear hwd
            have t2w := cell_later hB1 t2
            have nkw := cell_later hB1 nk
            have q0 : Below wr.heap.size wr wd.drew := hB1.drew
            have qa := (hB1.alloc hB1.size (.cells #[.bool false, .string ⟨#[]⟩, .bool false] 54)).drew
            have q1 : Below wd.heap.size wd wd.drew := (Below.refl _ _).drew
            have q2 := ((Below.refl wd.heap.size wd).alloc (Nat.le_refl _) (.cells #[.bool false, .string ⟨#[]⟩, .bool false] 54)).drew
            go_upto_region 9 with fail
            go_cut [9] from 24 to 56 (fun pv wx => CutF f2 wd pv wx)
            case first =>
              have t2a : ∀ o, (wd.alloc o).cell? ⟨tb, 0, none⟩ = some (.slice b us.length cb) := fun o => cell_later ((Below.refl _ _).alloc (Nat.le_refl _) o) t2w
              have nka : ∀ o, (wd.alloc o).cell? ⟨ng, k, none⟩ = some (.string s) := fun o => cell_later ((Below.refl _ _).alloc (Nat.le_refl _) o) nkw
              go_region_with (go_at_call 35; refine (HA2.out _ ?_).mono ?_; (first | with_reducible exact q0 | with_reducible exact qa); rintro e wG ⟨rfl, hbG⟩; (try (with_reducible have N := newF hbG; have n0 := N.c0; have n1 := N.c1; have n2 := N.c2; have nf := N.fz)))
              all_goals
                go_wp2_with fail
                go_meet
                case rel =>
                  first
                    | exact cutF_mk (q1.trans (hbG.mono q1.size))
                    | exact cutF_mk' (q2.trans (hbG.mono q2.size)) N (Nat.le_refl _)
            case rest =>
              obtain ⟨gb, rfl, hG, hgb, hB2⟩ := hcut
              have hF2 := hF.later hB2
              have hB3 : Below wr.heap.size wr wc := kq hB1 hB2
              have hst2 := hst.later hB3
              have nk2 := cell_later hB3 nk
              clear t1 t2 t2w nk nkw q0 qa q1 q2 hF hB1 hB2 HA1 HA2 kq hbr hst
              obtain ⟨x1, x2, x3⟩ := f1
              obtain ⟨y1, y2, y3⟩ := f2
              obtain ⟨p0, p1, p2, _⟩ := hF2
              obtain ⟨g0, g1, g2, _⟩ := hG
              dsimp only at p0 p1 p2 g0 g1 g2
              cases hsm : sameF ⟨x1, x2, x3⟩ ⟨y1, y2, y3⟩ with
              | true =>
                have HT2 : Keep (diffN ts us (ns.take (k + 1)) = cs) := ⟨by rw [HTk.out, if_pos hsm, List.append_nil]⟩
                obtain ⟨⟨rfl, h2⟩, rfl⟩ : (x1 = y1 ∧ x2.toList = y2.toList) ∧ x3 = y3 := by simpa [sameF] using hsm
                obtain rfl : x2 = y2 := WideShapes.bytes_inj (by rw [← Lib.toList_data, ← Lib.toList_data]; exact h2)
                clear hsm h2 HTk
                go_wp2
                go_roundw
                case rel => exact ⟨k + 1, v, by congr 1, hlt, by rw [HT2.out]; exact hst2⟩
                case measure => simp only [intOf]; omega
              | false =>
                have HT2 : Keep (diffN ts us (ns.take (k + 1)) = cs ++ [⟨s, ⟨x1, x2, x3⟩, ⟨y1, y2, y3⟩⟩]) := ⟨by rw [HTk.out, if_neg (by rw [hsm]; simp)]⟩
                clear HTk
                go_upto_region 10 with fail
                go_cut [44] from 24 to 56 (fun x wx => x = .bool true ∧ wc = wx)
                case first =>
                  by_cases h1 : x1 = y1
                  · by_cases h2 : x2.toList = y2.toList
                    · by_cases h3 : x3 = y3
                      · exfalso
                        rw [Bool.eq_false_iff] at hsm
                        exact hsm (by simp [sameF, h1, h2, h3])
                      · go_wp2_with fail
                        go_meet
                        case rel => exact ⟨rfl, rfl⟩
                    · go_wp2_with fail
                      go_meet
                      case rel => exact ⟨rfl, rfl⟩
                  · go_wp2_with fail
                    go_meet
                    case rel => exact ⟨rfl, rfl⟩
                case rest =>
                  obtain ⟨rfl, rfl⟩ := hcut
                  clear hsm
                  obtain ⟨ad9, cp9, rfl⟩ := owns_slice hst2.row
                  have hb1 : Below wc.heap.size wc (wc.alloc (.cells #[.string s, .bool x1, .string x2, .bool x3, .bool y1, .string y2, .bool y3] 68)).drew := ((Below.refl _ _).alloc (Nat.le_refl _) _).drew
                  have o1 := hst2.cell
                  have o1a : ∀ o, (wc.alloc o).cell? ⟨ob, 0, none⟩ = some (.slice ad9 cs.length cp9) := fun o => cell_later ((Below.refl _ _).alloc (Nat.le_refl _) o) o1
                  have HST : Keep (OutCh ob W0 (.slice ad9 cs.length cp9) cs wc) := ⟨hst2⟩
                  have hgs := hst2.grown.size
                  clear hst2
                  go_upto_region 11 with fail
                  go_region_law (refine step_append_lies _ rfl _ _ 28 rfl W0.heap.size 68 i0 _ 7 80 Try.underlying28 hi hz0 hz1 hzb rfl (by decide) (.slice ad9 cs.length cp9) cs.length (ccells cs) rfl (by exact owns_below HST.out.row hb1) ⟨wc.heap.size, 0, none⟩ 1 1 (chL ⟨s, ⟨x1, x2, x3⟩, ⟨y1, y2, y3⟩⟩) rfl rfl (by exact news_7 wc ⟨s, ⟨x1, x2, x3⟩, ⟨y1, y2, y3⟩⟩ _ _ rfl) (by exact one_7 _) (by omega) (by unfold maxLen; omega) (by omega) (by simp; omega) (wc.heap.size + 1) (by simp) ?_; intro g3 cap3 w7 hown3 hgrow3 hat3 hlt3; have hm3 := HST.out.mid hb1 hgrow3; have oc3 := hm3.1; have of3 := hm3.2)
                  all_goals
                    have hst3 := HST.out.append hb1 hgrow3 hown3
                    clear hm3 oc3 of3 hgrow3 hown3 hat3 hlt3 o1 o1a p0 p1 p2 g0 g1 g2 nk2 HST
                    go_wp2
                    go_roundw
                    case rel => exact ⟨k + 1, _, by congr 1, hlt, by rw [HT2.out]; exact hst3⟩
                    case measure => simp only [intOf]; omega
        · obtain rfl : k = ns.length := by omega
          rw [List.take_length] at hst
          have r2 := hst.keep k0 (by have := HS.out; have := HZ.out.1; omega) (by have := HS.out; omega)
          have rf2 : wr.frozen? ⟨g, 0, none⟩ = false := frozen_of (hst.grown.block g (by have := HS.out; have := HZ.out.1; omega) (fun e => by have := HS.out; cases e; omega)) kf
          obtain ⟨ad, cap2, rfl⟩ := owns_slice hst.row
          have HRM : Keep ((diffN ts us ns).length ≤ cap2) := ⟨row_roomO hst.row⟩
          have o2 := hst.cell
          have hcl := cl_of_row hst.row
          have hcl2 : CL w.heap.size (wr.setCell ⟨g, 0, none⟩ (.slice ad (diffN ts us ns).length cap2)) ad (diffN ts us ns) := (hcl.grown (row := some g) (grown_set0 wr g 0 (.slice ad (diffN ts us ns).length cap2)) (fun j _ hj _ e => by have := HS.out; have := HZ.out.1; cases e; omega)).mono (show w.heap.size ≤ W0.heap.size by have := HS.out; have := HZ.out.1; omega)
          have HB : Keep (Below w.heap.size w (wr.setCell ⟨g, 0, none⟩ (.slice ad (diffN ts us ns).length cap2))) := ⟨hbr.setCell (p := ⟨g, 0, none⟩) (by have := HS.out; show _ ≤ g; omega) _⟩
          have HCL : Keep (CL w.heap.size (wr.setCell ⟨g, 0, none⟩ (.slice ad (diffN ts us ns).length cap2)) ad (diffN ts us ns)) := ⟨hcl2⟩
          have HR : Keep (DiffRel ts us (diffN ts us ns)) := ⟨.inl ⟨hv.1, hv.2, by rw [HNS.out]; rfl⟩⟩
          clear hcl hcl2 hst hbr
          generalize diffN ts us ns = cs at *
          go_wp2
          refine bodyPost_ret (v := .agg #[.slice ad cs.length cap2]) ?_ rfl ⟨cs, HR.out, ⟨ad, cap2, rfl, HCL.out, HRM.out⟩, HB.out⟩
          go_light
          simp [results, Try.results8, go_sem, r2]
theorem specDiff_any (a b : Option Addr) (ca cb : Nat) (ts us : List En) (w : World) (hts : ES w a ts) (hus : ES w b us) (hn : ts.length ≤ 1048576) (hnb : us.length ≤ 1048576) :
    Calls Try.prog 8 #[.agg #[.slice a ts.length ca], .agg #[.slice b us.length cb]] w fun e w' => DiffPost ts us w e w' :=
  (specDiffC_any a b ca cb ts us w hts hus hn hnb).mono (fun _ _ ⟨cs, h1, ⟨ad, cap, h2, h3, _⟩, h4⟩ => ⟨cs, h1, ⟨ad, cap, h2, h3⟩, h4⟩)
end Go.Proofs.Ytjlflmbifeocbaa
