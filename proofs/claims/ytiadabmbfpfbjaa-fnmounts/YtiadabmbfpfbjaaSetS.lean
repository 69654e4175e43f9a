/-
  spec's l5Set.
-/
import Derived.Test.YtiadabmbfpfbjaaSetP
import Derived.Test.YtiadabmbfpfbjaaOutL
import Derived.Deep.QuietTactic
import Derived.BigQuiet
namespace Go.Proofs.Ytiadabmbfpfbjaa
open Go.RowKit

def SetPost (ts : List En) (en : En) (w : World) (e : Ending) (w' : World) : Prop :=
  ∃ ad cap us, e = .returned (.agg #[.slice ad us.length cap]) ∧ SetRel ts en us ∧ EL w.heap.size w' ad us ∧ Below w.heap.size w w' ∧ us.length ≤ ts.length + 1
/-- The same, with the room that there is. -/
def SetPostC (ts : List En) (en : En) (w : World) (e : Ending) (w' : World) : Prop :=
  ∃ ad cap us, e = .returned (.agg #[.slice ad us.length cap]) ∧ SetRel ts en us ∧ EL w.heap.size w' ad us ∧ Below w.heap.size w w' ∧ us.length ≤ ts.length + 1 ∧ us.length ≤ cap
theorem row_room {W : World} {B z : Nat} {e : TypeId} {ad : Option Addr} {n cp : Nat} {xs : List Value} (h : W.ownsRow B e z (.slice ad n cp) n xs) : n ≤ cp := by
  rcases h.2 with ⟨h0, _⟩ | ⟨_, _, _, h0, _, _, h1, _⟩
  · cases h0; exact Nat.le_refl _
  · cases h0; exact h1

set_option maxRecDepth 100000 in
set_option maxHeartbeats 8000000 in
theorem l5SetC_any (a : Option Addr) (cap : Nat) (ts : List En) (en : En) (w : World) (hts : ES w a ts) (hn : ts.length ≤ 1048576) (hA : Asc ts) :
    Calls Try.prog 25 #[.agg #[.slice a ts.length cap], .agg #[.string en.path, .string en.text, .bool en.runs]] w fun e w' => SetPostC ts en w e w' := by
  obtain ⟨i0, hi, hz0, hz1, hzb⟩ := info_parts Try.infoEntry
  have hal : Below w.heap.size w ((((w.alloc (.cells #[.slice a ts.length cap] 25)).alloc (.cells #[.string en.path, .string en.text, .bool en.runs] 37)).alloc (.cells #[.slice none 0 0] 25)).alloc (.cells #[.slice none 0 0] 25)) := ((((Below.refl _ _).alloc (Nat.le_refl _) _).alloc (by simp) _).alloc (by simp; omega) _).alloc (by simp; omega) _
  go_enter Try.func25, Try.ntmps25
  go_wp2_with fail
  have m0 : ((((w.alloc (.cells #[.slice a ts.length cap] 25)).alloc (.cells #[.string en.path, .string en.text, .bool en.runs] 37)).alloc (.cells #[.slice none 0 0] 25)).alloc (.cells #[.slice none 0 0] 25)).cell? ⟨w.heap.size, 0, none⟩ = some (.slice a ts.length cap) := by simp [go_sem]
  have e0 : ((((w.alloc (.cells #[.slice a ts.length cap] 25)).alloc (.cells #[.string en.path, .string en.text, .bool en.runs] 37)).alloc (.cells #[.slice none 0 0] 25)).alloc (.cells #[.slice none 0 0] 25)).cell? ⟨w.heap.size + 1, 0, none⟩ = some (.string en.path) := by simp [go_sem]
  have e1 : ((((w.alloc (.cells #[.slice a ts.length cap] 25)).alloc (.cells #[.string en.path, .string en.text, .bool en.runs] 37)).alloc (.cells #[.slice none 0 0] 25)).alloc (.cells #[.slice none 0 0] 25)).cell? ⟨w.heap.size + 1, 1, none⟩ = some (.string en.text) := by simp [go_sem]
  have e2 : ((((w.alloc (.cells #[.slice a ts.length cap] 25)).alloc (.cells #[.string en.path, .string en.text, .bool en.runs] 37)).alloc (.cells #[.slice none 0 0] 25)).alloc (.cells #[.slice none 0 0] 25)).cell? ⟨w.heap.size + 1, 2, none⟩ = some (.bool en.runs) := by simp [go_sem]
  have k0 : ((((w.alloc (.cells #[.slice a ts.length cap] 25)).alloc (.cells #[.string en.path, .string en.text, .bool en.runs] 37)).alloc (.cells #[.slice none 0 0] 25)).alloc (.cells #[.slice none 0 0] 25)).cell? ⟨w.heap.size + 1 + 1, 0, none⟩ = some (.slice none 0 0) := by simp [go_sem]
  have kf : ((((w.alloc (.cells #[.slice a ts.length cap] 25)).alloc (.cells #[.string en.path, .string en.text, .bool en.runs] 37)).alloc (.cells #[.slice none 0 0] 25)).alloc (.cells #[.slice none 0 0] 25)).frozen? ⟨w.heap.size + 1 + 1, 0, none⟩ = false := by simp [go_sem]
  have o0 : ((((w.alloc (.cells #[.slice a ts.length cap] 25)).alloc (.cells #[.string en.path, .string en.text, .bool en.runs] 37)).alloc (.cells #[.slice none 0 0] 25)).alloc (.cells #[.slice none 0 0] 25)).cell? ⟨w.heap.size + 1 + 1 + 1, 0, none⟩ = some (.slice none 0 0) := by simp [go_sem]
  have of0 : ((((w.alloc (.cells #[.slice a ts.length cap] 25)).alloc (.cells #[.string en.path, .string en.text, .bool en.runs] 37)).alloc (.cells #[.slice none 0 0] 25)).alloc (.cells #[.slice none 0 0] 25)).frozen? ⟨w.heap.size + 1 + 1 + 1, 0, none⟩ = false := by simp [go_sem]
  have os0 : w.heap.size + 1 + 1 + 1 < ((((w.alloc (.cells #[.slice a ts.length cap] 25)).alloc (.cells #[.string en.path, .string en.text, .bool en.runs] 37)).alloc (.cells #[.slice none 0 0] 25)).alloc (.cells #[.slice none 0 0] 25)).heap.size := by simp [go_sem]
  generalize (((w.alloc (.cells #[.slice a ts.length cap] 25)).alloc (.cells #[.string en.path, .string en.text, .bool en.runs] 37)).alloc (.cells #[.slice none 0 0] 25)).alloc (.cells #[.slice none 0 0] 25) = W0 at *
  obtain ⟨ob, hob⟩ : ∃ ob, ob = w.heap.size + 1 + 1 + 1 := ⟨_, rfl⟩
  obtain ⟨g, hg⟩ : ∃ g, g = w.heap.size + 1 + 1 := ⟨_, rfl⟩
  obtain ⟨be, hbe⟩ : ∃ be, be = w.heap.size + 1 := ⟨_, rfl⟩
  obtain ⟨tb, htb⟩ : ∃ tb, tb = w.heap.size := ⟨_, rfl⟩
  rw [← hob] at o0 of0 os0 ⊢
  rw [← hg] at k0 kf ⊢
  rw [← hbe] at e0 e1 e2 ⊢
  rw [← htb] at m0 ⊢
  have HS : Keep (tb = w.heap.size ∧ be = tb + 1 ∧ g = tb + 2 ∧ ob = tb + 3 ∧ ob < W0.heap.size) := ⟨by omega⟩
  have hst0 := OutSt.start o0 of0 os0
  have HA : Keep (Asc ts) := ⟨hA⟩
  clear hob hg hbe htb o0 of0 os0 hA
  go_loopw [6, 7] (fun d i wr => ∃ (k : Nat) (dn : Bool) (v : Value) (us : List En), d = .bool dn ∧ i = .int .i64 k ∧ k ≤ ts.length ∧ Keep (SInv ts en k dn us) ∧ OutSt ob W0 v us wr) (fun _ i _ => ts.length - (intOf i).toNat)
  case atStart => exact ⟨0, false, _, [], rfl, rfl, Nat.zero_le _, ⟨SInv.start ts en⟩, hst0⟩
  case round =>
    clear hst0
    obtain ⟨k, dn, v, us, rfl, rfl, hk, hI, hst⟩ := hrel
    have hul := hI.out.len
    have hbr := hst.below hal (by have := HS.out; omega)
    have hEr := hts.below hbr
    have mr := hst.keep m0 (by have := HS.out; omega) (by have := HS.out; omega)
    have E0 := hst.keep e0 (by have := HS.out; omega) (by have := HS.out; omega)
    have E1 := hst.keep e1 (by have := HS.out; omega) (by have := HS.out; omega)
    have E2 := hst.keep e2 (by have := HS.out; omega) (by have := HS.out; omega)
    have o1 := hst.cell
    by_cases hlt : k < ts.length
    · have hlt' : (k : Int) < ts.length := by omega
      obtain ⟨b, off, rfl, hc⟩ := hEr.at hlt
      obtain ⟨x0, x1, x2⟩ := hc k hlt
      clear hc hEr
      cases hq : (ts[k].path.toList == en.path.toList) with
      | true =>
        have hpe : ts[k].path = en.path := by
          rw [beq_iff_eq, Lib.toList_data, Lib.toList_data] at hq
          exact WideShapes.bytes_inj hq
        have hll : Op.bytesLess ts[k].path.toList en.path.toList = false := by rw [hpe]; exact less_irrefl _
        have hll2 : Op.bytesLess en.path.toList ts[k].path.toList = false := by rw [hpe]; exact less_irrefl _
        have HPE : Keep (ts[k].path = en.path) := ⟨hpe⟩
        clear hpe
        cases dn with
        | true =>
          have HI : Keep (SInv ts en (k + 1) true us) := ⟨hI.out.skip hlt HPE.out⟩
          clear hI
          go_wp2_with fail
          go_quiet (fail)
          have hD : Below wr.heap.size wr (wr.drewN nq) := below_drewN (Below.refl _ _) _
          replace hst := hst.later hD
          replace mr := cell_later hD mr
          replace E0 := cell_later hD E0
          replace E1 := cell_later hD E1
          replace E2 := cell_later hD E2
          replace x0 := cell_later hD x0
          replace x1 := cell_later hD x1
          replace x2 := cell_later hD x2
          replace o1 := cell_later hD o1
          generalize wr.drewN nq = Wa at *
          clear hD
          go_wp2_with fail
          go_quiet (fail)
          have hD : Below Wa.heap.size Wa (Wa.drewN nq) := below_drewN (Below.refl _ _) _
          replace hst := hst.later hD
          replace mr := cell_later hD mr
          replace E0 := cell_later hD E0
          replace E1 := cell_later hD E1
          replace E2 := cell_later hD E2
          replace x0 := cell_later hD x0
          replace x1 := cell_later hD x1
          replace x2 := cell_later hD x2
          replace o1 := cell_later hD o1
          generalize Wa.drewN nq = Wb at *
          clear hD
          go_wp2
          go_roundw
          case rel => exact ⟨k + 1, true, _, _, rfl, by congr 1, hlt, HI, hst⟩
          case measure => simp only [intOf]; omega
        | false =>
          have HI : Keep (SInv ts en (k + 1) true (us ++ [en])) := ⟨(hI.out.put HA.out hlt hll).skip hlt HPE.out⟩
          clear hI
          go_wp2_with fail
          go_quiet (fail)
          have hD : Below wr.heap.size wr (wr.drewN nq) := below_drewN (Below.refl _ _) _
          replace hst := hst.later hD
          replace mr := cell_later hD mr
          replace E0 := cell_later hD E0
          replace E1 := cell_later hD E1
          replace E2 := cell_later hD E2
          replace x0 := cell_later hD x0
          replace x1 := cell_later hD x1
          replace x2 := cell_later hD x2
          replace o1 := cell_later hD o1
          generalize wr.drewN nq = Wa at *
          clear hD
          have hb1 : Below Wa.heap.size Wa (Wa.alloc (.cells #[.string en.path, .string en.text, .bool en.runs] 37)) := (Below.refl _ _).alloc (Nat.le_refl _) _
          go_wp2_with (first
            | (at_builtin; refine wpList_append_lies _ rfl _ _ 23 rfl W0.heap.size 37 i0 _ 3 40 Try.underlying23 hi hz0 hz1 hzb rfl (by decide) v us.length (ecells us) rfl (hst.row.alloc _) ⟨Wa.heap.size, 0, none⟩ 1 1 (ecell en) rfl rfl (news_3 Wa en _ _ rfl) (one_3 en) (by omega) (by unfold maxLen; omega) (by omega) (by have := hst.grown.size; simp; omega) (Wa.heap.size + 1) (by simp) ?_; intro g2 cap2 w2 hown2 hgrow2 hat2 hlt2; obtain ⟨hc2, hf2⟩ := hst.mid hb1 hgrow2))
          replace hst := hst.append hb1 hgrow2 hown2
          clear hc2 hf2 hb1 hgrow2 hown2 hat2 hlt2 o1 mr E0 E1 E2 x0 x1 x2
          have hlen2 : (us ++ [en]).length ≤ 1048578 := by simp; omega
          generalize hv2 : Value.slice (some ⟨g2, 0, none⟩) (us.length + 1) cap2 = v2 at *
          generalize us ++ [en] = us2 at *
          generalize w2.setCell ⟨ob, 0, none⟩ v2 = Wc at *
          have hbr := hst.below hal (by have := HS.out; omega)
          obtain ⟨b', off', hbo, hc⟩ := (hts.below hbr).at hlt
          cases hbo
          obtain ⟨x0, x1, x2⟩ := hc k hlt
          have mr := hst.keep m0 (by have := HS.out; omega) (by have := HS.out; omega)
          have E0 := hst.keep e0 (by have := HS.out; omega) (by have := HS.out; omega)
          have E1 := hst.keep e1 (by have := HS.out; omega) (by have := HS.out; omega)
          have E2 := hst.keep e2 (by have := HS.out; omega) (by have := HS.out; omega)
          have o1 := hst.cell
          clear hc
          go_wp2_with fail
          go_quiet (fail)
          have hD : Below Wc.heap.size Wc (Wc.drewN nq) := below_drewN (Below.refl _ _) _
          replace hst := hst.later hD
          replace mr := cell_later hD mr
          replace E0 := cell_later hD E0
          replace E1 := cell_later hD E1
          replace E2 := cell_later hD E2
          replace x0 := cell_later hD x0
          replace x1 := cell_later hD x1
          replace x2 := cell_later hD x2
          replace o1 := cell_later hD o1
          generalize Wc.drewN nq = Wd at *
          clear hD
          go_wp2
          go_roundw
          case rel => exact ⟨k + 1, true, _, _, rfl, by congr 1, hlt, HI, hst⟩
          case measure => simp only [intOf]; omega
      | false =>
        have hpe : ts[k].path ≠ en.path := fun e => by rw [e] at hq; simp at hq
        have HPE : Keep (ts[k].path ≠ en.path) := ⟨hpe⟩
        clear hpe
        have hqc : (en.path.toList == ts[k].path.toList) = false := by
          rw [Bool.eq_false_iff] at hq ⊢
          intro h; apply hq; rw [beq_iff_eq] at h ⊢; exact h.symm
        cases dn with
        | true =>
          have HI : Keep (SInv ts en (k + 1) true (us ++ [ts[k]])) := ⟨hI.out.app HA.out hlt (fun h => by cases h) HPE.out⟩
          clear hI
          go_wp2_with fail
          go_quiet (fail)
          have hD : Below wr.heap.size wr (wr.drewN nq) := below_drewN (Below.refl _ _) _
          replace hst := hst.later hD
          replace mr := cell_later hD mr
          replace E0 := cell_later hD E0
          replace E1 := cell_later hD E1
          replace E2 := cell_later hD E2
          replace x0 := cell_later hD x0
          replace x1 := cell_later hD x1
          replace x2 := cell_later hD x2
          replace o1 := cell_later hD o1
          generalize wr.drewN nq = Wa at *
          clear hD
          go_wp2_with fail
          go_quiet (fail)
          have hD : Below Wa.heap.size Wa (Wa.drewN nq) := below_drewN (Below.refl _ _) _
          replace hst := hst.later hD
          replace mr := cell_later hD mr
          replace E0 := cell_later hD E0
          replace E1 := cell_later hD E1
          replace E2 := cell_later hD E2
          replace x0 := cell_later hD x0
          replace x1 := cell_later hD x1
          replace x2 := cell_later hD x2
          replace o1 := cell_later hD o1
          generalize Wa.drewN nq = Wb at *
          clear hD
          have hb1 : Below Wb.heap.size Wb ((Wb.alloc (.cells #[.string ts[k].path, .string ts[k].text, .bool ts[k].runs] 37)).drew) := ((Below.refl _ _).alloc (Nat.le_refl _) _).drew
          have o1a : ∀ o, (Wb.alloc o).cell? ⟨ob, 0, none⟩ = some v := fun o => cell_later ((Below.refl _ _).alloc (Nat.le_refl _) _) o1
          go_wp2_with fail
          go_region_law (refine step_append_lies _ rfl _ _ 23 rfl W0.heap.size 37 i0 _ 3 40 Try.underlying23 hi hz0 hz1 hzb rfl (by decide) v us.length (ecells us) rfl (by exact owns_below hst.row hb1) ⟨Wb.heap.size, 0, none⟩ 1 1 (ecell ts[k]) rfl rfl (by exact news_3 _ _ _ _ (by simp)) (by exact one_3 _) (by omega) (by unfold maxLen; omega) (by omega) (by have := hst.grown.size; simp; omega) (Wb.heap.size + 1) (by simp) ?_; intro g3 cap3 w3 hown3 hgrow3 hat3 hlt3; obtain ⟨hc3, hf3⟩ := hst.mid hb1 hgrow3)
          all_goals
            have hst3 := hst.append hb1 hgrow3 hown3
            have HI3 : Keep (SInv ts en (k + 1) true (us ++ [ts[k]])) := ⟨HI.out⟩
            clear hst hb1 hgrow3 hown3 hat3 hlt3 hc3 hf3 o1 o1a mr E0 E1 E2 x0 x1 x2
            go_wp2
            go_roundw
            case rel => exact ⟨k + 1, _, _, _, rfl, by congr 1, hlt, HI3, hst3⟩
            case measure => simp only [intOf]; omega
        | false =>
          cases hll : Op.bytesLess ts[k].path.toList en.path.toList with
          | true =>
            have hll2 : Op.bytesLess en.path.toList ts[k].path.toList = false := by
              cases h : Op.bytesLess en.path.toList ts[k].path.toList with
              | false => rfl
              | true => have := less_trans hll h; rw [less_irrefl] at this; cases this
            have HI : Keep (SInv ts en (k + 1) false (us ++ [ts[k]])) := ⟨hI.out.app HA.out hlt (fun _ => hll) HPE.out⟩
            clear hI
            go_wp2_with fail
            go_quiet (fail)
            have hD : Below wr.heap.size wr (wr.drewN nq) := below_drewN (Below.refl _ _) _
            replace hst := hst.later hD
            replace mr := cell_later hD mr
            replace E0 := cell_later hD E0
            replace E1 := cell_later hD E1
            replace E2 := cell_later hD E2
            replace x0 := cell_later hD x0
            replace x1 := cell_later hD x1
            replace x2 := cell_later hD x2
            replace o1 := cell_later hD o1
            generalize wr.drewN nq = Wa at *
            clear hD
            go_wp2_with fail
            go_quiet (fail)
            have hD : Below Wa.heap.size Wa (Wa.drewN nq) := below_drewN (Below.refl _ _) _
            replace hst := hst.later hD
            replace mr := cell_later hD mr
            replace E0 := cell_later hD E0
            replace E1 := cell_later hD E1
            replace E2 := cell_later hD E2
            replace x0 := cell_later hD x0
            replace x1 := cell_later hD x1
            replace x2 := cell_later hD x2
            replace o1 := cell_later hD o1
            generalize Wa.drewN nq = Wb at *
            clear hD
            have hb1 : Below Wb.heap.size Wb ((Wb.alloc (.cells #[.string ts[k].path, .string ts[k].text, .bool ts[k].runs] 37)).drew) := ((Below.refl _ _).alloc (Nat.le_refl _) _).drew
            have o1a : ∀ o, (Wb.alloc o).cell? ⟨ob, 0, none⟩ = some v := fun o => cell_later ((Below.refl _ _).alloc (Nat.le_refl _) _) o1
            go_wp2_with fail
            go_region_law (refine step_append_lies _ rfl _ _ 23 rfl W0.heap.size 37 i0 _ 3 40 Try.underlying23 hi hz0 hz1 hzb rfl (by decide) v us.length (ecells us) rfl (by exact owns_below hst.row hb1) ⟨Wb.heap.size, 0, none⟩ 1 1 (ecell ts[k]) rfl rfl (by exact news_3 _ _ _ _ (by simp)) (by exact one_3 _) (by omega) (by unfold maxLen; omega) (by omega) (by have := hst.grown.size; simp; omega) (Wb.heap.size + 1) (by simp) ?_; intro g3 cap3 w3 hown3 hgrow3 hat3 hlt3; obtain ⟨hc3, hf3⟩ := hst.mid hb1 hgrow3)
            all_goals
              have hst3 := hst.append hb1 hgrow3 hown3
              have HI3 : Keep (SInv ts en (k + 1) false (us ++ [ts[k]])) := ⟨HI.out⟩
              clear hst hb1 hgrow3 hown3 hat3 hlt3 hc3 hf3 o1 o1a mr E0 E1 E2 x0 x1 x2
              go_wp2
              go_roundw
              case rel => exact ⟨k + 1, _, _, _, rfl, by congr 1, hlt, HI3, hst3⟩
              case measure => simp only [intOf]; omega
          | false =>
            have hll2 : Op.bytesLess en.path.toList ts[k].path.toList = true := less_of hll HPE.out
            have HI : Keep (SInv ts en (k + 1) true (us ++ [en] ++ [ts[k]])) := ⟨(hI.out.put HA.out hlt hll).app HA.out hlt (fun h => by cases h) HPE.out⟩
            clear hI
            go_wp2_with fail
            go_quiet (fail)
            have hD : Below wr.heap.size wr (wr.drewN nq) := below_drewN (Below.refl _ _) _
            replace hst := hst.later hD
            replace mr := cell_later hD mr
            replace E0 := cell_later hD E0
            replace E1 := cell_later hD E1
            replace E2 := cell_later hD E2
            replace x0 := cell_later hD x0
            replace x1 := cell_later hD x1
            replace x2 := cell_later hD x2
            replace o1 := cell_later hD o1
            generalize wr.drewN nq = Wa at *
            clear hD
            have hb1 : Below Wa.heap.size Wa (Wa.alloc (.cells #[.string en.path, .string en.text, .bool en.runs] 37)) := (Below.refl _ _).alloc (Nat.le_refl _) _
            go_wp2_with (first
              | (at_builtin; refine wpList_append_lies _ rfl _ _ 23 rfl W0.heap.size 37 i0 _ 3 40 Try.underlying23 hi hz0 hz1 hzb rfl (by decide) v us.length (ecells us) rfl (hst.row.alloc _) ⟨Wa.heap.size, 0, none⟩ 1 1 (ecell en) rfl rfl (news_3 Wa en _ _ rfl) (one_3 en) (by omega) (by unfold maxLen; omega) (by omega) (by have := hst.grown.size; simp; omega) (Wa.heap.size + 1) (by simp) ?_; intro g2 cap2 w2 hown2 hgrow2 hat2 hlt2; obtain ⟨hc2, hf2⟩ := hst.mid hb1 hgrow2))
            replace hst := hst.append hb1 hgrow2 hown2
            clear hc2 hf2 hb1 hgrow2 hown2 hat2 hlt2 o1 mr E0 E1 E2 x0 x1 x2
            have hlen2 : (us ++ [en]).length ≤ 1048578 := by simp; omega
            generalize hv2 : Value.slice (some ⟨g2, 0, none⟩) (us.length + 1) cap2 = v2 at *
            generalize us ++ [en] = us2 at *
            generalize w2.setCell ⟨ob, 0, none⟩ v2 = Wc at *
            have hbr := hst.below hal (by have := HS.out; omega)
            obtain ⟨b', off', hbo, hc⟩ := (hts.below hbr).at hlt
            cases hbo
            obtain ⟨x0, x1, x2⟩ := hc k hlt
            have mr := hst.keep m0 (by have := HS.out; omega) (by have := HS.out; omega)
            have E0 := hst.keep e0 (by have := HS.out; omega) (by have := HS.out; omega)
            have E1 := hst.keep e1 (by have := HS.out; omega) (by have := HS.out; omega)
            have E2 := hst.keep e2 (by have := HS.out; omega) (by have := HS.out; omega)
            have o1 := hst.cell
            clear hc
            go_wp2_with fail
            go_quiet (fail)
            have hD : Below Wc.heap.size Wc (Wc.drewN nq) := below_drewN (Below.refl _ _) _
            replace hst := hst.later hD
            replace mr := cell_later hD mr
            replace E0 := cell_later hD E0
            replace E1 := cell_later hD E1
            replace E2 := cell_later hD E2
            replace x0 := cell_later hD x0
            replace x1 := cell_later hD x1
            replace x2 := cell_later hD x2
            replace o1 := cell_later hD o1
            generalize Wc.drewN nq = Wd at *
            clear hD
            have hb1 : Below Wd.heap.size Wd ((Wd.alloc (.cells #[.string ts[k].path, .string ts[k].text, .bool ts[k].runs] 37)).drew) := ((Below.refl _ _).alloc (Nat.le_refl _) _).drew
            have o1a : ∀ o, (Wd.alloc o).cell? ⟨ob, 0, none⟩ = some v2 := fun o => cell_later ((Below.refl _ _).alloc (Nat.le_refl _) _) o1
            go_wp2_with fail
            go_region_law (refine step_append_lies _ rfl _ _ 23 rfl W0.heap.size 37 i0 _ 3 40 Try.underlying23 hi hz0 hz1 hzb rfl (by decide) v2 us2.length (ecells us2) rfl (by exact owns_below hst.row hb1) ⟨Wd.heap.size, 0, none⟩ 1 1 (ecell ts[k]) rfl rfl (by exact news_3 _ _ _ _ (by simp)) (by exact one_3 _) (by omega) (by unfold maxLen; omega) (by omega) (by have := hst.grown.size; simp; omega) (Wd.heap.size + 1) (by simp) ?_; intro g3 cap3 w3 hown3 hgrow3 hat3 hlt3; obtain ⟨hc3, hf3⟩ := hst.mid hb1 hgrow3)
            all_goals
              have hst3 := hst.append hb1 hgrow3 hown3
              have HI3 : Keep (SInv ts en (k + 1) true (us2 ++ [ts[k]])) := ⟨HI.out⟩
              clear hst hb1 hgrow3 hown3 hat3 hlt3 hc3 hf3 o1 o1a mr E0 E1 E2 x0 x1 x2
              go_wp2
              go_roundw
              case rel => exact ⟨k + 1, _, _, _, rfl, by congr 1, hlt, HI3, hst3⟩
              case measure => simp only [intOf]; omega
    · obtain rfl : k = ts.length := by omega
      have k2 := hst.keep k0 (by have := HS.out; omega) (by have := HS.out; omega)
      have kf2 : wr.frozen? ⟨g, 0, none⟩ = false := frozen_of (hst.grown.block g (by have := HS.out; omega) (by have := HS.out; simp; omega)) kf
      have hgw : w.heap.size ≤ g := by have := HS.out; omega
      have hgW : g < W0.heap.size := by have := HS.out; omega
      clear hEr
      cases dn with
      | true =>
        have HR : Keep (SetRel ts en us) := ⟨hI.out.done⟩
        obtain ⟨ad, cap2, rfl⟩ := owns_slice hst.row
        have hel := el_of_row hst.row
        have hroom := row_room hst.row
        have hel2 := (hel.grown (row := some g) (grown_set0 wr g 0 (.slice ad us.length cap2)) (fun j _ hj _ e => by cases e; omega)).mono hal.size
        clear hI hel
        go_wp2
        refine bodyPost_ret (v := .agg #[.slice ad us.length cap2]) ?_ rfl ⟨ad, cap2, us, rfl, HR.out, hel2, hbr.setCell (p := ⟨g, 0, none⟩) hgw _, hul, hroom⟩
        go_light
        simp [results, Try.results25, go_sem, k2]
      | false =>
        have HR : Keep (SetRel ts en (us ++ [en])) := ⟨hI.out.last HA.out⟩
        have hul2 : us.length ≤ ts.length := by
          rcases hI.out with ⟨_, rfl, _⟩ | ⟨h, _⟩
          · simp
          · cases h
        clear hI
        have hgo : g ≠ ob := by have := HS.out; omega
        have hgo1 : ¬ g = ob := hgo
        have hgo2 : ¬ ob = g := fun e => hgo e.symm
        have hb1 : Below wr.heap.size wr (wr.alloc (.cells #[.string en.path, .string en.text, .bool en.runs] 37)) := (Below.refl _ _).alloc (Nat.le_refl _) _
        go_wp2_with (first
          | (at_builtin; refine wpList_append_lies _ rfl _ _ 23 rfl W0.heap.size 37 i0 _ 3 40 Try.underlying23 hi hz0 hz1 hzb rfl (by decide) v us.length (ecells us) rfl (hst.row.alloc _) ⟨wr.heap.size, 0, none⟩ 1 1 (ecell en) rfl rfl (news_3 wr en _ _ rfl) (one_3 en) (by omega) (by unfold maxLen; omega) (by omega) (by have := hst.grown.size; simp; omega) (wr.heap.size + 1) (by simp) ?_; intro g2 cap2 w2 hown2 hgrow2 hat2 hlt2; obtain ⟨hc2, hf2⟩ := hst.mid hb1 hgrow2; have hB2 := hst.midBlock hb1 hgrow2 hgW hgo; have k3 := (World.cell?_of_block hB2).trans k0; have kf3 := frozen_of hB2 kf))
        replace hst := hst.append hb1 hgrow2 hown2
        have hbr3 := hst.below hal (by have := HS.out; omega)
        have hel := el_of_row (us := us ++ [en]) (ad := some ⟨g2, 0, none⟩) (cap := cap2) (by have := hst.row; rw [List.length_append] at this ⊢; exact this)
        have hel2 := (hel.grown (row := some g) (grown_set0 _ g 0 (.slice (some ⟨g2, 0, none⟩) (us.length + 1) cap2)) (fun j _ hj _ e => by cases e; omega)).mono hal.size
        have hbr4 := hbr3.setCell (p := ⟨g, 0, none⟩) hgw (.slice (some ⟨g2, 0, none⟩) (us.length + 1) cap2)
        refine bodyPost_ret (v := .agg #[.slice (some ⟨g2, 0, none⟩) (us ++ [en]).length cap2]) ?_ rfl ⟨some ⟨g2, 0, none⟩, cap2, us ++ [en], rfl, HR.out, hel2, hbr4, by simp; omega, by have := row_room hown2; simp; omega⟩
        go_light
        simp [results, Try.results25, go_sem, k3]

theorem l5Set_any (a : Option Addr) (cap : Nat) (ts : List En) (en : En) (w : World) (hts : ES w a ts) (hn : ts.length ≤ 1048576) (hA : Asc ts) :
    Calls Try.prog 25 #[.agg #[.slice a ts.length cap], .agg #[.string en.path, .string en.text, .bool en.runs]] w fun e w' => SetPost ts en w e w' :=
  (l5SetC_any a cap ts en w hts hn hA).mono (fun _ _ ⟨ad, cp, us, h1, h2, h3, h4, h5, _⟩ => ⟨ad, cp, us, h1, h2, h3, h4, h5⟩)
end Go.Proofs.Ytiadabmbfpfbjaa
