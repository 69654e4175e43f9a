/-
  StrikeN, PutP, SetS, PutS, DrawTr, AppP, LyS, DecT, DecT2, DrawMs, DrawMr: laid as one text.
-/
import Derived.Test.YtjiafjdjocmodaaGreatTreeMem
import Derived.Test.YtjiafjdjocmodaaGreatZbb
import Derived.Test.YtjiafjdjocmodaaGreatEntL
import Derived.Test.YtjiafjdjocmodaaGreatSetP
import Derived.Test.YtjiafjdjocmodaaGreatOutL
import Derived.Deep.QuietTactic
import Derived.BigQuiet
import Derived.Test.YtjiafjdjocmodaaGreatZbd
import Derived.Test.YtjiafjdjocmodaaGreatLaterQ
import Derived.Test.YtjiafjdjocmodaaGreatDrawPth
import Derived.Test.YtjiafjdjocmodaaGreatChangesB
import Derived.Deep.RegionLaw
import Derived.Test.YtjiafjdjocmodaaGreatZba
import Derived.Test.YtjiafjdjocmodaaGreatRegX
import Derived.Test.YtjiafjdjocmodaaGreatSplitP
namespace Go.Proofs.YtjiafjdjocmodaaGreat
open Go.RowKit

def setN (W : World) (b : Nat) : World := ((W.setCell ⟨b, 0, none⟩ (.bool false)).setCell ⟨b, 1, none⟩ (.string ⟨#[]⟩)).setCell ⟨b, 2, none⟩ (.bool false)
theorem setN_same {W : World} {b mb : Nat} {f : Option (ByteArray × Bool)} (h : W.heap[b]? = some (nodeObj f mb)) : (setN W b).heap[b]? = some (nodeObj none mb) := by
  have h' : ∃ x y z, W.heap[b]? = some (.cells #[x, y, z, .map (some mb)] 128) := by
    cases f with
    | none => exact ⟨_, _, _, h⟩
    | some g => obtain ⟨t', r'⟩ := g; exact ⟨_, _, _, h⟩
  obtain ⟨x, y, z, h'⟩ := h'
  unfold setN World.setCell
  simp [Array.getElem?_modify, h', nodeObj]
theorem setN_other {W : World} {b k : Nat} (h : k ≠ b) : (setN W b).heap[k]? = W.heap[k]? := by
  unfold setN
  rw [Below.heap_setCell _ _ _ _ (show k ≠ b from h), Below.heap_setCell _ _ _ _ (show k ≠ b from h), Below.heap_setCell _ _ _ _ (show k ≠ b from h)]
theorem setN_below {W w0 : World} {B b : Nat} (h : Below B w0 W) (hb : B ≤ b) : Below B w0 (setN W b) :=
  ((h.setCell (p := ⟨b, 0, none⟩) hb _).setCell (p := ⟨b, 1, none⟩) hb _).setCell (p := ⟨b, 2, none⟩) hb _

theorem TreeM.strike {lo N : Nat} {W : World} {β : Way → Option Nat} {μ : Way → Nat} {φ : Way → Option (ByteArray × Bool)} {p : Way} {b : Nat} (h : TreeM lo N W β μ φ) (hb : β p = some b) : TreeM lo N (setN W b) β μ (upd φ p none) := by
  refine ⟨fun q bq hq => ?_, h.inj, h.minj, h.up, h.root⟩
  obtain ⟨h1, h2, h3, h4⟩ := h.node q bq hq
  have hm : μ q ≠ b := fun e => by
    obtain ⟨es, cl, h5⟩ := h4.obj
    obtain ⟨h6, _⟩ := h.node p b hb
    rw [e, h6] at h5
    unfold nodeObj at h5
    split at h5 <;> cases h5
  refine ⟨?_, h2, h3, h4.block (setN_other hm)⟩
  by_cases e : q = p
  · subst e
    rw [hb] at hq
    cases hq
    rw [upd_same]
    exact setN_same h1
  · rw [upd_other _ _ e]
    exact (setN_other (fun e' => e (h.inj q p b (by rw [← e']; exact hq) hb))).trans h1
end Go.Proofs.YtjiafjdjocmodaaGreat

namespace Go.Proofs.YtjiafjdjocmodaaGreat
open Go.RowKit

/-- What is in the way of an entry. -/
def InWay (ts : List En) (e : En) : Prop := ∃ x ∈ ts, Begins x.path e.path ∨ Begins e.path x.path

/-- What Put gives. -/
def PutR (ts : List En) (e : En) (us : List En) (c : Int) : Prop :=
  (¬ ValidTs ts ∧ us = [] ∧ c = 1) ∨ (ValidTs ts ∧ enOk e = false ∧ us = [] ∧ c = 2) ∨ (ValidTs ts ∧ enOk e = true ∧ InWay ts e ∧ us = [] ∧ c = 3) ∨
  (ValidTs ts ∧ enOk e = true ∧ ¬ InWay ts e ∧ ∃ vs, SetRel ts e vs ∧ ((100 < vs.length ∧ us = [] ∧ c = 4) ∨ (vs.length ≤ 100 ∧ us = vs ∧ c = 0)))

theorem put_one {ts : List En} {e : En} {us us' : List En} {c c' : Int} (h : PutR ts e us c) (h' : PutR ts e us' c') : us = us' ∧ c = c' := by
  rcases h with ⟨h1, rfl, rfl⟩ | ⟨h1, h2, rfl, rfl⟩ | ⟨h1, h2, h3, rfl, rfl⟩ | ⟨h1, h2, h3, vs, h4, h5⟩ <;>
    rcases h' with ⟨g1, rfl, rfl⟩ | ⟨g1, g2, rfl, rfl⟩ | ⟨g1, g2, g3, rfl, rfl⟩ | ⟨g1, g2, g3, vs', g4, g5⟩ <;>
    first | exact ⟨rfl, rfl⟩ | exact absurd g1 h1 | exact absurd h1 g1 | exact absurd (h2.symm.trans g2) (by decide) | exact absurd g3 h3 | exact absurd h3 g3 | skip
  obtain rfl := h4.one g4
  rcases h5 with ⟨h5, rfl, rfl⟩ | ⟨h5, rfl, rfl⟩ <;> rcases g5 with ⟨g5, rfl, rfl⟩ | ⟨g5, rfl, rfl⟩ <;> first | exact ⟨rfl, rfl⟩ | omega

theorem put_few {ts : List En} {e : En} {us : List En} {c : Int} (h : PutR ts e us c) : us.length ≤ 100 := by
  rcases h with ⟨_, rfl, _⟩ | ⟨_, _, rfl, _⟩ | ⟨_, _, _, rfl, _⟩ | ⟨_, _, _, vs, _, ⟨_, rfl, _⟩ | ⟨h, rfl, _⟩⟩
  · simp
  · simp
  · simp
  · simp
  · exact h

def PutPost (ts : List En) (en : En) (w : World) (e : Ending) (w' : World) : Prop := ∃ us c, PutR ts en us c ∧ TreeR us c w.heap.size e w' ∧ Below w.heap.size w w'

theorem upd_none {φ : Way → Option (ByteArray × Bool)} {p : Way} (h : φ p = none) : upd φ p none = φ := by
  funext q
  by_cases e : q = p
  · subst e; rw [upd_same, h]
  · exact upd_other _ _ e

/-- What is in the way of an entry, in the tree. -/
theorem blocked_set {ts : List En} {β : Way → Option Nat} {φ : Way → Option (ByteArray × Bool)} (h : Shape ts β φ) (e : En) :
    Blocked β (upd φ (partsB e.path) none) (partsB e.path) ↔ InWay ts e := by
  constructor
  · rintro (⟨q, h1, h2, h3⟩ | h1 | ⟨x, h1⟩)
    · rw [upd_other _ _ h2] at h3
      obtain ⟨e', he, rfl⟩ := (h.files q).1 h3
      exact ⟨e', he, .inl (begins_iff.2 ⟨h1, h2⟩)⟩
    · rw [upd_same] at h1; exact absurd rfl h1
    · rcases (h.nodes _).1 h1 with h2 | ⟨e', he, h2⟩
      · simp at h2
      · exact ⟨e', he, .inr (begins_iff.2 ⟨(List.prefix_append _ [x]).trans h2, fun e1 => by rw [← e1] at h2; have := h2.length_le; simp at this; omega⟩)⟩
  · rintro ⟨e', he, hb | hb⟩
    · obtain ⟨h1, h2⟩ := begins_iff.1 hb
      refine .inl ⟨_, h1, h2, ?_⟩
      rw [upd_other _ _ h2]
      exact (h.files _).2 ⟨e', he, rfl⟩
    · obtain ⟨⟨t, ht⟩, h2⟩ := begins_iff.1 hb
      cases t with
      | nil => exact absurd (by rw [← ht]; simp) h2
      | cons x t => exact .inr (.inr ⟨x, (h.nodes _).2 (.inr ⟨e', he, ⟨t, by rw [← ht]; simp⟩⟩)⟩)

theorem GoodT.lay {K : Nat} {β β' : Way → Option Nat} {φ : Way → Option (ByteArray × Bool)} (h : GoodT K β φ) {p : ByteArray} (hp : pathOk pathB p = true) {t : ByteArray} {r : Bool} (ht : t.size ≤ 1500) (hno : ¬ Blocked β φ (partsB p)) (hβ : ∀ q, β' q ≠ none ↔ β q ≠ none ∨ q <+: partsB p) :
    GoodT (K + 1) β' (upd φ (partsB p) (some (t, r))) := by
  obtain ⟨hl, hx⟩ := path_parts hp
  have hφ : ∀ q, upd φ (partsB p) (some (t, r)) q ≠ none → q = partsB p ∨ φ q ≠ none := fun q hq => by
    by_cases e : q = partsB p
    · exact .inl e
    · rw [upd_other _ _ e] at hq; exact .inr hq
  obtain ⟨F, hF, hm⟩ := h.few
  refine ⟨fun q x hq => ?_, fun q hq => ?_, fun q x hq => ?_, fun q x hq => ?_, fun q hq => ?_, fun q t' r' hq => ?_, partsB p :: F, by simp; omega, fun q hq => ?_⟩
  · rcases (hβ _).1 hq with h1 | h1
    · exact h.name q x h1
    · exact hx x (h1.subset (by simp))
  · rcases (hβ _).1 hq with h1 | h1
    · exact h.deep q h1
    · exact Nat.le_trans h1.length_le hl
  · rcases (hβ _).1 hq with h1 | h1
    · exact (hβ _).2 (.inl (h.up q x h1))
    · exact (hβ _).2 (.inr ((List.prefix_append q _).trans h1))
  · cases hc : β' (q ++ [x]) with
    | none => rfl
    | some b =>
      exfalso
      rcases (hβ (q ++ [x])).1 (by rw [hc]; simp) with h1 | h1
      · rcases hφ q hq with rfl | h2
        · exact hno (.inr (.inr ⟨x, h1⟩))
        · exact h1 (h.leaf q x h2)
      · rcases hφ q hq with rfl | h2
        · have := h1.length_le; simp at this; omega
        · exact hno (.inl ⟨q, (List.prefix_append q _).trans h1, fun e => by rw [e] at h1; have := h1.length_le; simp at this; omega, h2⟩)
  · rcases hφ q hq with rfl | h2
    · exact (hβ _).2 (.inr (List.prefix_refl _))
    · exact (hβ _).2 (.inl (h.node q h2))
  · by_cases e : q = partsB p
    · subst e
      rw [upd_same] at hq
      injection hq with hq
      injection hq with h1 h2
      rw [← h1]; exact ht
    · rw [upd_other _ _ e] at hq
      exact h.text q t' r' hq
  · rcases hφ q hq with rfl | h2
    · simp
    · exact List.mem_cons_of_mem _ (hm q h2)

theorem told_set {ts : List En} {β : Way → Option Nat} {φ : Way → Option (ByteArray × Bool)} (hS : Shape ts β φ) {e : En} {us : List En} (h : Told (upd (upd φ (partsB e.path) none) (partsB e.path) (some (e.text, e.runs))) [] [] [] us) : SetRel ts e us := by
  refine ⟨h.asc, fun x => ?_⟩
  rw [told_mem h, List.nil_append]
  by_cases e1 : x.path = e.path
  · rw [e1, upd_same]
    constructor
    · intro h1
      injection h1 with h1
      injection h1 with h2 h3
      left
      cases x; cases e
      simp_all
    · rintro (rfl | ⟨_, h1⟩)
      · rfl
      · exact absurd rfl h1
  · rw [upd_other _ _ (fun e2 => e1 (partsB_inj e2)), upd_other _ _ (fun e2 => e1 (partsB_inj e2)), tells_iff hS]
    constructor
    · intro h1; exact .inr ⟨h1, e1⟩
    · rintro (rfl | ⟨h1, _⟩)
      · exact absurd rfl e1
      · exact h1
end Go.Proofs.YtjiafjdjocmodaaGreat

namespace Go.Proofs.YtjiafjdjocmodaaGreat
open Go.RowKit

def SetPost (ts : List En) (en : En) (w : World) (e : Ending) (w' : World) : Prop :=
  ∃ ad cap us, e = .returned (.agg #[.slice ad us.length cap]) ∧ SetRel ts en us ∧ EL w.heap.size w' ad us ∧ Below w.heap.size w w' ∧ us.length ≤ ts.length + 1
/-- The same, with the room that there is. -/
def SetPostC (ts : List En) (en : En) (w : World) (e : Ending) (w' : World) : Prop :=
  ∃ ad cap us, e = .returned (.agg #[.slice ad us.length cap]) ∧ SetRel ts en us ∧ EL w.heap.size w' ad us ∧ Below w.heap.size w w' ∧ us.length ≤ ts.length + 1 ∧ us.length ≤ cap
theorem row_room {W : World} {B z : Nat} {e : TypeId} {ad : Option Addr} {n cp : Nat} {xs : List Value} (h : W.ownsRow B e z (.slice ad n cp) n xs) : n ≤ cp := by
  rcases h.2 with ⟨h0, _⟩ | ⟨_, _, _, h0, _, _, h1, _⟩
  · cases h0; exact Nat.le_refl _
  · cases h0; exact h1

set_option maxRecDepth 100000 in
set_option maxHeartbeats 8000000 in
theorem l5SetC_any (a : Option Addr) (cap : Nat) (ts : List En) (en : En) (w : World) (hts : ES w a ts) (hn : ts.length ≤ 1048576) (hA : Asc ts) :
    Calls Tryz.prog 24 #[.agg #[.slice a ts.length cap], .agg #[.string en.path, .string en.text, .bool en.runs]] w fun e w' => SetPostC ts en w e w' := by
  obtain ⟨i0, hi, hz0, hz1, hzb⟩ := info_parts Tryz.infoEntry
  have hal : Below w.heap.size w ((((w.alloc (.cells #[.slice a ts.length cap] 25)).alloc (.cells #[.string en.path, .string en.text, .bool en.runs] 55)).alloc (.cells #[.slice none 0 0] 25)).alloc (.cells #[.slice none 0 0] 25)) := ((((Below.refl _ _).alloc (Nat.le_refl _) _).alloc (by simp) _).alloc (by simp; omega) _).alloc (by simp; omega) _
  go_enter Tryz.func24, Tryz.ntmps24
  go_wp2_with fail
  have m0 : ((((w.alloc (.cells #[.slice a ts.length cap] 25)).alloc (.cells #[.string en.path, .string en.text, .bool en.runs] 55)).alloc (.cells #[.slice none 0 0] 25)).alloc (.cells #[.slice none 0 0] 25)).cell? ⟨w.heap.size, 0, none⟩ = some (.slice a ts.length cap) := by simp [go_sem]
  have e0 : ((((w.alloc (.cells #[.slice a ts.length cap] 25)).alloc (.cells #[.string en.path, .string en.text, .bool en.runs] 55)).alloc (.cells #[.slice none 0 0] 25)).alloc (.cells #[.slice none 0 0] 25)).cell? ⟨w.heap.size + 1, 0, none⟩ = some (.string en.path) := by simp [go_sem]
  have e1 : ((((w.alloc (.cells #[.slice a ts.length cap] 25)).alloc (.cells #[.string en.path, .string en.text, .bool en.runs] 55)).alloc (.cells #[.slice none 0 0] 25)).alloc (.cells #[.slice none 0 0] 25)).cell? ⟨w.heap.size + 1, 1, none⟩ = some (.string en.text) := by simp [go_sem]
  have e2 : ((((w.alloc (.cells #[.slice a ts.length cap] 25)).alloc (.cells #[.string en.path, .string en.text, .bool en.runs] 55)).alloc (.cells #[.slice none 0 0] 25)).alloc (.cells #[.slice none 0 0] 25)).cell? ⟨w.heap.size + 1, 2, none⟩ = some (.bool en.runs) := by simp [go_sem]
  have k0 : ((((w.alloc (.cells #[.slice a ts.length cap] 25)).alloc (.cells #[.string en.path, .string en.text, .bool en.runs] 55)).alloc (.cells #[.slice none 0 0] 25)).alloc (.cells #[.slice none 0 0] 25)).cell? ⟨w.heap.size + 1 + 1, 0, none⟩ = some (.slice none 0 0) := by simp [go_sem]
  have kf : ((((w.alloc (.cells #[.slice a ts.length cap] 25)).alloc (.cells #[.string en.path, .string en.text, .bool en.runs] 55)).alloc (.cells #[.slice none 0 0] 25)).alloc (.cells #[.slice none 0 0] 25)).frozen? ⟨w.heap.size + 1 + 1, 0, none⟩ = false := by simp [go_sem]
  have o0 : ((((w.alloc (.cells #[.slice a ts.length cap] 25)).alloc (.cells #[.string en.path, .string en.text, .bool en.runs] 55)).alloc (.cells #[.slice none 0 0] 25)).alloc (.cells #[.slice none 0 0] 25)).cell? ⟨w.heap.size + 1 + 1 + 1, 0, none⟩ = some (.slice none 0 0) := by simp [go_sem]
  have of0 : ((((w.alloc (.cells #[.slice a ts.length cap] 25)).alloc (.cells #[.string en.path, .string en.text, .bool en.runs] 55)).alloc (.cells #[.slice none 0 0] 25)).alloc (.cells #[.slice none 0 0] 25)).frozen? ⟨w.heap.size + 1 + 1 + 1, 0, none⟩ = false := by simp [go_sem]
  have os0 : w.heap.size + 1 + 1 + 1 < ((((w.alloc (.cells #[.slice a ts.length cap] 25)).alloc (.cells #[.string en.path, .string en.text, .bool en.runs] 55)).alloc (.cells #[.slice none 0 0] 25)).alloc (.cells #[.slice none 0 0] 25)).heap.size := by simp [go_sem]
  generalize (((w.alloc (.cells #[.slice a ts.length cap] 25)).alloc (.cells #[.string en.path, .string en.text, .bool en.runs] 55)).alloc (.cells #[.slice none 0 0] 25)).alloc (.cells #[.slice none 0 0] 25) = W0 at *
  obtain ⟨ob, hob⟩ : ∃ ob, ob = w.heap.size + 1 + 1 + 1 := ⟨_, rfl⟩
  obtain ⟨g, hg⟩ : ∃ g, g = w.heap.size + 1 + 1 := ⟨_, rfl⟩
  obtain ⟨be, hbe⟩ : ∃ be, be = w.heap.size + 1 := ⟨_, rfl⟩
  obtain ⟨tb, htb⟩ : ∃ tb, tb = w.heap.size := ⟨_, rfl⟩
  rw [← hob] at o0 of0 os0 ⊢
  rw [← hg] at k0 kf ⊢
  rw [← hbe] at e0 e1 e2 ⊢
  rw [← htb] at m0 ⊢
  have HS : Keep (tb = w.heap.size ∧ be = tb + 1 ∧ g = tb + 2 ∧ ob = tb + 3 ∧ ob < W0.heap.size) := ⟨by omega⟩
  have hst0 := OutSt.start o0 of0 os0
  have HA : Keep (Asc ts) := ⟨hA⟩
  clear hob hg hbe htb o0 of0 os0 hA
  go_loopw [6, 7] (fun d i wr => ∃ (k : Nat) (dn : Bool) (v : Value) (us : List En), d = .bool dn ∧ i = .int .i64 k ∧ k ≤ ts.length ∧ Keep (SInv ts en k dn us) ∧ OutSt ob W0 v us wr) (fun _ i _ => ts.length - (intOf i).toNat)
  case atStart => exact ⟨0, false, _, [], rfl, rfl, Nat.zero_le _, ⟨SInv.start ts en⟩, hst0⟩
  case round =>
    clear hst0
    obtain ⟨k, dn, v, us, rfl, rfl, hk, hI, hst⟩ := hrel
    have hul := hI.out.len
    have hbr := hst.below hal (by have := HS.out; omega)
    have hEr := hts.below hbr
    have mr := hst.keep m0 (by have := HS.out; omega) (by have := HS.out; omega)
    have E0 := hst.keep e0 (by have := HS.out; omega) (by have := HS.out; omega)
    have E1 := hst.keep e1 (by have := HS.out; omega) (by have := HS.out; omega)
    have E2 := hst.keep e2 (by have := HS.out; omega) (by have := HS.out; omega)
    have o1 := hst.cell
    by_cases hlt : k < ts.length
    · have hlt' : (k : Int) < ts.length := by omega
      obtain ⟨b, off, rfl, hc⟩ := hEr.at hlt
      obtain ⟨x0, x1, x2⟩ := hc k hlt
      clear hc hEr
      cases hq : (ts[k].path.toList == en.path.toList) with
      | true =>
        have hpe : ts[k].path = en.path := by
          rw [beq_iff_eq, Lib.toList_data, Lib.toList_data] at hq
          exact WideShapes.bytes_inj hq
        have hll : Op.bytesLess ts[k].path.toList en.path.toList = false := by rw [hpe]; exact less_irrefl _
        have hll2 : Op.bytesLess en.path.toList ts[k].path.toList = false := by rw [hpe]; exact less_irrefl _
        have HPE : Keep (ts[k].path = en.path) := ⟨hpe⟩
        clear hpe
        cases dn with
        | true =>
          have HI : Keep (SInv ts en (k + 1) true us) := ⟨hI.out.skip hlt HPE.out⟩
          clear hI
          go_wp2_with fail
          go_quiet (fail)
          have hD : Below wr.heap.size wr (wr.drewN nq) := below_drewN (Below.refl _ _) _
          replace hst := hst.later hD
          replace mr := cell_later hD mr
          replace E0 := cell_later hD E0
          replace E1 := cell_later hD E1
          replace E2 := cell_later hD E2
          replace x0 := cell_later hD x0
          replace x1 := cell_later hD x1
          replace x2 := cell_later hD x2
          replace o1 := cell_later hD o1
          generalize wr.drewN nq = Wa at *
          clear hD
          go_wp2_with fail
          go_quiet (fail)
          have hD : Below Wa.heap.size Wa (Wa.drewN nq) := below_drewN (Below.refl _ _) _
          replace hst := hst.later hD
          replace mr := cell_later hD mr
          replace E0 := cell_later hD E0
          replace E1 := cell_later hD E1
          replace E2 := cell_later hD E2
          replace x0 := cell_later hD x0
          replace x1 := cell_later hD x1
          replace x2 := cell_later hD x2
          replace o1 := cell_later hD o1
          generalize Wa.drewN nq = Wb at *
          clear hD
          go_wp2
          go_roundw
          case rel => exact ⟨k + 1, true, _, _, rfl, by congr 1, hlt, HI, hst⟩
          case measure => simp only [intOf]; omega
        | false =>
          have HI : Keep (SInv ts en (k + 1) true (us ++ [en])) := ⟨(hI.out.put HA.out hlt hll).skip hlt HPE.out⟩
          clear hI
          go_wp2_with fail
          go_quiet (fail)
          have hD : Below wr.heap.size wr (wr.drewN nq) := below_drewN (Below.refl _ _) _
          replace hst := hst.later hD
          replace mr := cell_later hD mr
          replace E0 := cell_later hD E0
          replace E1 := cell_later hD E1
          replace E2 := cell_later hD E2
          replace x0 := cell_later hD x0
          replace x1 := cell_later hD x1
          replace x2 := cell_later hD x2
          replace o1 := cell_later hD o1
          generalize wr.drewN nq = Wa at *
          clear hD
          have hb1 : Below Wa.heap.size Wa (Wa.alloc (.cells #[.string en.path, .string en.text, .bool en.runs] 55)) := (Below.refl _ _).alloc (Nat.le_refl _) _
          go_wp2_with (first
            | (at_builtin; refine wpList_append_lies _ rfl _ _ 23 rfl W0.heap.size 55 i0 _ 3 40 Tryz.underlying23 hi hz0 hz1 hzb rfl (by decide) v us.length (ecells us) rfl (hst.row.alloc _) ⟨Wa.heap.size, 0, none⟩ 1 1 (ecell en) rfl rfl (news_3 Wa en _ _ rfl) (one_3 en) (by omega) (by unfold maxLen; omega) (by omega) (by have := hst.grown.size; simp; omega) (Wa.heap.size + 1) (by simp) ?_; intro g2 cap2 w2 hown2 hgrow2 hat2 hlt2; obtain ⟨hc2, hf2⟩ := hst.mid hb1 hgrow2))
          replace hst := hst.append hb1 hgrow2 hown2
          clear hc2 hf2 hb1 hgrow2 hown2 hat2 hlt2 o1 mr E0 E1 E2 x0 x1 x2
          have hlen2 : (us ++ [en]).length ≤ 1048578 := by simp; omega
          generalize hv2 : Value.slice (some ⟨g2, 0, none⟩) (us.length + 1) cap2 = v2 at *
          generalize us ++ [en] = us2 at *
          generalize w2.setCell ⟨ob, 0, none⟩ v2 = Wc at *
          have hbr := hst.below hal (by have := HS.out; omega)
          obtain ⟨b', off', hbo, hc⟩ := (hts.below hbr).at hlt
          cases hbo
          obtain ⟨x0, x1, x2⟩ := hc k hlt
          have mr := hst.keep m0 (by have := HS.out; omega) (by have := HS.out; omega)
          have E0 := hst.keep e0 (by have := HS.out; omega) (by have := HS.out; omega)
          have E1 := hst.keep e1 (by have := HS.out; omega) (by have := HS.out; omega)
          have E2 := hst.keep e2 (by have := HS.out; omega) (by have := HS.out; omega)
          have o1 := hst.cell
          clear hc
          go_wp2_with fail
          go_quiet (fail)
          have hD : Below Wc.heap.size Wc (Wc.drewN nq) := below_drewN (Below.refl _ _) _
          replace hst := hst.later hD
          replace mr := cell_later hD mr
          replace E0 := cell_later hD E0
          replace E1 := cell_later hD E1
          replace E2 := cell_later hD E2
          replace x0 := cell_later hD x0
          replace x1 := cell_later hD x1
          replace x2 := cell_later hD x2
          replace o1 := cell_later hD o1
          generalize Wc.drewN nq = Wd at *
          clear hD
          go_wp2
          go_roundw
          case rel => exact ⟨k + 1, true, _, _, rfl, by congr 1, hlt, HI, hst⟩
          case measure => simp only [intOf]; omega
      | false =>
        have hpe : ts[k].path ≠ en.path := fun e => by rw [e] at hq; simp at hq
        have HPE : Keep (ts[k].path ≠ en.path) := ⟨hpe⟩
        clear hpe
        have hqc : (en.path.toList == ts[k].path.toList) = false := by
          rw [Bool.eq_false_iff] at hq ⊢
          intro h; apply hq; rw [beq_iff_eq] at h ⊢; exact h.symm
        cases dn with
        | true =>
          have HI : Keep (SInv ts en (k + 1) true (us ++ [ts[k]])) := ⟨hI.out.app HA.out hlt (fun h => by cases h) HPE.out⟩
          clear hI
          go_wp2_with fail
          go_quiet (fail)
          have hD : Below wr.heap.size wr (wr.drewN nq) := below_drewN (Below.refl _ _) _
          replace hst := hst.later hD
          replace mr := cell_later hD mr
          replace E0 := cell_later hD E0
          replace E1 := cell_later hD E1
          replace E2 := cell_later hD E2
          replace x0 := cell_later hD x0
          replace x1 := cell_later hD x1
          replace x2 := cell_later hD x2
          replace o1 := cell_later hD o1
          generalize wr.drewN nq = Wa at *
          clear hD
          go_wp2_with fail
          go_quiet (fail)
          have hD : Below Wa.heap.size Wa (Wa.drewN nq) := below_drewN (Below.refl _ _) _
          replace hst := hst.later hD
          replace mr := cell_later hD mr
          replace E0 := cell_later hD E0
          replace E1 := cell_later hD E1
          replace E2 := cell_later hD E2
          replace x0 := cell_later hD x0
          replace x1 := cell_later hD x1
          replace x2 := cell_later hD x2
          replace o1 := cell_later hD o1
          generalize Wa.drewN nq = Wb at *
          clear hD
          have hb1 : Below Wb.heap.size Wb ((Wb.alloc (.cells #[.string ts[k].path, .string ts[k].text, .bool ts[k].runs] 55)).drew) := ((Below.refl _ _).alloc (Nat.le_refl _) _).drew
          have o1a : ∀ o, (Wb.alloc o).cell? ⟨ob, 0, none⟩ = some v := fun o => cell_later ((Below.refl _ _).alloc (Nat.le_refl _) _) o1
          go_wp2_with fail
          go_region_law (refine step_append_lies _ rfl _ _ 23 rfl W0.heap.size 55 i0 _ 3 40 Tryz.underlying23 hi hz0 hz1 hzb rfl (by decide) v us.length (ecells us) rfl (by exact owns_below hst.row hb1) ⟨Wb.heap.size, 0, none⟩ 1 1 (ecell ts[k]) rfl rfl (by exact news_3 _ _ _ _ (by simp)) (by exact one_3 _) (by omega) (by unfold maxLen; omega) (by omega) (by have := hst.grown.size; simp; omega) (Wb.heap.size + 1) (by simp) ?_; intro g3 cap3 w3 hown3 hgrow3 hat3 hlt3; obtain ⟨hc3, hf3⟩ := hst.mid hb1 hgrow3)
          all_goals
            have hst3 := hst.append hb1 hgrow3 hown3
            have HI3 : Keep (SInv ts en (k + 1) true (us ++ [ts[k]])) := ⟨HI.out⟩
            clear hst hb1 hgrow3 hown3 hat3 hlt3 hc3 hf3 o1 o1a mr E0 E1 E2 x0 x1 x2
            go_wp2
            go_roundw
            case rel => exact ⟨k + 1, _, _, _, rfl, by congr 1, hlt, HI3, hst3⟩
            case measure => simp only [intOf]; omega
        | false =>
          cases hll : Op.bytesLess ts[k].path.toList en.path.toList with
          | true =>
            have hll2 : Op.bytesLess en.path.toList ts[k].path.toList = false := by
              cases h : Op.bytesLess en.path.toList ts[k].path.toList with
              | false => rfl
              | true => have := less_trans hll h; rw [less_irrefl] at this; cases this
            have HI : Keep (SInv ts en (k + 1) false (us ++ [ts[k]])) := ⟨hI.out.app HA.out hlt (fun _ => hll) HPE.out⟩
            clear hI
            go_wp2_with fail
            go_quiet (fail)
            have hD : Below wr.heap.size wr (wr.drewN nq) := below_drewN (Below.refl _ _) _
            replace hst := hst.later hD
            replace mr := cell_later hD mr
            replace E0 := cell_later hD E0
            replace E1 := cell_later hD E1
            replace E2 := cell_later hD E2
            replace x0 := cell_later hD x0
            replace x1 := cell_later hD x1
            replace x2 := cell_later hD x2
            replace o1 := cell_later hD o1
            generalize wr.drewN nq = Wa at *
            clear hD
            go_wp2_with fail
            go_quiet (fail)
            have hD : Below Wa.heap.size Wa (Wa.drewN nq) := below_drewN (Below.refl _ _) _
            replace hst := hst.later hD
            replace mr := cell_later hD mr
            replace E0 := cell_later hD E0
            replace E1 := cell_later hD E1
            replace E2 := cell_later hD E2
            replace x0 := cell_later hD x0
            replace x1 := cell_later hD x1
            replace x2 := cell_later hD x2
            replace o1 := cell_later hD o1
            generalize Wa.drewN nq = Wb at *
            clear hD
            have hb1 : Below Wb.heap.size Wb ((Wb.alloc (.cells #[.string ts[k].path, .string ts[k].text, .bool ts[k].runs] 55)).drew) := ((Below.refl _ _).alloc (Nat.le_refl _) _).drew
            have o1a : ∀ o, (Wb.alloc o).cell? ⟨ob, 0, none⟩ = some v := fun o => cell_later ((Below.refl _ _).alloc (Nat.le_refl _) _) o1
            go_wp2_with fail
            go_region_law (refine step_append_lies _ rfl _ _ 23 rfl W0.heap.size 55 i0 _ 3 40 Tryz.underlying23 hi hz0 hz1 hzb rfl (by decide) v us.length (ecells us) rfl (by exact owns_below hst.row hb1) ⟨Wb.heap.size, 0, none⟩ 1 1 (ecell ts[k]) rfl rfl (by exact news_3 _ _ _ _ (by simp)) (by exact one_3 _) (by omega) (by unfold maxLen; omega) (by omega) (by have := hst.grown.size; simp; omega) (Wb.heap.size + 1) (by simp) ?_; intro g3 cap3 w3 hown3 hgrow3 hat3 hlt3; obtain ⟨hc3, hf3⟩ := hst.mid hb1 hgrow3)
            all_goals
              have hst3 := hst.append hb1 hgrow3 hown3
              have HI3 : Keep (SInv ts en (k + 1) false (us ++ [ts[k]])) := ⟨HI.out⟩
              clear hst hb1 hgrow3 hown3 hat3 hlt3 hc3 hf3 o1 o1a mr E0 E1 E2 x0 x1 x2
              go_wp2
              go_roundw
              case rel => exact ⟨k + 1, _, _, _, rfl, by congr 1, hlt, HI3, hst3⟩
              case measure => simp only [intOf]; omega
          | false =>
            have hll2 : Op.bytesLess en.path.toList ts[k].path.toList = true := less_of hll HPE.out
            have HI : Keep (SInv ts en (k + 1) true (us ++ [en] ++ [ts[k]])) := ⟨(hI.out.put HA.out hlt hll).app HA.out hlt (fun h => by cases h) HPE.out⟩
            clear hI
            go_wp2_with fail
            go_quiet (fail)
            have hD : Below wr.heap.size wr (wr.drewN nq) := below_drewN (Below.refl _ _) _
            replace hst := hst.later hD
            replace mr := cell_later hD mr
            replace E0 := cell_later hD E0
            replace E1 := cell_later hD E1
            replace E2 := cell_later hD E2
            replace x0 := cell_later hD x0
            replace x1 := cell_later hD x1
            replace x2 := cell_later hD x2
            replace o1 := cell_later hD o1
            generalize wr.drewN nq = Wa at *
            clear hD
            have hb1 : Below Wa.heap.size Wa (Wa.alloc (.cells #[.string en.path, .string en.text, .bool en.runs] 55)) := (Below.refl _ _).alloc (Nat.le_refl _) _
            go_wp2_with (first
              | (at_builtin; refine wpList_append_lies _ rfl _ _ 23 rfl W0.heap.size 55 i0 _ 3 40 Tryz.underlying23 hi hz0 hz1 hzb rfl (by decide) v us.length (ecells us) rfl (hst.row.alloc _) ⟨Wa.heap.size, 0, none⟩ 1 1 (ecell en) rfl rfl (news_3 Wa en _ _ rfl) (one_3 en) (by omega) (by unfold maxLen; omega) (by omega) (by have := hst.grown.size; simp; omega) (Wa.heap.size + 1) (by simp) ?_; intro g2 cap2 w2 hown2 hgrow2 hat2 hlt2; obtain ⟨hc2, hf2⟩ := hst.mid hb1 hgrow2))
            replace hst := hst.append hb1 hgrow2 hown2
            clear hc2 hf2 hb1 hgrow2 hown2 hat2 hlt2 o1 mr E0 E1 E2 x0 x1 x2
            have hlen2 : (us ++ [en]).length ≤ 1048578 := by simp; omega
            generalize hv2 : Value.slice (some ⟨g2, 0, none⟩) (us.length + 1) cap2 = v2 at *
            generalize us ++ [en] = us2 at *
            generalize w2.setCell ⟨ob, 0, none⟩ v2 = Wc at *
            have hbr := hst.below hal (by have := HS.out; omega)
            obtain ⟨b', off', hbo, hc⟩ := (hts.below hbr).at hlt
            cases hbo
            obtain ⟨x0, x1, x2⟩ := hc k hlt
            have mr := hst.keep m0 (by have := HS.out; omega) (by have := HS.out; omega)
            have E0 := hst.keep e0 (by have := HS.out; omega) (by have := HS.out; omega)
            have E1 := hst.keep e1 (by have := HS.out; omega) (by have := HS.out; omega)
            have E2 := hst.keep e2 (by have := HS.out; omega) (by have := HS.out; omega)
            have o1 := hst.cell
            clear hc
            go_wp2_with fail
            go_quiet (fail)
            have hD : Below Wc.heap.size Wc (Wc.drewN nq) := below_drewN (Below.refl _ _) _
            replace hst := hst.later hD
            replace mr := cell_later hD mr
            replace E0 := cell_later hD E0
            replace E1 := cell_later hD E1
            replace E2 := cell_later hD E2
            replace x0 := cell_later hD x0
            replace x1 := cell_later hD x1
            replace x2 := cell_later hD x2
            replace o1 := cell_later hD o1
            generalize Wc.drewN nq = Wd at *
            clear hD
            have hb1 : Below Wd.heap.size Wd ((Wd.alloc (.cells #[.string ts[k].path, .string ts[k].text, .bool ts[k].runs] 55)).drew) := ((Below.refl _ _).alloc (Nat.le_refl _) _).drew
            have o1a : ∀ o, (Wd.alloc o).cell? ⟨ob, 0, none⟩ = some v2 := fun o => cell_later ((Below.refl _ _).alloc (Nat.le_refl _) _) o1
            go_wp2_with fail
            go_region_law (refine step_append_lies _ rfl _ _ 23 rfl W0.heap.size 55 i0 _ 3 40 Tryz.underlying23 hi hz0 hz1 hzb rfl (by decide) v2 us2.length (ecells us2) rfl (by exact owns_below hst.row hb1) ⟨Wd.heap.size, 0, none⟩ 1 1 (ecell ts[k]) rfl rfl (by exact news_3 _ _ _ _ (by simp)) (by exact one_3 _) (by omega) (by unfold maxLen; omega) (by omega) (by have := hst.grown.size; simp; omega) (Wd.heap.size + 1) (by simp) ?_; intro g3 cap3 w3 hown3 hgrow3 hat3 hlt3; obtain ⟨hc3, hf3⟩ := hst.mid hb1 hgrow3)
            all_goals
              have hst3 := hst.append hb1 hgrow3 hown3
              have HI3 : Keep (SInv ts en (k + 1) true (us2 ++ [ts[k]])) := ⟨HI.out⟩
              clear hst hb1 hgrow3 hown3 hat3 hlt3 hc3 hf3 o1 o1a mr E0 E1 E2 x0 x1 x2
              go_wp2
              go_roundw
              case rel => exact ⟨k + 1, _, _, _, rfl, by congr 1, hlt, HI3, hst3⟩
              case measure => simp only [intOf]; omega
    · obtain rfl : k = ts.length := by omega
      have k2 := hst.keep k0 (by have := HS.out; omega) (by have := HS.out; omega)
      have kf2 : wr.frozen? ⟨g, 0, none⟩ = false := frozen_of (hst.grown.block g (by have := HS.out; omega) (by have := HS.out; simp; omega)) kf
      have hgw : w.heap.size ≤ g := by have := HS.out; omega
      have hgW : g < W0.heap.size := by have := HS.out; omega
      clear hEr
      cases dn with
      | true =>
        have HR : Keep (SetRel ts en us) := ⟨hI.out.done⟩
        obtain ⟨ad, cap2, rfl⟩ := owns_slice hst.row
        have hel := el_of_row hst.row
        have hroom := row_room hst.row
        have hel2 := (hel.grown (row := some g) (grown_set0 wr g 0 (.slice ad us.length cap2)) (fun j _ hj _ e => by cases e; omega)).mono hal.size
        clear hI hel
        go_wp2
        refine bodyPost_ret (v := .agg #[.slice ad us.length cap2]) ?_ rfl ⟨ad, cap2, us, rfl, HR.out, hel2, hbr.setCell (p := ⟨g, 0, none⟩) hgw _, hul, hroom⟩
        go_light
        simp [results, Tryz.results24, go_sem, k2]
      | false =>
        have HR : Keep (SetRel ts en (us ++ [en])) := ⟨hI.out.last HA.out⟩
        have hul2 : us.length ≤ ts.length := by
          rcases hI.out with ⟨_, rfl, _⟩ | ⟨h, _⟩
          · simp
          · cases h
        clear hI
        have hgo : g ≠ ob := by have := HS.out; omega
        have hgo1 : ¬ g = ob := hgo
        have hgo2 : ¬ ob = g := fun e => hgo e.symm
        have hb1 : Below wr.heap.size wr (wr.alloc (.cells #[.string en.path, .string en.text, .bool en.runs] 55)) := (Below.refl _ _).alloc (Nat.le_refl _) _
        go_wp2_with (first
          | (at_builtin; refine wpList_append_lies _ rfl _ _ 23 rfl W0.heap.size 55 i0 _ 3 40 Tryz.underlying23 hi hz0 hz1 hzb rfl (by decide) v us.length (ecells us) rfl (hst.row.alloc _) ⟨wr.heap.size, 0, none⟩ 1 1 (ecell en) rfl rfl (news_3 wr en _ _ rfl) (one_3 en) (by omega) (by unfold maxLen; omega) (by omega) (by have := hst.grown.size; simp; omega) (wr.heap.size + 1) (by simp) ?_; intro g2 cap2 w2 hown2 hgrow2 hat2 hlt2; obtain ⟨hc2, hf2⟩ := hst.mid hb1 hgrow2; have hB2 := hst.midBlock hb1 hgrow2 hgW hgo; have k3 := (World.cell?_of_block hB2).trans k0; have kf3 := frozen_of hB2 kf))
        replace hst := hst.append hb1 hgrow2 hown2
        have hbr3 := hst.below hal (by have := HS.out; omega)
        have hel := el_of_row (us := us ++ [en]) (ad := some ⟨g2, 0, none⟩) (cap := cap2) (by have := hst.row; rw [List.length_append] at this ⊢; exact this)
        have hel2 := (hel.grown (row := some g) (grown_set0 _ g 0 (.slice (some ⟨g2, 0, none⟩) (us.length + 1) cap2)) (fun j _ hj _ e => by cases e; omega)).mono hal.size
        have hbr4 := hbr3.setCell (p := ⟨g, 0, none⟩) hgw (.slice (some ⟨g2, 0, none⟩) (us.length + 1) cap2)
        refine bodyPost_ret (v := .agg #[.slice (some ⟨g2, 0, none⟩) (us ++ [en]).length cap2]) ?_ rfl ⟨some ⟨g2, 0, none⟩, cap2, us ++ [en], rfl, HR.out, hel2, hbr4, by simp; omega, by have := row_room hown2; simp; omega⟩
        go_light
        simp [results, Tryz.results24, go_sem, k3]

theorem l5Set_any (a : Option Addr) (cap : Nat) (ts : List En) (en : En) (w : World) (hts : ES w a ts) (hn : ts.length ≤ 1048576) (hA : Asc ts) :
    Calls Tryz.prog 24 #[.agg #[.slice a ts.length cap], .agg #[.string en.path, .string en.text, .bool en.runs]] w fun e w' => SetPost ts en w e w' :=
  (l5SetC_any a cap ts en w hts hn hA).mono (fun _ _ ⟨ad, cp, us, h1, h2, h3, h4, h5, _⟩ => ⟨ad, cp, us, h1, h2, h3, h4, h5⟩)
end Go.Proofs.YtjiafjdjocmodaaGreat

namespace Go.Proofs.YtjiafjdjocmodaaGreat
open Go.RowKit

/-- Whether one of two is in the way of the other. -/
def wayB (x e : ByteArray) : Bool := beginsB x e || beginsB e x
theorem wayB_iff {x e : ByteArray} : wayB x e = true ↔ Begins x e ∨ Begins e x := by
  unfold wayB
  rw [Bool.or_eq_true, beginsB_iff, beginsB_iff]

theorem el_setQ {B g : Nat} {w : World} {a : Option Addr} {ts : List En} {u : Value} (h : EL B w a ts) (hg : g < B) : EL B (w.setCell ⟨g, 0, none⟩ u) a ts :=
  h.grown (row := some g) ⟨rfl, rfl, rfl, by simp, fun k _ hk => Below.heap_setCell _ _ _ _ (fun e => hk (by rw [e]))⟩ (fun k _ hk _ e => by cases e; omega)

/-- What Put gives, with the room that there is. -/
def PutPostC (ts : List En) (en : En) (w : World) (e : Ending) (w' : World) : Prop := ∃ us c, PutR ts en us c ∧ (∃ ad cap, e = .returned (TreeV ad us.length cap c) ∧ EL w.heap.size w' ad us ∧ us.length ≤ cap) ∧ Below w.heap.size w w'

set_option maxRecDepth 100000 in
set_option maxHeartbeats 4000000 in
theorem specPutC_any (a : Option Addr) (cap : Nat) (ts : List En) (en : En) (w : World) (hts : ES w a ts) (hn : ts.length ≤ 1048576) :
    Calls Tryz.prog 23 #[.agg #[.slice a ts.length cap], .agg #[.string en.path, .string en.text, .bool en.runs]] w fun e w' => PutPostC ts en w e w' := by
  have hal : Below w.heap.size w (((w.alloc (.cells #[.slice a ts.length cap] 25)).alloc (.cells #[.string en.path, .string en.text, .bool en.runs] 55)).alloc (.cells #[.slice none 0 0] 25)) := (((Below.refl _ _).alloc (Nat.le_refl _) _).alloc (by simp) _).alloc (by simp; omega) _
  have m0 : (((w.alloc (.cells #[.slice a ts.length cap] 25)).alloc (.cells #[.string en.path, .string en.text, .bool en.runs] 55)).alloc (.cells #[.slice none 0 0] 25)).cell? ⟨w.heap.size, 0, none⟩ = some (.slice a ts.length cap) := by simp [go_sem]
  have e0 : (((w.alloc (.cells #[.slice a ts.length cap] 25)).alloc (.cells #[.string en.path, .string en.text, .bool en.runs] 55)).alloc (.cells #[.slice none 0 0] 25)).cell? ⟨w.heap.size + 1, 0, none⟩ = some (.string en.path) := by simp [go_sem]
  have e1 : (((w.alloc (.cells #[.slice a ts.length cap] 25)).alloc (.cells #[.string en.path, .string en.text, .bool en.runs] 55)).alloc (.cells #[.slice none 0 0] 25)).cell? ⟨w.heap.size + 1, 1, none⟩ = some (.string en.text) := by simp [go_sem]
  have e2 : (((w.alloc (.cells #[.slice a ts.length cap] 25)).alloc (.cells #[.string en.path, .string en.text, .bool en.runs] 55)).alloc (.cells #[.slice none 0 0] 25)).cell? ⟨w.heap.size + 1, 2, none⟩ = some (.bool en.runs) := by simp [go_sem]
  have k0 : (((w.alloc (.cells #[.slice a ts.length cap] 25)).alloc (.cells #[.string en.path, .string en.text, .bool en.runs] 55)).alloc (.cells #[.slice none 0 0] 25)).cell? ⟨w.heap.size + 1 + 1, 0, none⟩ = some (.slice none 0 0) := by simp [go_sem]
  have kf : (((w.alloc (.cells #[.slice a ts.length cap] 25)).alloc (.cells #[.string en.path, .string en.text, .bool en.runs] 55)).alloc (.cells #[.slice none 0 0] 25)).frozen? ⟨w.heap.size + 1 + 1, 0, none⟩ = false := by simp [go_sem]
  have ks : w.heap.size + 1 + 1 < (((w.alloc (.cells #[.slice a ts.length cap] 25)).alloc (.cells #[.string en.path, .string en.text, .bool en.runs] 55)).alloc (.cells #[.slice none 0 0] 25)).heap.size := by simp [go_sem]
  go_enter Tryz.func23, Tryz.ntmps23
  go_wp2_with fail
  refine (specTree_any a cap ts _ (hts.below hal) hn).mono ?_
  rintro e w1 ⟨vb, rfl, hvb, hb1⟩
  generalize ((w.alloc (.cells #[.slice a ts.length cap] 25)).alloc (.cells #[.string en.path, .string en.text, .bool en.runs] 55)).alloc (.cells #[.slice none 0 0] 25) = w0 at *
  obtain ⟨g, hg⟩ : ∃ g, g = w.heap.size + 1 + 1 := ⟨_, rfl⟩
  obtain ⟨be, hbe⟩ : ∃ be, be = w.heap.size + 1 := ⟨_, rfl⟩
  obtain ⟨tb, htb⟩ : ∃ tb, tb = w.heap.size := ⟨_, rfl⟩
  rw [← hg] at k0 kf ks ⊢
  rw [← hbe] at e0 e1 e2 ⊢
  rw [← htb] at m0 ⊢
  have hgw : w.heap.size ≤ g := by omega
  have HS : Keep (tb = w.heap.size ∧ be = tb + 1 ∧ g = tb + 2) := ⟨by omega⟩
  clear hg hbe htb
  replace k0 := cell_later hb1 k0
  replace kf : w1.frozen? ⟨g, 0, none⟩ = false := (hb1.frozen (p := ⟨g, 0, none⟩) ks).trans kf
  replace e0 := cell_later hb1 e0
  replace e1 := cell_later hb1 e1
  replace e2 := cell_later hb1 e2
  replace m0 := cell_later hb1 m0
  have ks1 : g < w1.heap.size := Nat.lt_of_lt_of_le ks hb1.size
  have hbw := hal.trans (hb1.mono hal.size)
  have HV : Keep (vb = true ↔ ValidTs ts) := ⟨hvb⟩
  clear hb1 hal hvb ks
  cases vb with
  | false =>
    have hnv : ¬ ValidTs ts := fun h => by have := HV.out.2 h; cases this
    go_wp2
    refine bodyPost_ret (v := TreeV none ([] : List En).length 0 1) ?_ rfl ⟨[], 1, .inl ⟨hnv, rfl, rfl⟩, ⟨none, 0, rfl, EL.nil _ _ _, Nat.le_refl _⟩, hbw.setCell (p := ⟨g, 0, none⟩) hgw _⟩
    go_light
    simp [results, Tryz.results23, go_sem, TreeV, k0]
  | true =>
    have hv := HV.out.1 rfl
    go_wp2_with fail
    refine (specPath_any en.path w1).mono ?_
    rintro e w2 ⟨rfl, hb2⟩
    replace k0 := cell_later hb2 k0
    replace kf : w2.frozen? ⟨g, 0, none⟩ = false := (hb2.frozen (p := ⟨g, 0, none⟩) ks1).trans kf
    replace e0 := cell_later hb2 e0
    replace e1 := cell_later hb2 e1
    replace e2 := cell_later hb2 e2
    replace m0 := cell_later hb2 m0
    have ks2 : g < w2.heap.size := Nat.lt_of_lt_of_le ks1 hb2.size
    have hbw2 := hbw.trans (hb2.mono hbw.size)
    clear hb2 hbw ks1
    cases hpk : pathOk pathB en.path with
    | false =>
      have hok : enOk en = false := by simp [enOk, hpk]
      go_wp2
      refine bodyPost_ret (v := TreeV none ([] : List En).length 0 2) ?_ rfl ⟨[], 2, .inr (.inl ⟨hv, hok, rfl, rfl⟩), ⟨none, 0, rfl, EL.nil _ _ _, Nat.le_refl _⟩, hbw2.setCell (p := ⟨g, 0, none⟩) hgw _⟩
      go_light
      simp [results, Tryz.results23, go_sem, TreeV, k0]
    | true =>
      by_cases htx : (1500 : Int) < en.text.size
      · have hok : enOk en = false := by simp [enOk, hpk]; omega
        go_wp2
        refine bodyPost_ret (v := TreeV none ([] : List En).length 0 2) ?_ rfl ⟨[], 2, .inr (.inl ⟨hv, hok, rfl, rfl⟩), ⟨none, 0, rfl, EL.nil _ _ _, Nat.le_refl _⟩, hbw2.setCell (p := ⟨g, 0, none⟩) hgw _⟩
        go_light
        simp [results, Tryz.results23, go_sem, TreeV, k0]
      · have hok : enOk en = true := by simp [enOk, hpk]; omega
        go_wp2
        go_loopw [6] (fun i wr => ∃ k : Nat, i = .int .i64 k ∧ k ≤ ts.length ∧ Keep (∀ x ∈ ts.take k, wayB x.path en.path = false) ∧ Below w2.heap.size w2 wr) (fun i _ => ts.length - (intOf i).toNat)
        case atStart => exact ⟨0, rfl, Nat.zero_le _, ⟨fun x hx => by simp at hx⟩, Below.refl _ _⟩
        case round =>
          obtain ⟨k, rfl, hk, hno, hbr⟩ := hrel
          have mr := cell_later hbr m0
          have E0 := cell_later hbr e0
          have E1 := cell_later hbr e1
          have E2 := cell_later hbr e2
          have K0 := cell_later hbr k0
          have KF : wr.frozen? ⟨g, 0, none⟩ = false := (hbr.frozen (p := ⟨g, 0, none⟩) ks2).trans kf
          have hbw3 := hbw2.trans (hbr.mono hbw2.size)
          have hEr := hts.below hbw3
          have hzr : g < wr.heap.size := Nat.lt_of_lt_of_le ks2 hbr.size
          by_cases hlt : k < ts.length
          · have hlt' : (k : Int) < ts.length := by omega
            obtain ⟨b, off, rfl, hc⟩ := hEr.at hlt
            obtain ⟨x0, _, _⟩ := hc k hlt
            clear hc hEr
            obtain ⟨xp, hxp⟩ : ∃ xp, ts[k].path = xp := ⟨_, rfl⟩
            obtain ⟨ep, hep⟩ : ∃ ep, en.path = ep := ⟨_, rfl⟩
            have HXP : Keep (ts[k].path = xp ∧ en.path = ep) := ⟨⟨hxp, hep⟩⟩
            have cj : ∀ x : Later wr, x.world.cell? ⟨b, off + k * 3, none⟩ = some (.string xp) := fun x => by rw [← hxp]; exact cell_later x.kept x0
            have z0 : ∀ x : Later wr, x.world.cell? ⟨be, 0, none⟩ = some (.string ep) := fun x => by rw [← hep]; exact cell_later x.kept E0
            clear hxp hep
            have zT : ∀ x : Later wr, x.world.cell? ⟨tb, 0, none⟩ = some (.slice (some ⟨b, off, none⟩) ts.length cap) := fun x => cell_later x.kept mr
            have HK : Keep (wr.cell? ⟨g, 0, none⟩ = some (.slice none 0 0) ∧ wr.frozen? ⟨g, 0, none⟩ = false ∧ g < wr.heap.size) := ⟨⟨K0, KF, hzr⟩⟩
            have HB : Keep (Below w2.heap.size w2 wr ∧ Below w.heap.size w wr) := ⟨⟨hbr, hbw3⟩⟩
            clear x0 E0 E1 E2 K0 KF hzr hbr hbw3 e0 e1 e2 k0 kf m0 ks2 hbw2 hts
            cases hq1 : beginsB ts[k].path en.path with
            | true =>
              have HWY : Keep (wayB ts[k].path en.path = true) := ⟨by simp [wayB, hq1]⟩
              have HC1 : Keep (∀ x : Later wr, Calls Tryz.prog 39 #[.string xp, .string ep] x.world fun e w'' => e = .returned (.bool true) ∧ ∃ y : Later wr, w'' = y.world) := ⟨fun x => Later.call x (begins_lit true (by rw [← HXP.out.1, ← HXP.out.2, ← beginsB_iff, hq1]) _)⟩
              have HC2 := HC1
              clear hq1
              go_wp2_with fail
              (haveI := later_any; refine wp_region_later (by kernel_rfl) (by kernel_rfl) ?_; (repeat (go_big_quiet_step (first | (go_at_call_of 39 ([Value.string xp, Value.string ep] : List Value); exact HC1.out _) | (go_at_call_of 39 ([Value.string ep, Value.string xp] : List Value); exact HC2.out _)))); refine wpQuiet_nil ?_; intro _ hwq; obtain ⟨xq, hwq2⟩ := hwq; subst hwq2)
              have K1 := cell_later xq.kept HK.out.1
              have KF1 : xq.world.frozen? ⟨g, 0, none⟩ = false := (xq.kept.frozen (p := ⟨g, 0, none⟩) HK.out.2.2).trans HK.out.2.1
              have hbr1 : Below w2.heap.size w2 xq.world := HB.out.1.trans (xq.kept.mono HB.out.1.size)
              have hbw1 : Below w.heap.size w xq.world := HB.out.2.trans (xq.kept.mono HB.out.2.size)
              clear cj z0 zT
              have hway : InWay ts en := ⟨ts[k], List.getElem_mem hlt, wayB_iff.1 HWY.out⟩
              go_wp2
              refine bodyPost_ret (v := TreeV none ([] : List En).length 0 3) ?_ rfl ⟨[], 3, .inr (.inr (.inl ⟨hv, hok, hway, rfl, rfl⟩)), ⟨none, 0, rfl, EL.nil _ _ _, Nat.le_refl _⟩, hbw1.setCell (p := ⟨g, 0, none⟩) hgw _⟩
              go_light
              simp [results, Tryz.results23, go_sem, TreeV, K1]
            | false =>
              cases hq2 : beginsB en.path ts[k].path with
              | true =>
                have HWY : Keep (wayB ts[k].path en.path = true) := ⟨by simp [wayB, hq2]⟩
                have HC1 : Keep (∀ x : Later wr, Calls Tryz.prog 39 #[.string xp, .string ep] x.world fun e w'' => e = .returned (.bool false) ∧ ∃ y : Later wr, w'' = y.world) := ⟨fun x => Later.call x (begins_lit false (by rw [← HXP.out.1, ← HXP.out.2, ← beginsB_iff, hq1]) _)⟩
                have HC2 : Keep (∀ x : Later wr, Calls Tryz.prog 39 #[.string ep, .string xp] x.world fun e w'' => e = .returned (.bool true) ∧ ∃ y : Later wr, w'' = y.world) := ⟨fun x => Later.call x (begins_lit true (by rw [← HXP.out.1, ← HXP.out.2, ← beginsB_iff, hq2]) _)⟩
                clear hq1 hq2
                go_wp2_with fail
                (haveI := later_any; refine wp_region_later (by kernel_rfl) (by kernel_rfl) ?_; (repeat (go_big_quiet_step (first | (go_at_call_of 39 ([Value.string xp, Value.string ep] : List Value); exact HC1.out _) | (go_at_call_of 39 ([Value.string ep, Value.string xp] : List Value); exact HC2.out _)))); refine wpQuiet_nil ?_; intro _ hwq; obtain ⟨xq, hwq2⟩ := hwq; subst hwq2)
                have K1 := cell_later xq.kept HK.out.1
                have KF1 : xq.world.frozen? ⟨g, 0, none⟩ = false := (xq.kept.frozen (p := ⟨g, 0, none⟩) HK.out.2.2).trans HK.out.2.1
                have hbr1 : Below w2.heap.size w2 xq.world := HB.out.1.trans (xq.kept.mono HB.out.1.size)
                have hbw1 : Below w.heap.size w xq.world := HB.out.2.trans (xq.kept.mono HB.out.2.size)
                clear cj z0 zT
                have hway : InWay ts en := ⟨ts[k], List.getElem_mem hlt, wayB_iff.1 HWY.out⟩
                go_wp2
                refine bodyPost_ret (v := TreeV none ([] : List En).length 0 3) ?_ rfl ⟨[], 3, .inr (.inr (.inl ⟨hv, hok, hway, rfl, rfl⟩)), ⟨none, 0, rfl, EL.nil _ _ _, Nat.le_refl _⟩, hbw1.setCell (p := ⟨g, 0, none⟩) hgw _⟩
                go_light
                simp [results, Tryz.results23, go_sem, TreeV, K1]
              | false =>
                have HNO : Keep (∀ x ∈ ts.take (k + 1), wayB x.path en.path = false) := ⟨fun x hx => by
                  rcases (mem_take_succ hlt x).1 hx with h3 | rfl
                  · exact hno.out x h3
                  · simp [wayB, hq1, hq2]⟩
                have HC1 : Keep (∀ x : Later wr, Calls Tryz.prog 39 #[.string xp, .string ep] x.world fun e w'' => e = .returned (.bool false) ∧ ∃ y : Later wr, w'' = y.world) := ⟨fun x => Later.call x (begins_lit false (by rw [← HXP.out.1, ← HXP.out.2, ← beginsB_iff, hq1]) _)⟩
                have HC2 : Keep (∀ x : Later wr, Calls Tryz.prog 39 #[.string ep, .string xp] x.world fun e w'' => e = .returned (.bool false) ∧ ∃ y : Later wr, w'' = y.world) := ⟨fun x => Later.call x (begins_lit false (by rw [← HXP.out.1, ← HXP.out.2, ← beginsB_iff, hq2]) _)⟩
                clear hq1 hq2
                go_wp2_with fail
                (haveI := later_any; refine wp_region_later (by kernel_rfl) (by kernel_rfl) ?_; (repeat (go_big_quiet_step (first | (go_at_call_of 39 ([Value.string xp, Value.string ep] : List Value); exact HC1.out _) | (go_at_call_of 39 ([Value.string ep, Value.string xp] : List Value); exact HC2.out _)))); refine wpQuiet_nil ?_; intro _ hwq; obtain ⟨xq, hwq2⟩ := hwq; subst hwq2)
                have K1 := cell_later xq.kept HK.out.1
                have KF1 : xq.world.frozen? ⟨g, 0, none⟩ = false := (xq.kept.frozen (p := ⟨g, 0, none⟩) HK.out.2.2).trans HK.out.2.1
                have hbr1 : Below w2.heap.size w2 xq.world := HB.out.1.trans (xq.kept.mono HB.out.1.size)
                have hbw1 : Below w.heap.size w xq.world := HB.out.2.trans (xq.kept.mono HB.out.2.size)
                clear cj z0 zT
                go_wp2
                go_roundw
                case rel => exact ⟨k + 1, by congr 1, hlt, HNO, hbr1⟩
                case measure => simp only [intOf]; omega
          · obtain rfl : k = ts.length := by omega
            have hfree : ¬ InWay ts en := fun ⟨x, hx, hw⟩ => by
              have := hno.out x (by rw [List.take_length]; exact hx)
              rw [wayB_iff.2 hw] at this
              cases this
            have hset := l5SetC_any a cap ts en wr hEr hn (valid_asc hv)
            clear hno hEr
            go_wp2_with fail
            refine hset.mono ?_
            rintro e w4 ⟨ad, cap4, us, rfl, hrel, hel, hb4, hlen, hroom⟩
            replace K0 := cell_later hb4 K0
            replace KF : w4.frozen? ⟨g, 0, none⟩ = false := (hb4.frozen (p := ⟨g, 0, none⟩) hzr).trans KF
            have hbw4 := hbw3.trans (hb4.mono hbw3.size)
            have hz4 : g < w4.heap.size := Nat.lt_of_lt_of_le hzr hb4.size
            have Ka : ∀ u o, ((w4.setCell ⟨g, 0, none⟩ u).alloc o).cell? ⟨g, 0, none⟩ = some u := fun u o => cell_later ((Below.refl _ _).alloc (Nat.le_refl _) _) (World.cell?_setCell_same _ _ _ K0)
            have hbw5 : ∀ u o, Below w.heap.size w ((w4.setCell ⟨g, 0, none⟩ u).alloc o) := fun u o => (hbw4.setCell (p := ⟨g, 0, none⟩) hgw u).alloc (hbw4.setCell (p := ⟨g, 0, none⟩) hgw u).size o
            have hel5 : ∀ u o, EL w.heap.size ((w4.setCell ⟨g, 0, none⟩ u).alloc o) ad us := fun u o => ((el_setQ (u := u) hel hzr).below ((Below.refl _ _).alloc (Nat.le_refl _) _)).mono hbw3.size
            clear hset hb4 mr E0 E1 E2 hel
            by_cases h100 : (100 : Int) < us.length
            · go_wp2
              refine bodyPost_ret (v := TreeV none ([] : List En).length 0 4) ?_ rfl ⟨[], 4, .inr (.inr (.inr ⟨hv, hok, hfree, us, hrel, .inl ⟨by omega, rfl, rfl⟩⟩)), ⟨none, 0, rfl, EL.nil _ _ _, Nat.le_refl _⟩, hbw5 _ _⟩
              go_light
              simp [results, Tryz.results23, go_sem, TreeV, Ka]
            · go_wp2
              refine bodyPost_ret (v := TreeV ad us.length cap4 0) ?_ rfl ⟨us, 0, .inr (.inr (.inr ⟨hv, hok, hfree, us, hrel, .inr ⟨by omega, rfl, rfl⟩⟩)), ⟨ad, cap4, rfl, hel5 _ _, hroom⟩, hbw5 _ _⟩
              go_light
              simp [results, Tryz.results23, go_sem, TreeV, Ka]

theorem specPut_any (a : Option Addr) (cap : Nat) (ts : List En) (en : En) (w : World) (hts : ES w a ts) (hn : ts.length ≤ 1048576) :
    Calls Tryz.prog 23 #[.agg #[.slice a ts.length cap], .agg #[.string en.path, .string en.text, .bool en.runs]] w fun e w' => PutPost ts en w e w' :=
  (specPutC_any a cap ts en w hts hn).mono (fun _ _ ⟨us, c, h1, ⟨ad, cp, h2, h3, _⟩, h4⟩ => ⟨us, c, h1, ⟨ad, cp, h2, h3⟩, h4⟩)
end Go.Proofs.YtjiafjdjocmodaaGreat

namespace Go.Proofs.YtjiafjdjocmodaaGreat
open Go.RowKit

def Tiny (P T : Nat) (ts : List En) : Prop := ∀ e ∈ ts, e.path.size ≤ P ∧ e.text.size ≤ T
/-- Where an address of a slice is none there is no room. -/
def NilOk (ad : Option Addr) (cp : Nat) : Prop := (∃ x, ad = some x) ∨ (ad = none ∧ cp = 0)
theorem NilOk.ne {B : Nat} {w : World} {ad : Option Addr} {cp : Nat} {ts : List En} (h : EL B w ad ts) (hne : ts ≠ []) : NilOk ad cp := by
  rcases h with h | ⟨g, h, _⟩
  · exact absurd h hne
  · exact .inl ⟨_, h⟩

/-- A tree in a box, beside a reader. -/
structure LD5 (g : Nat) (a : Option Addr) (cap : Nat) (zs : List Int) (w : World) (rs tb : Nat) (ad : Option Addr) (cp : Nat) (ts : List En) (p : Nat) (W : World) : Prop where
  rd : Rd W g a cap zs p
  gr : w.grownBy W (some g)
  rc : W.cell? ⟨rs, 0, none⟩ = some (.slice none 0 0)
  rf : W.frozen? ⟨rs, 0, none⟩ = false
  tc : W.cell? ⟨tb, 0, none⟩ = some (.slice ad ts.length cp)
  tf : W.frozen? ⟨tb, 0, none⟩ = false
  el : EL (tb + 1) W ad ts
  ord : g < rs ∧ rs < tb
theorem LD5.lt {g : Nat} {a : Option Addr} {cap : Nat} {zs : List Int} {w : World} {rs tb : Nat} {ad : Option Addr} {cp : Nat} {ts : List En} {p : Nat} {W : World} (h : LD5 g a cap zs w rs tb ad cp ts p W) : tb < W.heap.size := World.block_lt_of_cell? W ⟨tb, 0, none⟩ h.tc
theorem LD5.ltr {g : Nat} {a : Option Addr} {cap : Nat} {zs : List Int} {w : World} {rs tb : Nat} {ad : Option Addr} {cp : Nat} {ts : List En} {p : Nat} {W : World} (h : LD5 g a cap zs w rs tb ad cp ts p W) : rs < W.heap.size := World.block_lt_of_cell? W ⟨rs, 0, none⟩ h.rc
theorem fz_blk {w w' : World} {g j : Nat} (h : w'.heap[g]? = w.heap[g]?) (hf : w.frozen? ⟨g, j, none⟩ = false) : w'.frozen? ⟨g, j, none⟩ = false := by
  unfold World.frozen? at hf ⊢
  simp only at hf ⊢
  rw [h]; exact hf
theorem LD5.step {g : Nat} {a : Option Addr} {cap : Nat} {zs : List Int} {w : World} {rs tb : Nat} {ad : Option Addr} {cp : Nat} {ts : List En} {p p' : Nat} {W W' : World} (h : LD5 g a cap zs w rs tb ad cp ts p W) (hg : W.grownBy W' (some g)) (hR : Rd W' g a cap zs p') : LD5 g a cap zs w rs tb ad cp ts p' W' := by
  have o := h.ord
  have b1 := hg.block rs h.ltr (by simp; omega)
  have b2 := hg.block tb h.lt (by simp; omega)
  exact ⟨hR, gr_trans h.gr hg, (World.cell?_of_block b1).trans h.rc, fz_blk b1 h.rf, (World.cell?_of_block b2).trans h.tc, fz_blk b2 h.tf, h.el.grown hg (fun k _ hk _ e => by cases e; omega), o⟩
theorem LD5.later {g : Nat} {a : Option Addr} {cap : Nat} {zs : List Int} {w : World} {rs tb : Nat} {ad : Option Addr} {cp : Nat} {ts : List En} {p : Nat} {W W' : World} (h : LD5 g a cap zs w rs tb ad cp ts p W) (hb : Below W.heap.size W W') : LD5 g a cap zs w rs tb ad cp ts p W' := h.step (gr_below hb) (h.rd.below hb)
theorem LD5.al {g : Nat} {a : Option Addr} {cap : Nat} {zs : List Int} {w : World} {rs tb : Nat} {ad : Option Addr} {cp : Nat} {ts : List En} {p : Nat} {W : World} (h : LD5 g a cap zs w rs tb ad cp ts p W) (o : Obj) : LD5 g a cap zs w rs tb ad cp ts p (W.alloc o) := h.later (below_oneD _ _)
theorem LD5.drew {g : Nat} {a : Option Addr} {cap : Nat} {zs : List Int} {w : World} {rs tb : Nat} {ad : Option Addr} {cp : Nat} {ts : List En} {p : Nat} {W : World} (h : LD5 g a cap zs w rs tb ad cp ts p W) : LD5 g a cap zs w rs tb ad cp ts p W.drew := h.later (Below.refl _ _).drew
/-- Another tree is put into the box. -/
theorem LD5.put {g : Nat} {a : Option Addr} {cap : Nat} {zs : List Int} {w : World} {rs tb : Nat} {ad ad' : Option Addr} {cp cp' : Nat} {ts us : List En} {p : Nat} {W : World} (h : LD5 g a cap zs w rs tb ad cp ts p W) (he : EL (tb + 1) W ad' us) (hw : w.heap.size ≤ tb) : LD5 g a cap zs w rs tb ad' cp' us p (W.setCell ⟨tb, 0, none⟩ (.slice ad' us.length cp')) := by
  have o := h.ord
  have hg : W.grownBy (W.setCell ⟨tb, 0, none⟩ (.slice ad' us.length cp')) (some tb) := grown_set W tb 0 _
  refine ⟨h.rd.kept hg (fun k e => by cases e; omega), gr_own h.gr hg (fun j e => by cases e; exact hw), ?_, (World.frozen?_setCell _ _ _ _).trans h.rf, World.cell?_setCell_same _ _ _ h.tc, (World.frozen?_setCell _ _ _ _).trans h.tf, he.grown hg (fun k _ hk _ e => by cases e; omega), o⟩
  exact (World.cell?_of_block (Below.heap_setCell _ _ _ _ (by show rs ≠ tb; omega))).trans h.rc

/-- The same, behind a world of some size. -/
structure QD (lo g : Nat) (a : Option Addr) (cap : Nat) (zs : List Int) (w : World) (rs tb : Nat) (ad : Option Addr) (cp : Nat) (ts : List En) (p : Nat) (W : World) : Prop where
  ld : LD5 g a cap zs w rs tb ad cp ts p W
  sz : lo ≤ W.heap.size
theorem QD.step {lo g : Nat} {a : Option Addr} {cap : Nat} {zs : List Int} {w : World} {rs tb : Nat} {ad : Option Addr} {cp : Nat} {ts : List En} {p p' : Nat} {W W' : World} (h : QD lo g a cap zs w rs tb ad cp ts p W) (hg : W.grownBy W' (some g)) (hR : Rd W' g a cap zs p') : QD lo g a cap zs w rs tb ad cp ts p' W' := ⟨h.ld.step hg hR, Nat.le_trans h.sz hg.size⟩
theorem QD.al {lo g : Nat} {a : Option Addr} {cap : Nat} {zs : List Int} {w : World} {rs tb : Nat} {ad : Option Addr} {cp : Nat} {ts : List En} {p : Nat} {W : World} (h : QD lo g a cap zs w rs tb ad cp ts p W) (o : Obj) : QD lo g a cap zs w rs tb ad cp ts p (W.alloc o) := ⟨h.ld.al o, Nat.le_trans h.sz (by simp)⟩
theorem QD.drew {lo g : Nat} {a : Option Addr} {cap : Nat} {zs : List Int} {w : World} {rs tb : Nat} {ad : Option Addr} {cp : Nat} {ts : List En} {p : Nat} {W : World} (h : QD lo g a cap zs w rs tb ad cp ts p W) : QD lo g a cap zs w rs tb ad cp ts p W.drew := ⟨h.ld.drew, h.sz⟩

/-- A box that was made beside. -/
structure NC (lo nc : Nat) (W : World) : Prop where
  cell : W.cell? ⟨nc, 0, none⟩ = some (.slice none 0 0)
  fz : W.frozen? ⟨nc, 0, none⟩ = false
  lo : lo ≤ nc
theorem NC.lt {lo nc : Nat} {W : World} (h : NC lo nc W) : nc < W.heap.size := World.block_lt_of_cell? W ⟨nc, 0, none⟩ h.cell
theorem NC.step {g lo nc : Nat} {W W' : World} (h : NC lo nc W) (hg : W.grownBy W' (some g)) (hgt : g < lo) : NC lo nc W' := by
  have b := hg.block nc h.lt (by have := h.lo; simp; omega)
  exact ⟨(World.cell?_of_block b).trans h.cell, fz_blk b h.fz, h.lo⟩
theorem NC.newA {g lo : Nat} {Y W' : World} {t : TypeId} (hs : lo ≤ Y.heap.size) (hg : (Y.alloc (.cells #[.slice none 0 0] t)).grownBy W' (some g)) (hgt : g < lo) : NC lo Y.heap.size W' := by
  have b := hg.block Y.heap.size (by simp) (by simp; omega)
  exact ⟨(World.cell?_of_block b).trans (by simp), fz_blk b (by simp), hs⟩
theorem NC.newD {g lo : Nat} {Y W' : World} {t : TypeId} (hs : lo ≤ Y.heap.size) (hg : (Y.alloc (.cells #[.slice none 0 0] t)).drew.grownBy W' (some g)) (hgt : g < lo) : NC lo Y.heap.size W' := by
  have b := hg.block Y.heap.size (by simp) (by simp; omega)
  exact ⟨(World.cell?_of_block b).trans (by simp), fz_blk b (by simp), hs⟩

/-- Behind spec.Put in a region that draws. -/
def CutP (g : Nat) (a : Option Addr) (cap : Nat) (zs : List Int) (w : World) (rs tb : Nat) (ad : Option Addr) (cp : Nat) (ts : List En) (P T p : Nat) (pv cc : Value) (W : World) : Prop :=
  ∃ us c ad' cp' nc p2 en, pv = .pointer (some ⟨nc, 0, none⟩) ∧ cc = .int .i64 c ∧ Tiny P T [en] ∧ PutR ts en us c ∧ EL (tb + 1) W ad' us ∧ W.cell? ⟨nc, 0, none⟩ = some (.slice ad' us.length cp') ∧ LD5 g a cap zs w rs tb ad cp ts p2 W ∧ p2 ≤ p
theorem cutP_mk {g : Nat} {a : Option Addr} {cap : Nat} {zs : List Int} {w : World} {rs tb : Nat} {ad ad' : Option Addr} {cp cp' : Nat} {ts us : List En} {P T p p2 : Nat} {c : Int} {en : En} {B : Nat} {W : World} (he : Tiny P T [en]) (hR : PutR ts en us c) (hel : EL B W ad' us) (hB : tb < B) (hl : LD5 g a cap zs w rs tb ad cp ts p2 W) (hp : p2 ≤ p) :
    CutP g a cap zs w rs tb ad cp ts P T p (.pointer (some ⟨W.heap.size, 0, none⟩)) (.int .i64 c) (W.alloc (.cells #[.slice ad' us.length cp'] 25)) :=
  ⟨us, c, ad', cp', W.heap.size, p2, en, rfl, rfl, he, hR, (hel.below (below_oneD _ _)).mono hB, by simp, hl.al _, hp⟩
theorem cutP_mk' {g : Nat} {a : Option Addr} {cap : Nat} {zs : List Int} {w : World} {rs tb : Nat} {ad ad' : Option Addr} {cp cp' : Nat} {ts us : List En} {P T p p2 : Nat} {c : Int} {en : En} {B nc : Nat} {W : World} (he : Tiny P T [en]) (hR : PutR ts en us c) (hel : EL B W ad' us) (hB : tb < B) (hl : LD5 g a cap zs w rs tb ad cp ts p2 W) (hp : p2 ≤ p) {lo : Nat} (N : NC lo nc W) (hn : nc < B) (hlo : tb < lo) (hw : w.heap.size ≤ tb) (hap : ts = [] ∨ ∃ k, blk ad = some k ∧ k < lo) :
    CutP g a cap zs w rs tb ad cp ts P T p (.pointer (some ⟨nc, 0, none⟩)) (.int .i64 c) (W.setCell ⟨nc, 0, none⟩ (.slice ad' us.length cp')) := by
  have hg : W.grownBy (W.setCell ⟨nc, 0, none⟩ (.slice ad' us.length cp')) (some nc) := grown_set W nc 0 _
  have o := hl.ord
  have lo := N.lo
  refine ⟨us, c, ad', cp', nc, p2, en, rfl, rfl, he, hR, (hel.grown hg (fun k _ hk _ e => by cases e; omega)).mono hB, World.cell?_setCell_same _ _ _ N.cell, ?_, hp⟩
  refine ⟨hl.rd.kept hg (fun k e => by cases e; omega), gr_own hl.gr hg (fun j e => by cases e; omega), ?_, (World.frozen?_setCell _ _ _ _).trans hl.rf, ?_, (World.frozen?_setCell _ _ _ _).trans hl.tf, ?_, o⟩
  · exact (World.cell?_of_block (Below.heap_setCell _ _ _ _ (by show rs ≠ nc; omega))).trans hl.rc
  · exact (World.cell?_of_block (Below.heap_setCell _ _ _ _ (by show tb ≠ nc; omega))).trans hl.tc
  · rcases hap with h | h
    · subst h; exact EL.nil _ _ _
    · obtain ⟨k0, h1, h2⟩ := h
      exact hl.el.grown hg (fun k hk _ _ e => by rw [h1] at hk; cases hk; cases e; omega)
end Go.Proofs.YtjiafjdjocmodaaGreat

namespace Go.Proofs.YtjiafjdjocmodaaGreat
open Go.RowKit

/-- The entries that lie under other paths. -/
def offP (ts : List En) (p : ByteArray) : List En := ts.filter fun e => !(e.path.toList == p.toList)
theorem offP_mem {ts : List En} {p : ByteArray} (e : En) : e ∈ offP ts p ↔ e ∈ ts ∧ e.path ≠ p := by
  unfold offP
  rw [List.mem_filter, Bool.not_eq_true']
  refine and_congr Iff.rfl ?_
  exact neb_iff
theorem offP_asc {ts : List En} {p : ByteArray} (h : Asc ts) : Asc (offP ts p) := List.Pairwise.filter _ h
theorem offP_take {ts : List En} {p : ByteArray} {k : Nat} (hk : k < ts.length) : offP (ts.take (k + 1)) p = if ts[k].path.toList == p.toList then offP (ts.take k) p else offP (ts.take k) p ++ [ts[k]] := by
  rw [List.take_succ_eq_append_getElem hk]
  unfold offP
  rw [List.filter_append]
  cases h : ts[k].path.toList == p.toList <;> simp [h]
theorem offP_len {ts : List En} {p : ByteArray} : (offP ts p).length ≤ ts.length := List.length_filter_le _ _

/-- What l6Lay makes. -/
def LayRel (ts : List En) (p : ByteArray) (f : Fl) (us : List En) : Prop :=
  if f.there = true then SetRel (offP ts p) ⟨p, f.text, f.runs⟩ us else us = offP ts p
theorem LayRel.asc {ts : List En} {p : ByteArray} {f : Fl} {us : List En} (hA : Asc ts) (h : LayRel ts p f us) : Asc us := by
  unfold LayRel at h
  split at h
  · exact h.asc
  · rw [h]; exact offP_asc hA
theorem LayRel.mem {ts : List En} {p : ByteArray} {f : Fl} {us : List En} (h : LayRel ts p f us) (e : En) : e ∈ us ↔ (f.there = true ∧ e = ⟨p, f.text, f.runs⟩) ∨ (e ∈ ts ∧ e.path ≠ p) := by
  unfold LayRel at h
  split at h
  · rename_i ht
    rw [h.mem, offP_mem]
    constructor
    · rintro (rfl | ⟨⟨h1, h2⟩, _⟩)
      · exact .inl ⟨ht, rfl⟩
      · exact .inr ⟨h1, h2⟩
    · rintro (⟨_, rfl⟩ | ⟨h1, h2⟩)
      · exact .inl rfl
      · exact .inr ⟨⟨h1, h2⟩, h2⟩
  · rename_i ht
    rw [h, offP_mem]
    constructor
    · exact .inr
    · rintro (⟨h1, _⟩ | h1)
      · exact absurd h1 ht
      · exact h1

/-- A list with all changes laid. -/
structure AppRel (ts : List En) (cs : List Ch) (us : List En) : Prop where
  asc : Asc us
  mem : ∀ e, e ∈ us ↔ (∃ c ∈ cs, c.new.there = true ∧ e = ⟨c.path, c.new.text, c.new.runs⟩) ∨ (e ∈ ts ∧ ∀ c ∈ cs, c.path ≠ e.path)
theorem AppRel.one {ts : List En} {cs : List Ch} {us us' : List En} (h : AppRel ts cs us) (h' : AppRel ts cs us') : us = us' :=
  asc_unique h.asc h'.asc (fun e => by rw [h.mem, h'.mem])
theorem AppRel.start {ts : List En} (h : Asc ts) : AppRel ts [] ts := ⟨h, fun e => by simp⟩
theorem AppRel.step {ts : List En} {cs : List Ch} {us us' : List En} {k : Nat} (hk : k < cs.length) (hC : AscK Ch.path cs) (h : AppRel ts (cs.take k) us) (hl : LayRel us cs[k].path cs[k].new us') : AppRel ts (cs.take (k + 1)) us' := by
  refine ⟨hl.asc h.asc, fun e => ?_⟩
  have hlt : ∀ c ∈ cs.take k, c.path ≠ cs[k].path := fun c hc => by
    obtain ⟨i, hi, rfl⟩ := List.getElem_of_mem hc
    rw [List.getElem_take]
    have hi2 : i < k := by simp at hi; omega
    exact less_ne (List.pairwise_iff_getElem.1 hC i k (by omega) hk hi2)
  have htk : ∀ c, c ∈ cs.take (k + 1) ↔ c ∈ cs.take k ∨ c = cs[k] := fun c => by
    rw [List.take_succ_eq_append_getElem hk, List.mem_append, List.mem_singleton]
  rw [hl.mem, h.mem]
  constructor
  · rintro (⟨h1, rfl⟩ | ⟨⟨c, hc, h1, rfl⟩ | ⟨h1, h2⟩, h3⟩)
    · exact .inl ⟨cs[k], (htk _).2 (.inr rfl), h1, rfl⟩
    · exact .inl ⟨c, (htk _).2 (.inl hc), h1, rfl⟩
    · refine .inr ⟨h1, fun c hc => ?_⟩
      rcases (htk c).1 hc with h4 | h4
      · exact h2 c h4
      · rw [h4]; exact fun e' => h3 e'.symm
  · rintro (⟨c, hc, h1, rfl⟩ | ⟨h1, h2⟩)
    · rcases (htk c).1 hc with h4 | h4
      · exact .inr ⟨.inl ⟨c, h4, h1, rfl⟩, hlt c h4⟩
      · subst h4; exact .inl ⟨h1, rfl⟩
    · exact .inr ⟨.inr ⟨h1, fun c hc => h2 c ((htk c).2 (.inl hc))⟩, fun e' => h2 cs[k] ((htk _).2 (.inr rfl)) e'.symm⟩

/-- What one round of impl's loop puts behind. -/
def outA (z : En) : Option En → Option Ch → List En
  | e, none => [e.getD z]
  | _, some c => if c.new.there = true then [⟨c.path, c.new.text, c.new.runs⟩] else []
theorem outA_some (z : En) (e : Option En) (c : Ch) : outA z e (some c) = if c.new.there = true then [⟨c.path, c.new.text, c.new.runs⟩] else [] := by cases e <;> rfl
theorem outA_none (z : En) (e : Option En) : outA z e none = [e.getD z] := by cases e <;> rfl
theorem app_rows {ts : List En} {cs : List Ch} {ns : List ByteArray} (z : En) (hN : AscN ns) (hm : ∀ p, p ∈ ns ↔ (∃ x ∈ ts, En.path x = p) ∨ ∃ y ∈ cs, Ch.path y = p) (hA : Asc ts) (hC : AscK Ch.path cs) :
    AppRel ts cs (ns.flatMap fun p => outA z (fnd En.path ts p) (fnd Ch.path cs p)) := by
  have hpath : ∀ p ∈ ns, ∀ e ∈ outA z (fnd En.path ts p) (fnd Ch.path cs p), e.path = p := fun p hp e he => by
    cases hc : fnd Ch.path cs p with
    | some c =>
      rw [hc, outA_some] at he
      split at he
      · rw [List.mem_singleton.1 he]; exact (fnd_some hc).2
      · cases he
    | none =>
      rw [hc, outA_none] at he
      have he2 : e = (fnd En.path ts p).getD z := List.mem_singleton.1 he
      cases ht : fnd En.path ts p with
      | some x => rw [ht] at he2; rw [he2]; exact (fnd_some ht).2
      | none =>
        exfalso
        rcases (hm p).1 hp with ⟨x, hx, hxp⟩ | ⟨x, hx, hxp⟩
        · unfold fnd at ht
          rw [List.find?_eq_none] at ht
          exact ht x hx (eqb_iff.2 hxp)
        · unfold fnd at hc
          rw [List.find?_eq_none] at hc
          exact hc x hx (eqb_iff.2 hxp)
  have hone : ∀ p, (outA z (fnd En.path ts p) (fnd Ch.path cs p)).length ≤ 1 := fun p => by
    cases fnd Ch.path cs p with
    | none => rw [outA_none]; simp
    | some c => rw [outA_some]; split <;> simp
  have uniqT : ∀ {x y : En}, x ∈ ts → y ∈ ts → x.path = y.path → x = y := fun {x y} hx hy hxy => by
    obtain ⟨i, hi, rfl⟩ := List.getElem_of_mem hx
    obtain ⟨j, hj, rfl⟩ := List.getElem_of_mem hy
    rcases Nat.lt_trichotomy i j with h | h | h
    · exact absurd hxy (less_ne (List.pairwise_iff_getElem.1 hA i j hi hj h))
    · subst h; rfl
    · exact absurd hxy.symm (less_ne (List.pairwise_iff_getElem.1 hA j i hj hi h))
  have uniqC : ∀ {x y : Ch}, x ∈ cs → y ∈ cs → x.path = y.path → x = y := fun {x y} hx hy hxy => by
    obtain ⟨i, hi, rfl⟩ := List.getElem_of_mem hx
    obtain ⟨j, hj, rfl⟩ := List.getElem_of_mem hy
    rcases Nat.lt_trichotomy i j with h | h | h
    · exact absurd hxy (less_ne (List.pairwise_iff_getElem.1 hC i j hi hj h))
    · subst h; rfl
    · exact absurd hxy.symm (less_ne (List.pairwise_iff_getElem.1 hC j i hj hi h))
  refine ⟨?_, fun e => ?_⟩
  · have key : ∀ l : List ByteArray, AscN l → (∀ p ∈ l, p ∈ ns) → Asc (l.flatMap fun p => outA z (fnd En.path ts p) (fnd Ch.path cs p)) := by
      intro l
      induction l with
      | nil => intro _ _; exact List.Pairwise.nil
      | cons p l ih =>
        intro hl hs
        obtain ⟨h1, h2⟩ := List.pairwise_cons.1 hl
        rw [List.flatMap_cons]
        refine List.pairwise_append.2 ⟨?_, ih h2 (fun q hq => hs q (by simp [hq])), fun x hx y hy => ?_⟩
        · have h3 := hone p
          generalize outA z (fnd En.path ts p) (fnd Ch.path cs p) = m at h3
          match m, h3 with
          | [], _ => exact List.Pairwise.nil
          | [x], _ => exact List.pairwise_singleton _ _
        · obtain ⟨q, hq, hy2⟩ := List.mem_flatMap.1 hy
          rw [hpath p (hs p (by simp)) x hx, hpath q (hs q (by simp [hq])) y hy2]
          exact h1 q hq
    exact key ns hN (fun p hp => hp)
  · constructor
    · intro he
      obtain ⟨p, hp, he2⟩ := List.mem_flatMap.1 he
      cases hc : fnd Ch.path cs p with
      | some c =>
        rw [hc, outA_some] at he2
        split at he2
        · rename_i hth
          exact .inl ⟨c, (fnd_some hc).1, hth, List.mem_singleton.1 he2⟩
        · cases he2
      | none =>
        have hpe := hpath p hp e he2
        rw [hc, outA_none] at he2
        have he3 : e = (fnd En.path ts p).getD z := List.mem_singleton.1 he2
        cases ht : fnd En.path ts p with
        | some x =>
          rw [ht] at he3
          have he4 : e = x := he3
          subst he4
          refine .inr ⟨(fnd_some ht).1, fun c hcc e' => ?_⟩
          unfold fnd at hc
          rw [List.find?_eq_none] at hc
          exact hc c hcc (eqb_iff.2 (by rw [e', hpe]))
        | none =>
          exfalso
          rcases (hm p).1 hp with ⟨x, hx, hxp⟩ | ⟨x, hx, hxp⟩
          · unfold fnd at ht
            rw [List.find?_eq_none] at ht
            exact ht x hx (eqb_iff.2 hxp)
          · unfold fnd at hc
            rw [List.find?_eq_none] at hc
            exact hc x hx (eqb_iff.2 hxp)
    · rintro (⟨c, hc, hth, rfl⟩ | ⟨he, hno⟩)
      · refine List.mem_flatMap.2 ⟨c.path, (hm _).2 (.inr ⟨c, hc, rfl⟩), ?_⟩
        have hf : fnd Ch.path cs c.path = some c := by
          cases h : fnd Ch.path cs c.path with
          | none =>
            unfold fnd at h
            rw [List.find?_eq_none] at h
            exact absurd (eqb_iff.2 rfl) (h c hc)
          | some d => rw [uniqC (fnd_some h).1 hc (fnd_some h).2]
        rw [hf, outA_some, if_pos hth]
        simp
      · refine List.mem_flatMap.2 ⟨e.path, (hm _).2 (.inl ⟨e, he, rfl⟩), ?_⟩
        have hf : fnd En.path ts e.path = some e := by
          cases h : fnd En.path ts e.path with
          | none =>
            unfold fnd at h
            rw [List.find?_eq_none] at h
            exact absurd (eqb_iff.2 rfl) (h e he)
          | some d => rw [uniqT (fnd_some h).1 he (fnd_some h).2]
        have hg : fnd Ch.path cs e.path = none := fnd_none (fun c hc => hno c hc)
        rw [hf, hg, outA_none]
        simp
end Go.Proofs.YtjiafjdjocmodaaGreat

namespace Go.Proofs.YtjiafjdjocmodaaGreat
open Go.RowKit

def LayPost6 (ts : List En) (p : ByteArray) (f : Fl) (w : World) (e : Ending) (w' : World) : Prop :=
  ∃ ad cap us, e = .returned (.agg #[.slice ad us.length cap]) ∧ LayRel ts p f us ∧ EL w.heap.size w' ad us ∧ Below w.heap.size w w' ∧ us.length ≤ ts.length + 1

def LayPost6C (ts : List En) (p : ByteArray) (f : Fl) (w : World) (e : Ending) (w' : World) : Prop :=
  ∃ ad cap us, e = .returned (.agg #[.slice ad us.length cap]) ∧ LayRel ts p f us ∧ EL w.heap.size w' ad us ∧ Below w.heap.size w w' ∧ us.length ≤ ts.length + 1 ∧ us.length ≤ cap

set_option maxRecDepth 100000 in
set_option maxHeartbeats 8000000 in
theorem l6LayC_any (a : Option Addr) (cap : Nat) (ts : List En) (p : ByteArray) (f : Fl) (w : World) (hts : ES w a ts) (hn : ts.length ≤ 1000000) (hA : Asc ts) :
    Calls Tryz.prog 22 #[.agg #[.slice a ts.length cap], .string p, .agg #[.bool f.there, .string f.text, .bool f.runs]] w fun e w' => LayPost6C ts p f w e w' := by
  obtain ⟨i0, hi, hz0, hz1, hz2⟩ := info_parts Tryz.infoEntry
  have hal : Below w.heap.size w ((((w.alloc (.cells #[.slice a ts.length cap] 25)).alloc (.cells #[.bool f.there, .string f.text, .bool f.runs] 51)).alloc (.cells #[.slice none 0 0] 25)).alloc (.cells #[.slice none 0 0] 25)) := ((((Below.refl _ _).alloc (Nat.le_refl _) _).alloc (by simp) _).alloc (by simp; omega) _).alloc (by simp; omega) _
  have m0 : ((((w.alloc (.cells #[.slice a ts.length cap] 25)).alloc (.cells #[.bool f.there, .string f.text, .bool f.runs] 51)).alloc (.cells #[.slice none 0 0] 25)).alloc (.cells #[.slice none 0 0] 25)).cell? ⟨w.heap.size, 0, none⟩ = some (.slice a ts.length cap) := by simp [go_sem]
  have f0 : ((((w.alloc (.cells #[.slice a ts.length cap] 25)).alloc (.cells #[.bool f.there, .string f.text, .bool f.runs] 51)).alloc (.cells #[.slice none 0 0] 25)).alloc (.cells #[.slice none 0 0] 25)).cell? ⟨w.heap.size + 1, 0, none⟩ = some (.bool f.there) := by simp [go_sem]
  have f1 : ((((w.alloc (.cells #[.slice a ts.length cap] 25)).alloc (.cells #[.bool f.there, .string f.text, .bool f.runs] 51)).alloc (.cells #[.slice none 0 0] 25)).alloc (.cells #[.slice none 0 0] 25)).cell? ⟨w.heap.size + 1, 1, none⟩ = some (.string f.text) := by simp [go_sem]
  have f2 : ((((w.alloc (.cells #[.slice a ts.length cap] 25)).alloc (.cells #[.bool f.there, .string f.text, .bool f.runs] 51)).alloc (.cells #[.slice none 0 0] 25)).alloc (.cells #[.slice none 0 0] 25)).cell? ⟨w.heap.size + 1, 2, none⟩ = some (.bool f.runs) := by simp [go_sem]
  have k0 : ((((w.alloc (.cells #[.slice a ts.length cap] 25)).alloc (.cells #[.bool f.there, .string f.text, .bool f.runs] 51)).alloc (.cells #[.slice none 0 0] 25)).alloc (.cells #[.slice none 0 0] 25)).cell? ⟨w.heap.size + 1 + 1, 0, none⟩ = some (.slice none 0 0) := by simp [go_sem]
  have kf : ((((w.alloc (.cells #[.slice a ts.length cap] 25)).alloc (.cells #[.bool f.there, .string f.text, .bool f.runs] 51)).alloc (.cells #[.slice none 0 0] 25)).alloc (.cells #[.slice none 0 0] 25)).frozen? ⟨w.heap.size + 1 + 1, 0, none⟩ = false := by simp [go_sem]
  have o0 : ((((w.alloc (.cells #[.slice a ts.length cap] 25)).alloc (.cells #[.bool f.there, .string f.text, .bool f.runs] 51)).alloc (.cells #[.slice none 0 0] 25)).alloc (.cells #[.slice none 0 0] 25)).cell? ⟨w.heap.size + 1 + 1 + 1, 0, none⟩ = some (.slice none 0 0) := by simp [go_sem]
  have of0 : ((((w.alloc (.cells #[.slice a ts.length cap] 25)).alloc (.cells #[.bool f.there, .string f.text, .bool f.runs] 51)).alloc (.cells #[.slice none 0 0] 25)).alloc (.cells #[.slice none 0 0] 25)).frozen? ⟨w.heap.size + 1 + 1 + 1, 0, none⟩ = false := by simp [go_sem]
  have os0 : w.heap.size + 1 + 1 + 1 < ((((w.alloc (.cells #[.slice a ts.length cap] 25)).alloc (.cells #[.bool f.there, .string f.text, .bool f.runs] 51)).alloc (.cells #[.slice none 0 0] 25)).alloc (.cells #[.slice none 0 0] 25)).heap.size := by simp [go_sem]
  go_enter Tryz.func22, Tryz.ntmps22
  go_wp2
  generalize (((w.alloc (.cells #[.slice a ts.length cap] 25)).alloc (.cells #[.bool f.there, .string f.text, .bool f.runs] 51)).alloc (.cells #[.slice none 0 0] 25)).alloc (.cells #[.slice none 0 0] 25) = W at *
  obtain ⟨ob, hob⟩ : ∃ ob, ob = w.heap.size + 1 + 1 + 1 := ⟨_, rfl⟩
  obtain ⟨g, hg⟩ : ∃ g, g = w.heap.size + 1 + 1 := ⟨_, rfl⟩
  obtain ⟨fb, hfb⟩ : ∃ fb, fb = w.heap.size + 1 := ⟨_, rfl⟩
  obtain ⟨ta, hta⟩ : ∃ ta, ta = w.heap.size := ⟨_, rfl⟩
  rw [← hob] at o0 of0 os0 ⊢
  rw [← hg] at k0 kf ⊢
  rw [← hfb] at f0 f1 f2 ⊢
  rw [← hta] at m0 ⊢
  have HS : Keep (ta = w.heap.size ∧ fb = w.heap.size + 1 ∧ g = w.heap.size + 2 ∧ ob = w.heap.size + 3 ∧ ob < W.heap.size) := ⟨by omega⟩
  have hst0 := OutSt.start o0 of0 os0
  clear hob hg hfb hta o0 of0 os0
  go_loopw [8] (fun i wr => ∃ (k : Nat) (v : Value), i = .int .i64 k ∧ k ≤ ts.length ∧ OutSt ob W v (offP (ts.take k) p) wr) (fun i _ => ts.length - (intOf i).toNat)
  case atStart => exact ⟨0, _, rfl, Nat.zero_le _, hst0⟩
  case round =>
    clear hst0
    obtain ⟨k, v, rfl, hk, hst⟩ := hrel
    have hbr := hst.below hal (by have := HS.out; omega)
    have mr := hst.keep m0 (by have := HS.out; omega) (by have := HS.out; omega)
    by_cases hlt : k < ts.length
    · have hlt' : (k : Int) < ts.length := by omega
      obtain ⟨b, off, rfl, hc⟩ := (hts.below hbr).at hlt
      obtain ⟨x0, x1, x2⟩ := hc k hlt
      have hwt := offP_take (p := p) hlt
      cases hq : (ts[k].path.toList == p.toList) with
      | true =>
        rw [hq] at hwt
        simp only [if_true] at hwt
        have HW : Keep (offP (ts.take (k + 1)) p = offP (ts.take k) p) := ⟨hwt⟩
        have hq2 : (ts[k].path.toList != p.toList) = false := by simpa using hq
        clear hwt hc
        go_wp2
        go_roundw
        case rel => exact ⟨k + 1, v, by congr 1, hlt, by rw [HW.out]; exact hst⟩
        case measure => simp only [intOf]; omega
      | false =>
        rw [hq] at hwt
        simp only [Bool.false_eq_true, if_false] at hwt
        have HW : Keep (offP (ts.take (k + 1)) p = offP (ts.take k) p ++ [ts[k]]) := ⟨hwt⟩
        have hq2 : (ts[k].path.toList != p.toList) = true := by simpa using hq
        have hlen : (offP (ts.take k) p).length ≤ 1048576 := Nat.le_trans offP_len (by simp; omega)
        clear hwt hc
        generalize offP (ts.take k) p = us at *
        have hb1 : Below wr.heap.size wr (wr.alloc (.cells #[.string ts[k].path, .string ts[k].text, .bool ts[k].runs] 55)).drew := ((Below.refl _ _).alloc (Nat.le_refl _) _).drew
        have o1 := hst.cell
        have o1a : ∀ o, (wr.alloc o).cell? ⟨ob, 0, none⟩ = some v := fun o => cell_later ((Below.refl _ _).alloc (Nat.le_refl _) o) o1
        have HST : Keep (OutSt ob W v us wr) := ⟨hst⟩
        have hgs := hst.grown.size
        clear hst hbr
        go_wp2_with fail
        go_region_law (refine step_append_lies _ rfl _ _ 23 rfl W.heap.size 55 i0 _ 3 40 Tryz.underlying23 hi hz0 hz1 hz2 rfl (by decide) v us.length (ecells us) rfl (by exact owns_below HST.out.row hb1) ⟨wr.heap.size, 0, none⟩ 1 1 (ecell ts[k]) rfl rfl (by exact news_3 _ _ _ _ (by simp)) (by exact one_3 _) (by omega) (by unfold maxLen; omega) (by omega) (by simp; omega) (wr.heap.size + 1) (by simp) ?_; intro g2 cap2 w2 hown2 hgrow2 hat2 hlt2; have hm3 := HST.out.mid hb1 hgrow2; have oc3 := hm3.1; have of3 := hm3.2)
        all_goals
          have hst3 := HST.out.append hb1 hgrow2 hown2
          clear hm3 oc3 of3 hgrow2 hown2 hat2 hlt2 o1 o1a x0 x1 x2 mr HST
          go_wp2
          go_roundw
          case rel => exact ⟨k + 1, _, by congr 1, hlt, by rw [HW.out]; exact hst3⟩
          case measure => simp only [intOf]; omega
    · obtain rfl : k = ts.length := by omega
      rw [List.take_length] at hst
      have k2 := hst.keep k0 (by have := HS.out; omega) (by have := HS.out; omega)
      have g0 := hst.keep f0 (by have := HS.out; omega) (by have := HS.out; omega)
      have g1 := hst.keep f1 (by have := HS.out; omega) (by have := HS.out; omega)
      have g2 := hst.keep f2 (by have := HS.out; omega) (by have := HS.out; omega)
      have kf2 : wr.frozen? ⟨g, 0, none⟩ = false := frozen_of (hst.grown.block g (by have := HS.out; omega) (fun e => by have := HS.out; cases e; omega)) kf
      obtain ⟨ad, cap2, rfl⟩ := owns_slice hst.row
      have o2 := hst.cell
      have of2 := hst.fz
      have hel := el_of_row hst.row
      have hgo : ¬ g = ob := by have := HS.out; omega
      have hog : ¬ ob = g := by have := HS.out; omega
      cases ht : f.there with
      | false =>
        rw [ht] at g0
        have HB : Keep (LayPost6C ts p f w (.returned (.agg #[.slice ad (offP ts p).length cap2])) (wr.setCell ⟨g, 0, none⟩ (.slice ad (offP ts p).length cap2))) := ⟨⟨ad, cap2, offP ts p, rfl, by unfold LayRel; rw [if_neg (by rw [ht]; simp)], (hel.grown (row := some g) (grown_set0 wr g 0 _) (fun j _ hj _ e => by have := HS.out; cases e; omega)).mono (show w.heap.size ≤ W.heap.size by have := HS.out; omega), hbr.setCell (p := ⟨g, 0, none⟩) (by have := HS.out; show _ ≤ g; omega) _, Nat.le_trans offP_len (by omega), row_room hst.row⟩⟩
        clear hel hst hbr
        generalize offP ts p = us at *
        go_wp2
        refine bodyPost_ret (v := .agg #[.slice ad us.length cap2]) ?_ rfl HB.out
        go_light
        simp [results, Tryz.results22, go_sem, k2]
      | true =>
        rw [ht] at g0
        have hset := l5SetC_any ad cap2 (offP ts p) ⟨p, f.text, f.runs⟩ wr hel.es (Nat.le_trans offP_len (by omega)) (offP_asc hA)
        have hol : (offP ts p).length ≤ ts.length := offP_len
        have HST : Keep (OutSt ob W (.slice ad (offP ts p).length cap2) (offP ts p) wr) := ⟨hst⟩
        clear hel hst
        go_wp2_with fail
        refine hset.mono ?_
        rintro e w3 ⟨ad3, cap3, us, rfl, hrel, hel3, hb3, hus, hrm3⟩
        replace k2 := cell_later hb3 k2
        replace o2 := cell_later hb3 o2
        replace kf2 : w3.frozen? ⟨g, 0, none⟩ = false := (hb3.frozen (p := ⟨g, 0, none⟩) (World.block_lt_of_cell? wr ⟨g, 0, none⟩ (HST.out.keep k0 (by have := HS.out; omega) (by have := HS.out; omega)))).trans kf2
        replace of2 : w3.frozen? ⟨ob, 0, none⟩ = false := (hb3.frozen (p := ⟨ob, 0, none⟩) HST.out.size).trans of2
        have hgw := HST.out.grown.size
        have h31 := hel3.grown (row := some ob) (grown_set0 w3 ob 0 (.slice ad3 us.length cap3)) (fun j _ hj _ e => by have := HS.out; cases e; omega)
        have h32 := h31.grown (row := some g) (grown_set0 _ g 0 (.slice ad3 us.length cap3)) (fun j _ hj _ e => by have := HS.out; cases e; omega)
        have hb4 := ((hbr.trans (hb3.mono hbr.size)).setCell (p := ⟨ob, 0, none⟩) (by have := HS.out; show _ ≤ ob; omega) (.slice ad3 us.length cap3)).setCell (p := ⟨g, 0, none⟩) (by have := HS.out; show _ ≤ g; omega) (.slice ad3 us.length cap3)
        have HB : Keep (LayPost6C ts p f w (.returned (.agg #[.slice ad3 us.length cap3])) ((w3.setCell ⟨ob, 0, none⟩ (.slice ad3 us.length cap3)).setCell ⟨g, 0, none⟩ (.slice ad3 us.length cap3))) := ⟨⟨ad3, cap3, us, rfl, by unfold LayRel; rw [if_pos ht]; exact hrel, h32.mono (show w.heap.size ≤ wr.heap.size by have := HS.out; omega), hb4, by omega, hrm3⟩⟩
        clear hel3 h31 h32 hb4 hb3 hset hbr HST
        go_wp2
        refine bodyPost_ret (v := .agg #[.slice ad3 us.length cap3]) ?_ rfl HB.out
        go_light
        simp [results, Tryz.results22, go_sem, k2]
theorem l6Lay_any (a : Option Addr) (cap : Nat) (ts : List En) (p : ByteArray) (f : Fl) (w : World) (hts : ES w a ts) (hn : ts.length ≤ 1000000) (hA : Asc ts) :
    Calls Tryz.prog 22 #[.agg #[.slice a ts.length cap], .string p, .agg #[.bool f.there, .string f.text, .bool f.runs]] w fun e w' => LayPost6 ts p f w e w' :=
  (l6LayC_any a cap ts p f w hts hn hA).mono (fun _ _ ⟨ad, cp, us, h1, h2, h3, h4, h5, _⟩ => ⟨ad, cp, us, h1, h2, h3, h4, h5⟩)
end Go.Proofs.YtjiafjdjocmodaaGreat

namespace Go.Proofs.YtjiafjdjocmodaaGreat
open Go.RowKit

theorem conv_oneM (x : Int) (w : World) : (convert 22 9 (.slice (some ⟨w.heap.size, 0, none⟩) 1 1)).run Tryz.prog (w.alloc (.cells #[.int .u8 x] 5)) = .ok (.string (strOfNums [x])) (w.alloc (.cells #[.int .u8 x] 5)) := by
  refine run_convert_bytes_arg _ 22 5 Tryz.underlying22 Tryz.underlying5 _ 0 1 1 [x] rfl ?_ 9 Tryz.underlying9
  intro i hi
  obtain rfl : i = 0 := by omega
  simp

set_option maxHeartbeats 1000000 in
theorem dec_any (n : Nat) (w : World) (hn : n < 10) :
    Calls Tryz.prog 25 #[.int .i64 (n : Int)] w fun e w' => ∃ s : ByteArray, e = .returned (.string s) ∧ s.size = 1 ∧ Below w.heap.size w w' := by
  have hcv := conv_oneM (48 + (n : Int)) w
  have hn' : (n : Int) < 10 := by omega
  go_enter Tryz.func25, Tryz.ntmps25
  go_wp2
  go_ret
  exact ⟨_, rfl, by rw [strOfNums_size]; rfl, (Below.refl _ _).alloc (Nat.le_refl _) _⟩
end Go.Proofs.YtjiafjdjocmodaaGreat

namespace Go.Proofs.YtjiafjdjocmodaaGreat
open Go.RowKit

def tTab (n q r : Nat) : Nat → Option Value
  | 0 => some (.int .i64 n)
  | 1 => some (.int .i64 (q : Int))
  | 3 => some (.int .i64 n)
  | 4 => some (.int .i64 (r : Int))
  | 5 => some (.int .i64 (48 + (r : Int)))
  | 6 => some (.int .u8 (48 + (r : Int)))
  | 8 => some (.string (strOfNums [48 + (r : Int)]))
  | _ => none
def tEx (r : Nat) : Nat → Value → World → Prop
  | 2 => fun v _ => ∃ s : ByteArray, v = .string s ∧ s.size = 1
  | 7 => fun v w => ∃ b, v = .slice (some ⟨b, 0, none⟩) 1 1 ∧ w.cell? ⟨b, 0, none⟩ = some (.int .u8 (48 + (r : Int)))
  | 9 => fun v _ => ∃ s : ByteArray, v = .string s ∧ s.size ≤ 2
  | 10 => fun v _ => ∃ s : ByteArray, v = .string s ∧ s.size ≤ 2
  | _ => fun _ _ => True
theorem tSt (r : Nat) : ∀ i v w w', Below w.heap.size w w' → tEx r i v w → tEx r i v w' := fun i v w w' hb h => by
  match i, h with
  | 2, h => exact h
  | 7, ⟨b, h1, h2⟩ => exact ⟨b, h1, cell_later hb h2⟩
  | 9, h => exact h
  | 10, h => exact h
  | 0, h | 1, h | 3, h | 4, h | 5, h | 6, h | 8, h => exact h
  | (_ + 11), h => exact h
def tDs : List Nat := [10, 11, 12, 13, 14, 15, 16, 17, 18, 19, 2]
theorem tNd : tDs.Nodup := by decide
theorem conv_at (x : Int) (w : World) (b : Nat) (h : w.cell? ⟨b, 0, none⟩ = some (.int .u8 x)) : (convert 22 9 (.slice (some ⟨b, 0, none⟩) 1 1)).run Tryz.prog w = .ok (.string (strOfNums [x])) w := by
  refine run_convert_bytes_arg _ 22 5 Tryz.underlying22 Tryz.underlying5 _ 0 1 1 [x] rfl ?_ 9 Tryz.underlying9
  intro i hi
  obtain rfl : i = 0 := by omega
  simpa using h

set_option maxRecDepth 100000 in
set_option maxHeartbeats 4000000 in
theorem dec2_any (n : Nat) (w : World) (hn : n < 100) :
    Calls Tryz.prog 25 #[.int .i64 (n : Int)] w fun e w' => ∃ s : ByteArray, e = .returned (.string s) ∧ s.size ≤ 2 ∧ Below w.heap.size w w' := by
  by_cases h10 : n < 10
  · refine (dec_any n w h10).mono ?_
    rintro e w' ⟨s, h1, h2, h3⟩
    exact ⟨s, h1, by omega, h3⟩
  · have hn' : ¬ (n : Int) < 10 := by omega
    obtain ⟨q, hq⟩ : ∃ q : Nat, (n : Int) / 10 = q := ⟨n / 10, by omega⟩
    obtain ⟨r, hr⟩ : ∃ r : Nat, (n : Int) % 10 = r := ⟨n % 10, by omega⟩
    have hq9 : q < 10 := by omega
    have hr9 : r < 10 := by omega
    have hd := fun W => dec_any q W hq9
    have w1 : IntKind.i64.wrap (q : Int) = q := by rw [IntKind.wrap_i64] <;> omega
    have w2 : IntKind.i64.wrap (48 + (r : Int)) = 48 + r := by rw [IntKind.wrap_i64] <;> omega
    have w3 : IntKind.u8.wrap (48 + (r : Int)) = 48 + r := by first | (rw [IntKind.wrap_u8] <;> omega) | (simp [IntKind.wrap]; omega) | (unfold IntKind.wrap; simp; omega)
    have hr2 : (n : Int).tmod 10 = r := by rw [← hr]; exact Int.tmod_eq_emod_of_nonneg (by omega)
    have hq2 : (n : Int).tdiv 10 = q := by rw [← hq]; exact Int.tdiv_eq_ediv_of_nonneg (by omega)
    go_enter Tryz.func25, Tryz.ntmps25
    go_upto_region 3 with fail
    refine (wpIn_wide (n := 0)).1 ?_
    refine wpIn_region_inv0 (by kernel_rfl) (by kernel_rfl) (fun T0 => EV0 T0 tDs (tTab n q r) (tEx r) w) ?_ ?_ ?_
    · exact ⟨Sl2.start _, (Below.refl _ _).drew, fun i _ hL => by rw [getD_repl] at hL; cases hL⟩
    · intro L a2 w9 hinv hall
      obtain ⟨s, hs1, hs2⟩ : ∃ s : ByteArray, a2.eval (.tmp 2) = .string s ∧ s.size ≤ 2 := hinv.ex 10 (by decide) (hall 10 (by decide))
      have e2 : a2.tmps.getD 2 undef = .string s := hs1
      have HXX : Keep _ := ⟨hinv.sl.act⟩
      have hb9 := hinv.wd
      clear hinv hall
      rw [HXX.out]
      simp only [updL, tDs, List.contains_cons, List.contains_nil, Nat.reduceAdd, Nat.reduceBEq, Bool.or_false, cond_false, cond_true, Bool.or_true, e2]
      go_wp2
      go_ret
      exact ⟨s, rfl, hs2, hb9⟩
    · intro L a2 w9 i o hinv hcl hL ho hdep
      have hi11 : i < 11 := (Array.getElem?_eq_some_iff.1 ho).1
      unfold wpOpIn
      rw [ho]
      clear hcl
      match i, hi11, hL, ho, hdep with
      | 0, _, hL, ho, hdep =>
        injection ho with ho; subst ho
        dsimp only
        rw [if_pos (by rfl)]
        refine ⟨fun f _ => trivial, ?_⟩
        have e0 : a2.tmps[0]?.getD undef = .int .i64 (n : Int) := hinv.sl.old (by decide)
        go_simp
        exact hinv.step tNd (tSt r) (i := 0) (by decide) (by show 10 < 20; decide) (fun u hu => by cases hu; rfl) trivial (Below.refl _ _)
      | 1, _, hL, ho, hdep =>
        injection ho with ho; subst ho
        dsimp only
        rw [if_pos (by rfl)]
        refine ⟨fun f _ => trivial, ?_⟩
        have e10 : a2.tmps[10]?.getD undef = .int .i64 (n : Int) := hinv.sl.new (i := 0) (by decide) rfl (hdep ⟨0, .data⟩ (by simp) rfl)
        go_simp
        exact hinv.step tNd (tSt r) (i := 1) (by decide) (by show 11 < 20; decide) (fun u hu => by cases hu; rfl) trivial (Below.refl _ _)
      | 2, _, hL, ho, hdep =>
        injection ho with ho; subst ho
        dsimp only
        rw [if_pos (by rfl)]
        refine ⟨fun f _ => trivial, ?_⟩
        have e11 : a2.tmps[11]?.getD undef = .int .i64 (q : Int) := hinv.sl.new (i := 1) (by decide) rfl (hdep ⟨1, .data⟩ (by simp) rfl)
        go_simp
        refine ⟨rfl, CallsIn.mono (callsIn_wide.2 (hd _)) ?_⟩
        rintro e' w' ⟨s, rfl, hs, hb'⟩
        exact hinv.step tNd (tSt r) (i := 2) (by decide) (by show 12 < 20; decide) (fun u hu => by cases hu) ⟨s, rfl, hs⟩ hb'
      | 3, _, hL, ho, hdep =>
        injection ho with ho; subst ho
        dsimp only
        rw [if_pos (by rfl)]
        refine ⟨fun f _ => trivial, ?_⟩
        have e0 : a2.tmps[0]?.getD undef = .int .i64 (n : Int) := hinv.sl.old (by decide)
        go_simp
        exact hinv.step tNd (tSt r) (i := 3) (by decide) (by show 13 < 20; decide) (fun u hu => by cases hu; rfl) trivial (Below.refl _ _)
      | 4, _, hL, ho, hdep =>
        injection ho with ho; subst ho
        dsimp only
        rw [if_pos (by rfl)]
        refine ⟨fun f _ => trivial, ?_⟩
        have e13 : a2.tmps[13]?.getD undef = .int .i64 (n : Int) := hinv.sl.new (i := 3) (by decide) rfl (hdep ⟨3, .data⟩ (by simp) rfl)
        go_simp
        exact hinv.step tNd (tSt r) (i := 4) (by decide) (by show 14 < 20; decide) (fun u hu => by cases hu; rfl) trivial (Below.refl _ _)
      | 5, _, hL, ho, hdep =>
        injection ho with ho; subst ho
        dsimp only
        rw [if_pos (by rfl)]
        refine ⟨fun f _ => trivial, ?_⟩
        have e14 : a2.tmps[14]?.getD undef = .int .i64 (r : Int) := hinv.sl.new (i := 4) (by decide) rfl (hdep ⟨4, .data⟩ (by simp) rfl)
        go_simp
        exact hinv.step tNd (tSt r) (i := 5) (by decide) (by show 15 < 20; decide) (fun u hu => by cases hu; rfl) trivial (Below.refl _ _)
      | 6, _, hL, ho, hdep =>
        injection ho with ho; subst ho
        dsimp only
        rw [if_pos (by rfl)]
        refine ⟨fun f _ => trivial, ?_⟩
        have e15 : a2.tmps[15]?.getD undef = .int .i64 (48 + (r : Int)) := hinv.sl.new (i := 5) (by decide) rfl (hdep ⟨5, .data⟩ (by simp) rfl)
        go_simp
        exact hinv.step tNd (tSt r) (i := 6) (by decide) (by show 16 < 20; decide) (fun u hu => by cases hu; rfl) trivial (Below.refl _ _)
      | 7, _, hL, ho, hdep =>
        injection ho with ho; subst ho
        dsimp only
        rw [if_pos (by rfl)]
        refine ⟨fun f _ => trivial, ?_⟩
        have e16 : a2.tmps[16]?.getD undef = .int .u8 (48 + (r : Int)) := hinv.sl.new (i := 6) (by decide) rfl (hdep ⟨6, .data⟩ (by simp) rfl)
        go_simp
        exact hinv.step tNd (tSt r) (i := 7) (by decide) (by show 17 < 20; decide) (fun u hu => by cases hu) ⟨w9.heap.size, rfl, by simp⟩ ((Below.refl _ _).alloc (Nat.le_refl _) _)
      | 8, _, hL, ho, hdep =>
        injection ho with ho; subst ho
        dsimp only
        rw [if_pos (by rfl)]
        refine ⟨fun f _ => trivial, ?_⟩
        obtain ⟨b7, h71, h72⟩ := hinv.ex 7 (by decide) (hdep ⟨7, .data⟩ (by simp) rfl)
        have e17 : a2.tmps[17]?.getD undef = .slice (some ⟨b7, 0, none⟩) 1 1 := evalD2 h71
        have hcv := conv_at _ w9 b7 h72
        go_simp
        exact hinv.step tNd (tSt r) (i := 8) (by decide) (by show 18 < 20; decide) (fun u hu => by cases hu; rfl) trivial (Below.refl _ _)
      | 9, _, hL, ho, hdep =>
        injection ho with ho; subst ho
        dsimp only
        rw [if_pos (by rfl)]
        refine ⟨fun f _ => trivial, ?_⟩
        obtain ⟨s, h21, h22⟩ := hinv.ex 2 (by decide) (hdep ⟨2, .data⟩ (by simp) rfl)
        have e12 : a2.tmps[12]?.getD undef = .string s := evalD2 h21
        have e18 : a2.tmps[18]?.getD undef = .string (strOfNums [48 + (r : Int)]) := hinv.sl.new (i := 8) (by decide) rfl (hdep ⟨8, .data⟩ (by simp) rfl)
        have hc3 : ¬ 9223372036854775807 < s.size + (strOfNums [48 + (r : Int)]).size := by rw [h22, strOfNums_size]; simp
        go_simp
        exact hinv.step tNd (tSt r) (i := 9) (by decide) (by show 19 < 20; decide) (fun u hu => by cases hu) ⟨_, rfl, by rw [ByteArray.size_append, h22]; first | omega | (rw [strOfNums_size]; simp)⟩ (Below.refl _ _)
      | 10, _, hL, ho, hdep =>
        injection ho with ho; subst ho
        dsimp only
        rw [if_pos (by rfl)]
        refine ⟨fun f _ => trivial, ?_⟩
        obtain ⟨s, h91, h92⟩ := hinv.ex 9 (by decide) (hdep ⟨9, .data⟩ (by simp) rfl)
        have e19 : a2.tmps[19]?.getD undef = .string s := evalD2 h91
        go_simp
        exact hinv.step tNd (tSt r) (i := 10) (by decide) (by show 2 < 20; decide) (fun u hu => by cases hu) ⟨s, rfl, h92⟩ (Below.refl _ _)
end Go.Proofs.YtjiafjdjocmodaaGreat

namespace Go.Proofs.YtjiafjdjocmodaaGreat
open Go.RowKit

/-- A tree: where its entries lie, their room. -/
structure Tr where
  ad : Option Addr
  cp : Nat
  ts : List En
def Tr.v (t : Tr) : Value := .slice t.ad t.ts.length t.cp
/-- A tree in a box b; its entries lie in no block of F. -/
structure TX (F : List Nat) (b : Nat) (t : Tr) (W : World) : Prop where
  c : W.cell? ⟨b, 0, none⟩ = some (.slice t.ad t.ts.length t.cp)
  f : W.frozen? ⟨b, 0, none⟩ = false
  el : EL 0 W t.ad t.ts
  ne : t.ts = [] ∨ ∀ k ∈ F, blk t.ad ≠ some k
  rm : t.ts.length ≤ t.cp
section
variable {F : List Nat} {b k : Nat} {t u : Tr} {W W' : World}
theorem TX.lt (h : TX F b t W) : b < W.heap.size := World.block_lt_of_cell? W ⟨b, 0, none⟩ h.c
theorem TX.later (h : TX F b t W) (hb : Below W.heap.size W W') : TX F b t W' :=
  ⟨cell_later hb h.c, (hb.frozen (p := ⟨b, 0, none⟩) h.lt).trans h.f, h.el.below hb, h.ne, h.rm⟩
theorem TX.grown (h : TX F b t W) (hg : W.grownBy W' (some k)) (hk : k ∈ F) (hb : b ≠ k) : TX F b t W' := by
  have hh := hg.block b h.lt (fun e => hb (by cases e; rfl))
  refine ⟨(World.cell?_of_block hh).trans h.c, frozen_of hh h.f, ?_, h.ne, h.rm⟩
  rcases h.ne with h0 | h0
  · rw [h0]; exact EL.nil _ _ _
  · exact h.el.grown hg (fun j hj _ _ e => by cases e; exact h0 k hk hj)
theorem TX.put (h : TX F b t W) (hb : b ∈ F) (he : EL 0 W u.ad u.ts) (hn : u.ts = [] ∨ ∀ k ∈ F, blk u.ad ≠ some k) (hr : u.ts.length ≤ u.cp) : TX F b u (W.setCell ⟨b, 0, none⟩ (.slice u.ad u.ts.length u.cp)) := by
  refine ⟨World.cell?_setCell_same _ _ _ h.c, (World.frozen?_setCell _ _ _ _).trans h.f, ?_, hn, hr⟩
  rcases hn with h0 | h0
  · rw [h0]; exact EL.nil _ _ _
  · exact he.grown (grown_set0 W b 0 _) (fun j hj _ _ e => by cases e; exact h0 b hb hj)
end
theorem EL.off {B : Nat} {W : World} {ad : Option Addr} {us : List En} {F : List Nat} (h : EL B W ad us) (hF : ∀ k ∈ F, k < B) : us = [] ∨ ∀ k ∈ F, blk ad ≠ some k := by
  rcases h with h | ⟨g, e, h1, _⟩
  · exact .inl h
  · refine .inr fun k hk e' => ?_
    rw [e] at e'
    have e2 : g = k := by simpa [blk] using e'
    have := hF k hk
    omega

theorem EL.btw {B : Nat} {W : World} {ad : Option Addr} {us : List En} (h : EL B W ad us) : us = [] ∨ ∃ k, blk ad = some k ∧ B ≤ k ∧ k < W.heap.size := by
  rcases h with h | ⟨g, e, h1, h2, _⟩
  · exact .inl h
  · exact .inr ⟨g, by rw [e]; rfl, h1, h2⟩
theorem TX.wide {F F' : List Nat} {b : Nat} {t : Tr} {W : World} (h : TX F b t W) {lo hi : Nat} (hn : t.ts = [] ∨ ∃ k, blk t.ad = some k ∧ lo ≤ k ∧ k < hi) (hF : ∀ k ∈ F', k < lo ∨ hi ≤ k) : TX F' b t W := ⟨h.c, h.f, h.el, by
  rcases hn with h0 | ⟨j, h1, h2, h3⟩
  · exact .inl h0
  · refine .inr fun k hk e => ?_
    rw [h1] at e
    cases e
    have := hF j hk
    omega, h.rm⟩
theorem TX.new {g : Nat} {t : Tr} {B : Nat} {W : World} (h : EL B W t.ad t.ts) (hB : g < B) (hr : t.ts.length ≤ t.cp) : TX [g] W.heap.size t (W.alloc (.cells #[.slice t.ad t.ts.length t.cp] 25)) := by
  have hba := below_oneD W (.cells #[.slice t.ad t.ts.length t.cp] 25)
  exact ⟨by simp, by simp, (h.mono (Nat.zero_le _)).below hba, h.off (fun k hk => by rw [List.mem_singleton.1 hk]; exact hB), hr⟩

def mF (r2 r3 r4 g b6 b7 b8 : Nat) : List Nat := [r2, r3, r4, g, b6, b7, b8]
structure M3 (w : World) (g r2 r3 r4 b6 b7 b8 : Nat) (a : Option Addr) (cap : Nat) (zs : List Int) (p : Nat) (t6 t7 t8 : Tr) (W : World) : Prop where
  rd : Rd W g a cap zs p
  bw : Below w.heap.size w W
  x6 : TX (mF r2 r3 r4 g b6 b7 b8) b6 t6 W
  x7 : TX (mF r2 r3 r4 g b6 b7 b8) b7 t7 W
  x8 : TX (mF r2 r3 r4 g b6 b7 b8) b8 t8 W
  c2 : W.cell? ⟨r2, 0, none⟩ = some (.slice none 0 0)
  f2 : W.frozen? ⟨r2, 0, none⟩ = false
  c3 : W.cell? ⟨r3, 0, none⟩ = some (.slice none 0 0)
  f3 : W.frozen? ⟨r3, 0, none⟩ = false
  c4 : W.cell? ⟨r4, 0, none⟩ = some (.slice none 0 0)
  f4 : W.frozen? ⟨r4, 0, none⟩ = false
  ord : w.heap.size ≤ r2 ∧ r2 < r3 ∧ r3 < r4 ∧ r4 < g ∧ g < b6 ∧ b6 < b7 ∧ b7 < b8
section
variable {w : World} {g r2 r3 r4 b6 b7 b8 : Nat} {a : Option Addr} {cap : Nat} {zs : List Int} {p p' : Nat} {t6 t7 t8 u : Tr} {W W' : World}
theorem M3.step (h : M3 w g r2 r3 r4 b6 b7 b8 a cap zs p t6 t7 t8 W) (hg : W.grownBy W' (some g)) (hR : Rd W' g a cap zs p') : M3 w g r2 r3 r4 b6 b7 b8 a cap zs p' t6 t7 t8 W' := by
  have o := h.ord
  have k2 := hg.block r2 (World.block_lt_of_cell? W ⟨r2, 0, none⟩ h.c2) (by simp; omega)
  have k3 := hg.block r3 (World.block_lt_of_cell? W ⟨r3, 0, none⟩ h.c3) (by simp; omega)
  have k4 := hg.block r4 (World.block_lt_of_cell? W ⟨r4, 0, none⟩ h.c4) (by simp; omega)
  exact ⟨hR, h.bw.grown hg h.bw.size (fun j e => by cases e; omega), h.x6.grown hg (by simp [mF]) (by omega), h.x7.grown hg (by simp [mF]) (by omega), h.x8.grown hg (by simp [mF]) (by omega), (World.cell?_of_block k2).trans h.c2, frozen_of k2 h.f2, (World.cell?_of_block k3).trans h.c3, frozen_of k3 h.f3, (World.cell?_of_block k4).trans h.c4, frozen_of k4 h.f4, o⟩
theorem M3.later (h : M3 w g r2 r3 r4 b6 b7 b8 a cap zs p t6 t7 t8 W) (hb : Below W.heap.size W W') : M3 w g r2 r3 r4 b6 b7 b8 a cap zs p t6 t7 t8 W' := h.step (gr_below hb) (h.rd.below hb)
theorem M3.rest (h : M3 w g r2 r3 r4 b6 b7 b8 a cap zs p t6 t7 t8 W) {k : Nat} (v : Value) (hk : k = b6 ∨ k = b7 ∨ k = b8) : Rd (W.setCell ⟨k, 0, none⟩ v) g a cap zs p ∧ Below w.heap.size w (W.setCell ⟨k, 0, none⟩ v) ∧ ((W.setCell ⟨k, 0, none⟩ v).cell? ⟨r2, 0, none⟩ = some (.slice none 0 0) ∧ (W.setCell ⟨k, 0, none⟩ v).frozen? ⟨r2, 0, none⟩ = false) ∧ ((W.setCell ⟨k, 0, none⟩ v).cell? ⟨r3, 0, none⟩ = some (.slice none 0 0) ∧ (W.setCell ⟨k, 0, none⟩ v).frozen? ⟨r3, 0, none⟩ = false) ∧ (W.setCell ⟨k, 0, none⟩ v).cell? ⟨r4, 0, none⟩ = some (.slice none 0 0) ∧ (W.setCell ⟨k, 0, none⟩ v).frozen? ⟨r4, 0, none⟩ = false := by
  have o := h.ord
  have hg : W.grownBy (W.setCell ⟨k, 0, none⟩ v) (some k) := grown_set0 W k 0 v
  have k2 := hg.block r2 (World.block_lt_of_cell? W ⟨r2, 0, none⟩ h.c2) (by simp; omega)
  have k3 := hg.block r3 (World.block_lt_of_cell? W ⟨r3, 0, none⟩ h.c3) (by simp; omega)
  have k4 := hg.block r4 (World.block_lt_of_cell? W ⟨r4, 0, none⟩ h.c4) (by simp; omega)
  exact ⟨h.rd.kept hg (fun j e => by cases e; omega), h.bw.setCell (p := ⟨k, 0, none⟩) (by show _ ≤ k; omega) _, ⟨(World.cell?_of_block k2).trans h.c2, frozen_of k2 h.f2⟩, ⟨(World.cell?_of_block k3).trans h.c3, frozen_of k3 h.f3⟩, (World.cell?_of_block k4).trans h.c4, frozen_of k4 h.f4⟩
theorem M3.all (h : M3 w g r2 r3 r4 b6 b7 b8 a cap zs p t6 t7 t8 W) : ∀ k ∈ mF r2 r3 r4 g b6 b7 b8, k < b8 + 1 := fun k hk => by
  have o := h.ord
  simp only [mF, List.mem_cons, List.not_mem_nil, or_false] at hk
  omega
theorem M3.put6 (h : M3 w g r2 r3 r4 b6 b7 b8 a cap zs p t6 t7 t8 W) (he : EL (b8 + 1) W u.ad u.ts) (hr : u.ts.length ≤ u.cp) : M3 w g r2 r3 r4 b6 b7 b8 a cap zs p u t7 t8 (W.setCell ⟨b6, 0, none⟩ (.slice u.ad u.ts.length u.cp)) := by
  obtain ⟨h1, h2, ⟨h3, h4⟩, ⟨h5, h6⟩, h7, h8⟩ := h.rest (.slice u.ad u.ts.length u.cp) (.inl rfl)
  have o := h.ord
  exact ⟨h1, h2, h.x6.put (by simp [mF]) (he.mono (Nat.zero_le _)) (he.off h.all) hr, h.x7.grown (grown_set0 _ _ _ _) (by simp [mF]) (by omega), h.x8.grown (grown_set0 _ _ _ _) (by simp [mF]) (by omega), h3, h4, h5, h6, h7, h8, o⟩
theorem M3.put7 (h : M3 w g r2 r3 r4 b6 b7 b8 a cap zs p t6 t7 t8 W) (he : EL (b8 + 1) W u.ad u.ts) (hr : u.ts.length ≤ u.cp) : M3 w g r2 r3 r4 b6 b7 b8 a cap zs p t6 u t8 (W.setCell ⟨b7, 0, none⟩ (.slice u.ad u.ts.length u.cp)) := by
  obtain ⟨h1, h2, ⟨h3, h4⟩, ⟨h5, h6⟩, h7, h8⟩ := h.rest (.slice u.ad u.ts.length u.cp) (.inr (.inl rfl))
  have o := h.ord
  exact ⟨h1, h2, h.x6.grown (grown_set0 _ _ _ _) (by simp [mF]) (by omega), h.x7.put (by simp [mF]) (he.mono (Nat.zero_le _)) (he.off h.all) hr, h.x8.grown (grown_set0 _ _ _ _) (by simp [mF]) (by omega), h3, h4, h5, h6, h7, h8, o⟩
theorem M3.put8 (h : M3 w g r2 r3 r4 b6 b7 b8 a cap zs p t6 t7 t8 W) (he : EL (b8 + 1) W u.ad u.ts) (hr : u.ts.length ≤ u.cp) : M3 w g r2 r3 r4 b6 b7 b8 a cap zs p t6 t7 u (W.setCell ⟨b8, 0, none⟩ (.slice u.ad u.ts.length u.cp)) := by
  obtain ⟨h1, h2, ⟨h3, h4⟩, ⟨h5, h6⟩, h7, h8⟩ := h.rest (.slice u.ad u.ts.length u.cp) (.inr (.inr rfl))
  have o := h.ord
  exact ⟨h1, h2, h.x6.grown (grown_set0 _ _ _ _) (by simp [mF]) (by omega), h.x7.grown (grown_set0 _ _ _ _) (by simp [mF]) (by omega), h.x8.put (by simp [mF]) (he.mono (Nat.zero_le _)) (he.off h.all) hr, h3, h4, h5, h6, h7, h8, o⟩
end
/-- What is handed back, or nothing yet. -/
def rcV (b : Bool) (t : Tr) : Value := bif b then .slice t.ad t.ts.length t.cp else .slice none 0 0
def zTab (t6 t7 t8 : Tr) : Nat → Option Value
  | 0 => some (.agg #[.slice t6.ad t6.ts.length t6.cp])
  | 1 => some (.agg #[.slice t7.ad t7.ts.length t7.cp])
  | 2 => some (.agg #[.slice t8.ad t8.ts.length t8.cp])
  | _ => none
def zDs : List Nat := [87, 88, 89, 1000, 1001, 1002]
theorem zNd : zDs.Nodup := by decide
structure RV3 (w : World) (g r2 r3 r4 b6 b7 b8 : Nat) (t6 t7 t8 : Tr) (T0 : Array Value) (L : Array Bool) (a : Act) (W : World) : Prop where
  sl : Sl2 T0 zDs (zTab t6 t7 t8) L a
  bw : Below w.heap.size w W
  x6 : TX (mF r2 r3 r4 g b6 b7 b8) b6 t6 W
  x7 : TX (mF r2 r3 r4 g b6 b7 b8) b7 t7 W
  x8 : TX (mF r2 r3 r4 g b6 b7 b8) b8 t8 W
  c2 : W.cell? ⟨r2, 0, none⟩ = some (rcV (L.getD 3 false) t6)
  f2 : W.frozen? ⟨r2, 0, none⟩ = false
  c3 : W.cell? ⟨r3, 0, none⟩ = some (rcV (L.getD 4 false) t7)
  f3 : W.frozen? ⟨r3, 0, none⟩ = false
  c4 : W.cell? ⟨r4, 0, none⟩ = some (rcV (L.getD 5 false) t8)
  f4 : W.frozen? ⟨r4, 0, none⟩ = false
section
variable {w : World} {g r2 r3 r4 b6 b7 b8 : Nat} {t6 t7 t8 : Tr} {T0 : Array Value} {L : Array Bool} {a : Act} {W : World}
theorem RV3.step (h : RV3 w g r2 r3 r4 b6 b7 b8 t6 t7 t8 T0 L a W) {i : Nat} {v : Value} (hi : i < 3) (hd : 87 + i < T0.size) (ht : zTab t6 t7 t8 i = some v) : RV3 w g r2 r3 r4 b6 b7 b8 t6 t7 t8 T0 (L.setIfInBounds i true) (a.put (some (87 + i)) v) W := by
  have hlen : i < zDs.length := by show i < 6; omega
  have hds : zDs[i] = 87 + i := by
    match i, hi with
    | 0, _ | 1, _ | 2, _ => rfl
  have hsl := h.sl.put zNd hlen (by rw [hds]; exact hd) (v := v) (fun u' hu => by rw [ht] at hu; cases hu; rfl)
  rw [hds] at hsl
  refine ⟨hsl, h.bw, h.x6, h.x7, h.x8, ?_, h.f2, ?_, h.f3, ?_, h.f4⟩
  · rw [getD_set_ne false (by omega)]; exact h.c2
  · rw [getD_set_ne false (by omega)]; exact h.c3
  · rw [getD_set_ne false (by omega)]; exact h.c4
theorem RV3.st2 (h : RV3 w g r2 r3 r4 b6 b7 b8 t6 t7 t8 T0 L a W) (o : r2 < r3 ∧ r3 < r4 ∧ r4 < g ∧ g < b6 ∧ b6 < b7 ∧ b7 < b8 ∧ w.heap.size ≤ r2) (hL : L.getD 3 true = false) : RV3 w g r2 r3 r4 b6 b7 b8 t6 t7 t8 T0 (L.setIfInBounds 3 true) a (W.setCell ⟨r2, 0, none⟩ (.slice t6.ad t6.ts.length t6.cp)) := by
  have hg : W.grownBy (W.setCell ⟨r2, 0, none⟩ (.slice t6.ad t6.ts.length t6.cp)) (some r2) := grown_set0 W r2 0 _
  have gi : (L.setIfInBounds 3 true).getD 3 false = true := by
    have h1 := getD_false hL
    have h2 : 3 < L.size := by simpa using (List.getElem?_eq_some_iff.1 h1).1
    rw [Array.getD_eq_getD_getElem?, Array.getElem?_setIfInBounds_self_of_lt h2]
    rfl
  refine ⟨h.sl.skip rfl, h.bw.setCell (p := ⟨r2, 0, none⟩) (by show _ ≤ r2; omega) _, h.x6.grown hg (by simp [mF]) (by omega), h.x7.grown hg (by simp [mF]) (by omega), h.x8.grown hg (by simp [mF]) (by omega), ?_, (World.frozen?_setCell _ _ _ _).trans h.f2, ?_, (World.frozen?_setCell _ _ _ _).trans h.f3, ?_, (World.frozen?_setCell _ _ _ _).trans h.f4⟩
  · rw [gi]
    exact World.cell?_setCell_same _ _ _ h.c2
  · rw [getD_set_ne false (by omega)]
    exact (World.cell?_setCell_other _ _ _ _ (by intro e; have e2 := congrArg Addr.block e; have e3 : r2 = r3 := e2; omega)).trans h.c3
  · rw [getD_set_ne false (by omega)]
    exact (World.cell?_setCell_other _ _ _ _ (by intro e; have e2 := congrArg Addr.block e; have e3 : r2 = r4 := e2; omega)).trans h.c4
theorem RV3.st3 (h : RV3 w g r2 r3 r4 b6 b7 b8 t6 t7 t8 T0 L a W) (o : r2 < r3 ∧ r3 < r4 ∧ r4 < g ∧ g < b6 ∧ b6 < b7 ∧ b7 < b8 ∧ w.heap.size ≤ r2) (hL : L.getD 4 true = false) : RV3 w g r2 r3 r4 b6 b7 b8 t6 t7 t8 T0 (L.setIfInBounds 4 true) a (W.setCell ⟨r3, 0, none⟩ (.slice t7.ad t7.ts.length t7.cp)) := by
  have hg : W.grownBy (W.setCell ⟨r3, 0, none⟩ (.slice t7.ad t7.ts.length t7.cp)) (some r3) := grown_set0 W r3 0 _
  have gi : (L.setIfInBounds 4 true).getD 4 false = true := by
    have h1 := getD_false hL
    have h2 : 4 < L.size := by simpa using (List.getElem?_eq_some_iff.1 h1).1
    rw [Array.getD_eq_getD_getElem?, Array.getElem?_setIfInBounds_self_of_lt h2]
    rfl
  refine ⟨h.sl.skip rfl, h.bw.setCell (p := ⟨r3, 0, none⟩) (by show _ ≤ r3; omega) _, h.x6.grown hg (by simp [mF]) (by omega), h.x7.grown hg (by simp [mF]) (by omega), h.x8.grown hg (by simp [mF]) (by omega), ?_, (World.frozen?_setCell _ _ _ _).trans h.f2, ?_, (World.frozen?_setCell _ _ _ _).trans h.f3, ?_, (World.frozen?_setCell _ _ _ _).trans h.f4⟩
  · rw [getD_set_ne false (by omega)]
    exact (World.cell?_setCell_other _ _ _ _ (by intro e; have e2 := congrArg Addr.block e; have e3 : r3 = r2 := e2; omega)).trans h.c2
  · rw [gi]
    exact World.cell?_setCell_same _ _ _ h.c3
  · rw [getD_set_ne false (by omega)]
    exact (World.cell?_setCell_other _ _ _ _ (by intro e; have e2 := congrArg Addr.block e; have e3 : r3 = r4 := e2; omega)).trans h.c4
theorem RV3.st4 (h : RV3 w g r2 r3 r4 b6 b7 b8 t6 t7 t8 T0 L a W) (o : r2 < r3 ∧ r3 < r4 ∧ r4 < g ∧ g < b6 ∧ b6 < b7 ∧ b7 < b8 ∧ w.heap.size ≤ r2) (hL : L.getD 5 true = false) : RV3 w g r2 r3 r4 b6 b7 b8 t6 t7 t8 T0 (L.setIfInBounds 5 true) a (W.setCell ⟨r4, 0, none⟩ (.slice t8.ad t8.ts.length t8.cp)) := by
  have hg : W.grownBy (W.setCell ⟨r4, 0, none⟩ (.slice t8.ad t8.ts.length t8.cp)) (some r4) := grown_set0 W r4 0 _
  have gi : (L.setIfInBounds 5 true).getD 5 false = true := by
    have h1 := getD_false hL
    have h2 : 5 < L.size := by simpa using (List.getElem?_eq_some_iff.1 h1).1
    rw [Array.getD_eq_getD_getElem?, Array.getElem?_setIfInBounds_self_of_lt h2]
    rfl
  refine ⟨h.sl.skip rfl, h.bw.setCell (p := ⟨r4, 0, none⟩) (by show _ ≤ r4; omega) _, h.x6.grown hg (by simp [mF]) (by omega), h.x7.grown hg (by simp [mF]) (by omega), h.x8.grown hg (by simp [mF]) (by omega), ?_, (World.frozen?_setCell _ _ _ _).trans h.f2, ?_, (World.frozen?_setCell _ _ _ _).trans h.f3, ?_, (World.frozen?_setCell _ _ _ _).trans h.f4⟩
  · rw [getD_set_ne false (by omega)]
    exact (World.cell?_setCell_other _ _ _ _ (by intro e; have e2 := congrArg Addr.block e; have e3 : r4 = r2 := e2; omega)).trans h.c2
  · rw [getD_set_ne false (by omega)]
    exact (World.cell?_setCell_other _ _ _ _ (by intro e; have e2 := congrArg Addr.block e; have e3 : r4 = r3 := e2; omega)).trans h.c3
  · rw [gi]
    exact World.cell?_setCell_same _ _ _ h.c4
end
/-- What is known of a drawn tree. -/
def TQ (t : Tr) : Prop := t.ts.length ≤ 300 ∧ Tiny 1000 20000 t.ts
def DrawnM (w : World) (e : Ending) (w' : World) : Prop :=
  ∃ t6 t7 t8 : Tr, e = .returned (.tuple #[.agg #[.slice t6.ad t6.ts.length t6.cp], .agg #[.slice t7.ad t7.ts.length t7.cp], .agg #[.slice t8.ad t8.ts.length t8.cp]]) ∧ ES w' t6.ad t6.ts ∧ ES w' t7.ad t7.ts ∧ ES w' t8.ad t8.ts ∧ TQ t6 ∧ TQ t7 ∧ TQ t8 ∧ t6.ts.length ≤ t6.cp ∧ t7.ts.length ≤ t7.cp ∧ t8.ts.length ≤ t8.cp ∧ Below w.heap.size w w'
theorem Tiny.layRel {P T : Nat} {ts us : List En} {p : ByteArray} {f : Fl} (h : Tiny P T ts) (he : p.size ≤ P ∧ f.text.size ≤ T) (hs : LayRel ts p f us) : Tiny P T us := fun x hx => by
  rcases (hs.mem x).1 hx with ⟨_, rfl⟩ | ⟨h1, _⟩
  · exact he
  · exact h x h1
end Go.Proofs.YtjiafjdjocmodaaGreat

namespace Go.Proofs.YtjiafjdjocmodaaGreat
open Go.RowKit

def strE (m : Nat) (v : Value) (_ : World) : Prop := ∃ s : ByteArray, v = .string s ∧ s.size ≤ m
def natE (lo hi : Nat) (v : Value) (_ : World) : Prop := ∃ z : Nat, v = .int .i64 (z : Int) ∧ lo ≤ z ∧ z ≤ hi
def enE (m : Nat) (v : Value) (_ : World) : Prop := ∃ s : ByteArray, v = .agg #[.string s, .string ⟨#[]⟩, .bool false] ∧ s.size ≤ m
def flE (m : Nat) (v : Value) (_ : World) : Prop := ∃ s : ByteArray, v = .agg #[.bool true, .string s, .bool false] ∧ s.size ≤ m
def setX (ts : List En) (m lo : Nat) (v : Value) (w : World) : Prop := ∃ ad cap us en, v = .agg #[.slice ad (List.length us) cap] ∧ SetRel ts en us ∧ en.path.size ≤ m ∧ en.text.size ≤ 0 ∧ EL lo w ad us ∧ us.length ≤ ts.length + 1 ∧ us.length ≤ cap
def layX (ts : List En) (p : ByteArray) (m lo : Nat) (v : Value) (w : World) : Prop := ∃ ad cap us f, v = .agg #[.slice ad (List.length us) cap] ∧ f.text.size ≤ m ∧ LayRel ts p f us ∧ EL lo w ad us ∧ us.length ≤ ts.length + 1 ∧ us.length ≤ cap
theorem setX.on {ts : List En} {m lo g : Nat} {v : Value} {w w' : World} (h : setX ts m lo v w) (hg : w.grownBy w' (some g)) (hl : g < lo) : setX ts m lo v w' := by
  obtain ⟨ad, cap, us, en, h1, h2, h3, h4, h5, h6⟩ := h
  exact ⟨ad, cap, us, en, h1, h2, h3, h4, h5.grown hg (fun k _ hk _ e => by cases e; omega), h6⟩
theorem layX.on {ts : List En} {p : ByteArray} {m lo g : Nat} {v : Value} {w w' : World} (h : layX ts p m lo v w) (hg : w.grownBy w' (some g)) (hl : g < lo) : layX ts p m lo v w' := by
  obtain ⟨ad, cap, us, f, h1, h2, h3, h4, h5⟩ := h
  exact ⟨ad, cap, us, f, h1, h2, h3, h4.grown hg (fun k _ hk _ e => by cases e; omega), h5⟩

/-- l5Set of a numbered path. -/
def lTab (t : Tr) (k : Nat) : Nat → Option Value
  | 0 => some (.agg #[.slice t.ad t.ts.length t.cp])
  | 1 => some (.int .i64 k)
  | _ => none
def lEx (ts : List En) (lo : Nat) : Nat → Value → World → Prop
  | 2 => strE 2
  | 3 => strE 3
  | 4 => enE 3
  | 5 => setX ts 3 lo
  | _ => fun _ _ => True
theorem lSt {ts : List En} {lo g : Nat} {w w' : World} (hg : w.grownBy w' (some g)) (hl : g < lo) : ∀ i v, lEx ts lo i v w → lEx ts lo i v w' := fun i v h => by
  match i, h with
  | 5, h => exact setX.on h hg hl
  | 0, h | 1, h | 2, h | 3, h | 4, h => exact h
  | (_ + 6), h => exact h
def lDs (d : Nat) : List Nat := [d, d + 1, d + 2, d + 3, d + 4, d + 5, 1000]
theorem lNd56 : (lDs 56).Nodup := by decide
theorem lNd62 : (lDs 62).Nodup := by decide
/-- l6Lay of a drawn text. -/
def aTabM (t : Tr) (g : Nat) : Nat → Option Value
  | 0 => some (.agg #[.slice t.ad t.ts.length t.cp])
  | 1 => some (.pointer (some ⟨g, 0, none⟩))
  | _ => none
def aEx (ts : List En) (lo : Nat) : Nat → Value → World → Prop
  | 2 => natE 0 1
  | 3 => natE 700 701
  | 4 => strE 701
  | 5 => strE 704
  | 6 => flE 704
  | 7 => layX ts ⟨#[97]⟩ 704 lo
  | _ => fun _ _ => True
theorem aSt {ts : List En} {lo g : Nat} {w w' : World} (hg : w.grownBy w' (some g)) (hl : g < lo) : ∀ i v, aEx ts lo i v w → aEx ts lo i v w' := fun i v h => by
  match i, h with
  | 7, h => exact layX.on h hg hl
  | 0, h | 1, h | 2, h | 3, h | 4, h | 5, h | 6, h => exact h
  | (_ + 8), h => exact h
def aDsM : List Nat := [73, 74, 75, 76, 77, 78, 79, 80, 1000]
theorem aNdM : aDsM.Nodup := by decide
/-- Where the reader stands in that region. -/
def IM (w : World) (g r2 r3 r4 b6 b7 b8 : Nat) (a : Option Addr) (cap : Nat) (zs : List Int) (t6 t7 t8 : Tr) (L : Array Bool) (W : World) : Prop :=
  ∃ p, (p ≤ 1100 ∨ (L.getD 2 false = true ∧ p ≤ 1200)) ∧ M3 w g r2 r3 r4 b6 b7 b8 a cap zs p t6 t7 t8 W
theorem IM.keep {w : World} {g r2 r3 r4 b6 b7 b8 : Nat} {a : Option Addr} {cap : Nat} {zs : List Int} {t6 t7 t8 : Tr} {L : Array Bool} {W : World} {i : Nat} (h : IM w g r2 r3 r4 b6 b7 b8 a cap zs t6 t7 t8 L W) (hi : i ≠ 2) : IM w g r2 r3 r4 b6 b7 b8 a cap zs t6 t7 t8 (L.setIfInBounds i true) W := by
  obtain ⟨p, h1, h2⟩ := h
  exact ⟨p, h1.imp id (fun h => ⟨by rw [getD_set_ne false hi]; exact h.1, h.2⟩), h2⟩
theorem IM.later {w : World} {g r2 r3 r4 b6 b7 b8 : Nat} {a : Option Addr} {cap : Nat} {zs : List Int} {t6 t7 t8 : Tr} {L : Array Bool} {W W' : World} (h : IM w g r2 r3 r4 b6 b7 b8 a cap zs t6 t7 t8 L W) (hb : Below W.heap.size W W') : IM w g r2 r3 r4 b6 b7 b8 a cap zs t6 t7 t8 L W' := by
  obtain ⟨p, h1, h2⟩ := h
  exact ⟨p, h1, h2.later hb⟩
def bTab (t : Tr) : Nat → Option Value
  | 0 => some (.agg #[.slice t.ad t.ts.length t.cp])
  | _ => none
def bEx (ts : List En) (lo : Nat) : Nat → Value → World → Prop
  | 1 => strE 796
  | 2 => strE 798
  | 3 => strE 799
  | 4 => flE 799
  | 5 => layX ts ⟨#[97]⟩ 799 lo
  | _ => fun _ _ => True
theorem bSt {ts : List En} {lo g : Nat} {w w' : World} (hg : w.grownBy w' (some g)) (hl : g < lo) : ∀ i v, bEx ts lo i v w → bEx ts lo i v w' := fun i v h => by
  match i, h with
  | 5, h => exact layX.on h hg hl
  | 0, h | 1, h | 2, h | 3, h | 4, h => exact h
  | (_ + 6), h => exact h
def bDs : List Nat := [81, 82, 83, 84, 85, 86, 1000]
theorem bNd : bDs.Nodup := by decide
theorem manyI (c : UInt8) (n z : Nat) (hn : n + z ≤ 1000000) (W : World) : Calls Tryz.prog 26 #[.string ⟨#[c]⟩, .int .i64 ((n + z : Nat) : Int)] W fun e w' => ∃ o : ByteArray, e = .returned (.string o) ∧ o.size = n + z ∧ W = w' := by
  have := many_any ⟨#[c]⟩ (n + z) W (by show 1 * (n + z) ≤ _; omega) (by omega) (by show 1 ≤ 1; omega) (by show 1 ≤ _; omega)
  exact this.mono (fun e w' ⟨o, h1, h2, h3⟩ => ⟨o, h1, by rw [h2]; show 1 * (n + z) = _; omega, h3⟩)
end Go.Proofs.YtjiafjdjocmodaaGreat
