/-
  AppB, SetS, LyS: laid as one text.
-/
import Derived.Test.YtockgapdfcapnaaZba
import Derived.Test.YtockgapdfcapnaaZbb
import Derived.Test.YtockgapdfcapnaaAtS
import Derived.Test.YtockgapdfcapnaaEntOf
import Derived.Test.YtockgapdfcapnaaSetP
import Derived.Test.YtockgapdfcapnaaOutL
import Derived.Deep.QuietTactic
import Derived.BigQuiet
import Derived.Deep.RegionLaw
namespace Go.Proofs.Ytockgapdfcapnaa
open Go.RowKit Go.Shelf

theorem sideEC_iter (Ba Bb : Nat) (a b : Option Addr) (ca cb : Nat) (ts : List En) (us : List Ch) (hca : ts.length ≤ ca) (hcb : us.length ≤ cb) (hnt : ts.length ≤ 1048576) (hnu : us.length ≤ 1048576) :
    Iter 72 #[.pointer (some ⟨Ba, 0, none⟩), .pointer (some ⟨Bb, 0, none⟩)] yEC (mrgEC ts us) (sideMemEC Ba Bb a b ca cb ts us) :=
  fun n l J Jx W hM hJ hY h0 => sideEC1_in n l Ba Bb a b ca cb ts us hca hcb hnt hnu J Jx W hM hJ hY h0

theorem OutSt.own_lt {h : Nat} {W0 W : World} {v : Value} {us : List En} (s : OutSt h W0 v us W) {k : Nat} (hk : v.ownBlock = some k) : k < W.heap.size := by
  rcases s.row.2 with ⟨e, _⟩ | ⟨g, cap, cur, e, _, hg, _⟩
  · rw [e] at hk; simp [Value.ownBlock] at hk
  · rw [e] at hk; simp [Value.ownBlock] at hk; subst hk; exact (Array.getElem?_eq_some_iff.1 hg).1
theorem OutSt.other {h B : Nat} {W0 W W' : World} {v : Value} {us : List En} (s : OutSt h W0 v us W) (hg : W.grownBy W' (some B)) (hB : W0.heap.size ≤ B) (hv : v.ownBlock ≠ some B) : OutSt h W0 v us W' := by
  have hl := s.lt
  have hh := hg.block h s.size (fun e => by cases e; omega)
  refine ⟨(World.cell?_of_block hh).trans s.cell, frozen_of hh s.fz, s.row.kept hg (Or.inr hv), ⟨hg.os.trans s.grown.os, hg.tape.trans s.grown.tape, hg.output.trans s.grown.output, Nat.le_trans s.grown.size hg.size, fun k hk hne => ?_⟩, hl⟩
  exact (hg.block k (Nat.lt_of_lt_of_le hk s.grown.size) (fun e => by cases e; omega)).trans (s.grown.block k hk hne)
theorem OutSt.putJ {h l : Nat} {W0 W : World} {v : Value} {us : List En} (s : OutSt h W0 v us W) (o : Obj) (hl : l < W0.heap.size) (hne : l ≠ h) : OutSt h (W0.putObj l o) v us (W.putObj l o) := by
  have hb : ∀ (X : World) (k : Nat), k ≠ l → (X.putObj l o).heap[k]? = X.heap[k]? := fun X k hk => World.putObj_heap_other hk
  have hh := hb W h (fun e => hne e.symm)
  have hg : W.grownBy (W.putObj l o) (some l) := ⟨rfl, rfl, rfl, by simp, fun k _ hk => hb W k (fun e => hk (by rw [e]))⟩
  have hlW := Nat.lt_of_lt_of_le hl s.grown.size
  refine ⟨(World.cell?_of_block hh).trans s.cell, frozen_of hh s.fz, ?_, ⟨s.grown.os, s.grown.tape, s.grown.output, by simpa using s.grown.size, fun k hk hkh => ?_⟩, by simpa using s.lt⟩
  · have h1 := s.row.kept hg (Or.inr (fun e => by have := owns_row_ge s.row e; omega))
    simpa using h1
  · have hk' : k < W0.heap.size := by simpa using hk
    by_cases e : k = l
    · subst e
      rw [World.putObj_heap_same hlW, World.putObj_heap_same hl]
    · rw [hb W k e, hb W0 k e]
      exact s.grown.block k hk' hkh


def outsA (pre : List PEC) : List En := pre.flatMap fun x => outA zeroE x.2.1 x.2.2
theorem outsA_snoc (pre : List PEC) (x : PEC) : outsA (pre ++ [x]) = outsA pre ++ outA zeroE x.2.1 x.2.2 := by simp [outsA]
theorem outA_len (z : En) (e : Option En) (c : Option Ch) : (outA z e c).length ≤ 1 := by
  cases c with
  | none => rw [outA_none]; simp
  | some c => rw [outA_some]; split <;> simp
theorem outsA_len (pre : List PEC) : (outsA pre).length ≤ pre.length := by
  induction pre with
  | nil => simp [outsA]
  | cons x pre ih =>
    have h1 : outsA (x :: pre) = outA zeroE x.2.1 x.2.2 ++ outsA pre := by simp [outsA]
    have h2 := outA_len zeroE x.2.1 x.2.2
    rw [h1, List.length_append, List.length_cons]
    omega

theorem mrg_lenA {α β : Type} (pa : α → ByteArray) (pb : β → ByteArray) : ∀ (n : Nat) (ts : List α) (us : List β), (mrg pa pb n ts us).length ≤ n
  | 0, _, _ => by simp [mrg]
  | n + 1, [], [] => by simp [mrg]
  | n + 1, [], y :: us => by have := mrg_lenA pa pb n [] us; simp only [mrg, List.length_cons]; omega
  | n + 1, x :: ts, [] => by have := mrg_lenA pa pb n ts []; simp only [mrg, List.length_cons]; omega
  | n + 1, x :: ts, y :: us => by
    have h1 := mrg_lenA pa pb n ts (y :: us)
    have h2 := mrg_lenA pa pb n (x :: ts) us
    have h3 := mrg_lenA pa pb n ts us
    simp only [mrg]
    split
    · simp only [List.length_cons]; omega
    · split
      · simp only [List.length_cons]; omega
      · simp only [List.length_cons]; omega
theorem names_of : ∀ l : List ByteArray, ∃ ns, AscN ns ∧ ∀ p, p ∈ ns ↔ p ∈ l
  | [] => ⟨[], List.Pairwise.nil, fun p => Iff.rfl⟩
  | q :: l => by
    obtain ⟨ns, h1, h2⟩ := names_of l
    have h3 := nameL_asc (s := q) h1
    refine ⟨nameL ns q, h3.1, fun p => ?_⟩
    rw [h3.2, h2, List.mem_cons]
    exact ⟨fun h => h.elim .inr .inl, fun h => h.elim .inr .inl⟩
theorem vp_asc {cs : List Ch} (h : ValidP cs) : AscK Ch.path cs := by
  have key : ∀ i, i < cs.length → ∀ j, j < i → ∀ (hi : i < cs.length) (hj : j < cs.length), Op.bytesLess cs[j].path.toList cs[i].path.toList = true := by
    intro i
    induction i with
    | zero => intro _ j hj; omega
    | succ i ih =>
      intro hi j hj hi' hj'
      obtain ⟨_, _, h1⟩ := h.2 (i + 1) hi
      have h2 := h1 i rfl (by omega)
      by_cases e : j = i
      · subst e; exact h2
      · exact less_trans (ih (by omega) j (by omega) (by omega) hj') h2
  exact List.pairwise_iff_getElem.2 fun i j hi hj hij => key j hj i hij hj hi
theorem mrgEC_rows {ts : List En} {cs : List Ch} (ht : ValidTs ts) (hc : ValidP cs) : ∃ ns, AscN ns ∧ (∀ p, p ∈ ns ↔ (∃ x ∈ ts, En.path x = p) ∨ ∃ y ∈ cs, Ch.path y = p) ∧ mrgEC ts cs = ns.map fun p => (p, fnd En.path ts p, fnd Ch.path cs p) := by
  obtain ⟨ns, h1, h2⟩ := names_of (ts.map En.path ++ cs.map Ch.path)
  have h3 : ∀ p, p ∈ ns ↔ (∃ x ∈ ts, En.path x = p) ∨ ∃ y ∈ cs, Ch.path y = p := fun p => by
    rw [h2, List.mem_append, List.mem_map, List.mem_map]
  exact ⟨ns, h1, h3, mrg_eq En.path Ch.path (ts.length + cs.length) ts cs ns (Nat.le_refl _) (valid_asc ht) (vp_asc hc) h1 h3⟩
theorem outs_app {ts : List En} {cs : List Ch} (ht : ValidTs ts) (hc : ValidP cs) : AppRel ts cs (outsA (mrgEC ts cs)) := by
  obtain ⟨ns, h1, h2, h3⟩ := mrgEC_rows ht hc
  have h4 := app_rows zeroE h1 h2 (valid_asc ht) (vp_asc hc)
  unfold outsA
  rw [h3, List.flatMap_map]
  exact h4
/-- The file is another one than the change says. -/
def badA (e : Option En) : Option Ch → Bool
  | some c => !sameF (fileE (e.getD zeroE)) c.old
  | none => false
theorem bad_iff {ts : List En} {cs : List Ch} (ht : ValidTs ts) (hc : ValidP cs) : (∃ x ∈ mrgEC ts cs, badA x.2.1 x.2.2 = true) ↔ ∃ c ∈ cs, sameF (atL ts c.path) c.old = false := by
  obtain ⟨ns, h1, h2, h3⟩ := mrgEC_rows ht hc
  rw [h3]
  constructor
  · rintro ⟨x, hx, hb⟩
    obtain ⟨p, hp, rfl⟩ := List.mem_map.1 hx
    cases hf : fnd Ch.path cs p with
    | none => simp only [hf] at hb; cases hb
    | some c =>
      obtain ⟨hcm, rfl⟩ := fnd_some hf
      simp only [hf, badA] at hb
      rw [fileE_at ht] at hb
      exact ⟨c, hcm, by simpa using hb⟩
  · rintro ⟨c, hcm, hs⟩
    refine ⟨_, List.mem_map.2 ⟨c.path, (h2 _).2 (.inr ⟨c, hcm, rfl⟩), rfl⟩, ?_⟩
    have hf : fnd Ch.path cs c.path = some c := by
      cases h : fnd Ch.path cs c.path with
      | none =>
        unfold fnd at h
        rw [List.find?_eq_none] at h
        exact absurd (eqb_iff.2 rfl) (h c hcm)
      | some d =>
        obtain ⟨hd1, hd2⟩ := fnd_some h
        have hA := vp_asc hc
        obtain ⟨i, hi, rfl⟩ := List.getElem_of_mem hd1
        obtain ⟨j, hj, rfl⟩ := List.getElem_of_mem hcm
        rcases Nat.lt_trichotomy i j with h' | h' | h'
        · exact absurd hd2 (less_ne (List.pairwise_iff_getElem.1 hA i j hi hj h'))
        · subst h'; rfl
        · exact absurd hd2.symm (less_ne (List.pairwise_iff_getElem.1 hA j i hj hi h'))
    simp only [hf, badA]
    rw [fileE_at ht, hs]
    rfl
/-- Which of the two lists have a path. -/
theorem mrgEC_cases {ts : List En} {cs : List Ch} (ht : ValidTs ts) (hc : ValidP cs) {x : PEC} (hx : x ∈ mrgEC ts cs) :
    (∃ d ∈ cs, x = (d.path, none, some d) ∧ ∀ e ∈ ts, e.path ≠ d.path) ∨ (∃ e ∈ ts, x = (e.path, some e, none)) ∨ ∃ e ∈ ts, ∃ d ∈ cs, d.path = e.path ∧ x = (e.path, some e, some d) := by
  obtain ⟨ns, h1, h2, h3⟩ := mrgEC_rows ht hc
  rw [h3] at hx
  obtain ⟨n, hn, rfl⟩ := List.mem_map.1 hx
  cases h1 : fnd En.path ts n with
  | none =>
    have hno : ∀ e ∈ ts, e.path ≠ n := fun e he e' => by
      unfold fnd at h1
      rw [List.find?_eq_none] at h1
      exact h1 e he (eqb_iff.2 e')
    cases h4 : fnd Ch.path cs n with
    | none =>
      exfalso
      rcases (h2 n).1 hn with ⟨z, hz, hzn⟩ | ⟨z, hz, hzn⟩
      · exact hno z hz hzn
      · unfold fnd at h4
        rw [List.find?_eq_none] at h4
        exact h4 z hz (eqb_iff.2 hzn)
    | some d =>
      obtain ⟨h5, rfl⟩ := fnd_some h4
      exact .inl ⟨d, h5, rfl, hno⟩
  | some e =>
    obtain ⟨h5, rfl⟩ := fnd_some h1
    cases h4 : fnd Ch.path cs e.path with
    | none => exact .inr (.inl ⟨e, h5, rfl⟩)
    | some d =>
      obtain ⟨h6, h7⟩ := fnd_some h4
      exact .inr (.inr ⟨e, h5, d, h6, h7, rfl⟩)
end Go.Proofs.Ytockgapdfcapnaa

namespace Go.Proofs.Ytockgapdfcapnaa
open Go.RowKit

def SetPost (ts : List En) (en : En) (w : World) (e : Ending) (w' : World) : Prop :=
  ∃ ad cap us, e = .returned (.agg #[.slice ad us.length cap]) ∧ SetRel ts en us ∧ EL w.heap.size w' ad us ∧ Below w.heap.size w w' ∧ us.length ≤ ts.length + 1
/-- The same, with the room that there is. -/
def SetPostC (ts : List En) (en : En) (w : World) (e : Ending) (w' : World) : Prop :=
  ∃ ad cap us, e = .returned (.agg #[.slice ad us.length cap]) ∧ SetRel ts en us ∧ EL w.heap.size w' ad us ∧ Below w.heap.size w w' ∧ us.length ≤ ts.length + 1 ∧ us.length ≤ cap
theorem row_room {W : World} {B z : Nat} {e : TypeId} {ad : Option Addr} {n cp : Nat} {xs : List Value} (h : W.ownsRow B e z (.slice ad n cp) n xs) : n ≤ cp := by
  rcases h.2 with ⟨h0, _⟩ | ⟨_, _, _, h0, _, _, h1, _⟩
  · cases h0; exact Nat.le_refl _
  · cases h0; exact h1

set_option maxRecDepth 100000 in
set_option maxHeartbeats 8000000 in
theorem l5SetC_any (a : Option Addr) (cap : Nat) (ts : List En) (en : En) (w : World) (hts : ES w a ts) (hn : ts.length ≤ 1048576) (hA : Asc ts) :
    Calls Try.prog 36 #[.agg #[.slice a ts.length cap], .agg #[.string en.path, .string en.text, .bool en.runs]] w fun e w' => SetPostC ts en w e w' := by
  obtain ⟨i0, hi, hz0, hz1, hzb⟩ := info_parts Try.infoEntry
  have hal : Below w.heap.size w ((((w.alloc (.cells #[.slice a ts.length cap] 32)).alloc (.cells #[.string en.path, .string en.text, .bool en.runs] 72)).alloc (.cells #[.slice none 0 0] 32)).alloc (.cells #[.slice none 0 0] 32)) := ((((Below.refl _ _).alloc (Nat.le_refl _) _).alloc (by simp) _).alloc (by simp; omega) _).alloc (by simp; omega) _
  go_enter Try.func36, Try.ntmps36
  go_wp2_with fail
  have m0 : ((((w.alloc (.cells #[.slice a ts.length cap] 32)).alloc (.cells #[.string en.path, .string en.text, .bool en.runs] 72)).alloc (.cells #[.slice none 0 0] 32)).alloc (.cells #[.slice none 0 0] 32)).cell? ⟨w.heap.size, 0, none⟩ = some (.slice a ts.length cap) := by simp [go_sem]
  have e0 : ((((w.alloc (.cells #[.slice a ts.length cap] 32)).alloc (.cells #[.string en.path, .string en.text, .bool en.runs] 72)).alloc (.cells #[.slice none 0 0] 32)).alloc (.cells #[.slice none 0 0] 32)).cell? ⟨w.heap.size + 1, 0, none⟩ = some (.string en.path) := by simp [go_sem]
  have e1 : ((((w.alloc (.cells #[.slice a ts.length cap] 32)).alloc (.cells #[.string en.path, .string en.text, .bool en.runs] 72)).alloc (.cells #[.slice none 0 0] 32)).alloc (.cells #[.slice none 0 0] 32)).cell? ⟨w.heap.size + 1, 1, none⟩ = some (.string en.text) := by simp [go_sem]
  have e2 : ((((w.alloc (.cells #[.slice a ts.length cap] 32)).alloc (.cells #[.string en.path, .string en.text, .bool en.runs] 72)).alloc (.cells #[.slice none 0 0] 32)).alloc (.cells #[.slice none 0 0] 32)).cell? ⟨w.heap.size + 1, 2, none⟩ = some (.bool en.runs) := by simp [go_sem]
  have k0 : ((((w.alloc (.cells #[.slice a ts.length cap] 32)).alloc (.cells #[.string en.path, .string en.text, .bool en.runs] 72)).alloc (.cells #[.slice none 0 0] 32)).alloc (.cells #[.slice none 0 0] 32)).cell? ⟨w.heap.size + 1 + 1, 0, none⟩ = some (.slice none 0 0) := by simp [go_sem]
  have kf : ((((w.alloc (.cells #[.slice a ts.length cap] 32)).alloc (.cells #[.string en.path, .string en.text, .bool en.runs] 72)).alloc (.cells #[.slice none 0 0] 32)).alloc (.cells #[.slice none 0 0] 32)).frozen? ⟨w.heap.size + 1 + 1, 0, none⟩ = false := by simp [go_sem]
  have o0 : ((((w.alloc (.cells #[.slice a ts.length cap] 32)).alloc (.cells #[.string en.path, .string en.text, .bool en.runs] 72)).alloc (.cells #[.slice none 0 0] 32)).alloc (.cells #[.slice none 0 0] 32)).cell? ⟨w.heap.size + 1 + 1 + 1, 0, none⟩ = some (.slice none 0 0) := by simp [go_sem]
  have of0 : ((((w.alloc (.cells #[.slice a ts.length cap] 32)).alloc (.cells #[.string en.path, .string en.text, .bool en.runs] 72)).alloc (.cells #[.slice none 0 0] 32)).alloc (.cells #[.slice none 0 0] 32)).frozen? ⟨w.heap.size + 1 + 1 + 1, 0, none⟩ = false := by simp [go_sem]
  have os0 : w.heap.size + 1 + 1 + 1 < ((((w.alloc (.cells #[.slice a ts.length cap] 32)).alloc (.cells #[.string en.path, .string en.text, .bool en.runs] 72)).alloc (.cells #[.slice none 0 0] 32)).alloc (.cells #[.slice none 0 0] 32)).heap.size := by simp [go_sem]
  generalize (((w.alloc (.cells #[.slice a ts.length cap] 32)).alloc (.cells #[.string en.path, .string en.text, .bool en.runs] 72)).alloc (.cells #[.slice none 0 0] 32)).alloc (.cells #[.slice none 0 0] 32) = W0 at *
  obtain ⟨ob, hob⟩ : ∃ ob, ob = w.heap.size + 1 + 1 + 1 := ⟨_, rfl⟩
  obtain ⟨g, hg⟩ : ∃ g, g = w.heap.size + 1 + 1 := ⟨_, rfl⟩
  obtain ⟨be, hbe⟩ : ∃ be, be = w.heap.size + 1 := ⟨_, rfl⟩
  obtain ⟨tb, htb⟩ : ∃ tb, tb = w.heap.size := ⟨_, rfl⟩
  rw [← hob] at o0 of0 os0 ⊢
  rw [← hg] at k0 kf ⊢
  rw [← hbe] at e0 e1 e2 ⊢
  rw [← htb] at m0 ⊢
  have HS : Keep (tb = w.heap.size ∧ be = tb + 1 ∧ g = tb + 2 ∧ ob = tb + 3 ∧ ob < W0.heap.size) := ⟨by omega⟩
  have hst0 := OutSt.start o0 of0 os0
  have HA : Keep (Asc ts) := ⟨hA⟩
  clear hob hg hbe htb o0 of0 os0 hA
  go_loopw [6, 7] (fun d i wr => ∃ (k : Nat) (dn : Bool) (v : Value) (us : List En), d = .bool dn ∧ i = .int .i64 k ∧ k ≤ ts.length ∧ Keep (SInv ts en k dn us) ∧ OutSt ob W0 v us wr) (fun _ i _ => ts.length - (intOf i).toNat)
  case atStart => exact ⟨0, false, _, [], rfl, rfl, Nat.zero_le _, ⟨SInv.start ts en⟩, hst0⟩
  case round =>
    clear hst0
    obtain ⟨k, dn, v, us, rfl, rfl, hk, hI, hst⟩ := hrel
    have hul := hI.out.len
    have hbr := hst.below hal (by have := HS.out; omega)
    have hEr := hts.below hbr
    have mr := hst.keep m0 (by have := HS.out; omega) (by have := HS.out; omega)
    have E0 := hst.keep e0 (by have := HS.out; omega) (by have := HS.out; omega)
    have E1 := hst.keep e1 (by have := HS.out; omega) (by have := HS.out; omega)
    have E2 := hst.keep e2 (by have := HS.out; omega) (by have := HS.out; omega)
    have o1 := hst.cell
    by_cases hlt : k < ts.length
    · have hlt' : (k : Int) < ts.length := by omega
      obtain ⟨b, off, rfl, hc⟩ := hEr.at hlt
      obtain ⟨x0, x1, x2⟩ := hc k hlt
      clear hc hEr
      cases hq : (ts[k].path.toList == en.path.toList) with
      | true =>
        have hpe : ts[k].path = en.path := by
          rw [beq_iff_eq, Lib.toList_data, Lib.toList_data] at hq
          exact WideShapes.bytes_inj hq
        have hll : Op.bytesLess ts[k].path.toList en.path.toList = false := by rw [hpe]; exact less_irrefl _
        have hll2 : Op.bytesLess en.path.toList ts[k].path.toList = false := by rw [hpe]; exact less_irrefl _
        have HPE : Keep (ts[k].path = en.path) := ⟨hpe⟩
        clear hpe
        cases dn with
        | true =>
          have HI : Keep (SInv ts en (k + 1) true us) := ⟨hI.out.skip hlt HPE.out⟩
          clear hI
          go_wp2_with fail
          go_quiet (fail)
          have hD : Below wr.heap.size wr (wr.drewN nq) := below_drewN (Below.refl _ _) _
          replace hst := hst.later hD
          replace mr := cell_later hD mr
          replace E0 := cell_later hD E0
          replace E1 := cell_later hD E1
          replace E2 := cell_later hD E2
          replace x0 := cell_later hD x0
          replace x1 := cell_later hD x1
          replace x2 := cell_later hD x2
          replace o1 := cell_later hD o1
          generalize wr.drewN nq = Wa at *
          clear hD
          go_wp2_with fail
          go_quiet (fail)
          have hD : Below Wa.heap.size Wa (Wa.drewN nq) := below_drewN (Below.refl _ _) _
          replace hst := hst.later hD
          replace mr := cell_later hD mr
          replace E0 := cell_later hD E0
          replace E1 := cell_later hD E1
          replace E2 := cell_later hD E2
          replace x0 := cell_later hD x0
          replace x1 := cell_later hD x1
          replace x2 := cell_later hD x2
          replace o1 := cell_later hD o1
          generalize Wa.drewN nq = Wb at *
          clear hD
          go_wp2
          go_roundw
          case rel => exact ⟨k + 1, true, _, _, rfl, by congr 1, hlt, HI, hst⟩
          case measure => simp only [intOf]; omega
        | false =>
          have HI : Keep (SInv ts en (k + 1) true (us ++ [en])) := ⟨(hI.out.put HA.out hlt hll).skip hlt HPE.out⟩
          clear hI
          go_wp2_with fail
          go_quiet (fail)
          have hD : Below wr.heap.size wr (wr.drewN nq) := below_drewN (Below.refl _ _) _
          replace hst := hst.later hD
          replace mr := cell_later hD mr
          replace E0 := cell_later hD E0
          replace E1 := cell_later hD E1
          replace E2 := cell_later hD E2
          replace x0 := cell_later hD x0
          replace x1 := cell_later hD x1
          replace x2 := cell_later hD x2
          replace o1 := cell_later hD o1
          generalize wr.drewN nq = Wa at *
          clear hD
          have hb1 : Below Wa.heap.size Wa (Wa.alloc (.cells #[.string en.path, .string en.text, .bool en.runs] 72)) := (Below.refl _ _).alloc (Nat.le_refl _) _
          go_wp2_with (first
            | (at_builtin; refine wpList_append_lies _ rfl _ _ 30 rfl W0.heap.size 72 i0 _ 3 40 Try.underlying30 hi hz0 hz1 hzb rfl (by decide) v us.length (ecells us) rfl (hst.row.alloc _) ⟨Wa.heap.size, 0, none⟩ 1 1 (ecell en) rfl rfl (news_3 Wa en _ _ rfl) (one_3 en) (by omega) (by unfold maxLen; omega) (by omega) (by have := hst.grown.size; simp; omega) (Wa.heap.size + 1) (by simp) ?_; intro g2 cap2 w2 hown2 hgrow2 hat2 hlt2; obtain ⟨hc2, hf2⟩ := hst.mid hb1 hgrow2))
          replace hst := hst.append hb1 hgrow2 hown2
          clear hc2 hf2 hb1 hgrow2 hown2 hat2 hlt2 o1 mr E0 E1 E2 x0 x1 x2
          have hlen2 : (us ++ [en]).length ≤ 1048578 := by simp; omega
          generalize hv2 : Value.slice (some ⟨g2, 0, none⟩) (us.length + 1) cap2 = v2 at *
          generalize us ++ [en] = us2 at *
          generalize w2.setCell ⟨ob, 0, none⟩ v2 = Wc at *
          have hbr := hst.below hal (by have := HS.out; omega)
          obtain ⟨b', off', hbo, hc⟩ := (hts.below hbr).at hlt
          cases hbo
          obtain ⟨x0, x1, x2⟩ := hc k hlt
          have mr := hst.keep m0 (by have := HS.out; omega) (by have := HS.out; omega)
          have E0 := hst.keep e0 (by have := HS.out; omega) (by have := HS.out; omega)
          have E1 := hst.keep e1 (by have := HS.out; omega) (by have := HS.out; omega)
          have E2 := hst.keep e2 (by have := HS.out; omega) (by have := HS.out; omega)
          have o1 := hst.cell
          clear hc
          go_wp2_with fail
          go_quiet (fail)
          have hD : Below Wc.heap.size Wc (Wc.drewN nq) := below_drewN (Below.refl _ _) _
          replace hst := hst.later hD
          replace mr := cell_later hD mr
          replace E0 := cell_later hD E0
          replace E1 := cell_later hD E1
          replace E2 := cell_later hD E2
          replace x0 := cell_later hD x0
          replace x1 := cell_later hD x1
          replace x2 := cell_later hD x2
          replace o1 := cell_later hD o1
          generalize Wc.drewN nq = Wd at *
          clear hD
          go_wp2
          go_roundw
          case rel => exact ⟨k + 1, true, _, _, rfl, by congr 1, hlt, HI, hst⟩
          case measure => simp only [intOf]; omega
      | false =>
        have hpe : ts[k].path ≠ en.path := fun e => by rw [e] at hq; simp at hq
        have HPE : Keep (ts[k].path ≠ en.path) := ⟨hpe⟩
        clear hpe
        have hqc : (en.path.toList == ts[k].path.toList) = false := by
          rw [Bool.eq_false_iff] at hq ⊢
          intro h; apply hq; rw [beq_iff_eq] at h ⊢; exact h.symm
        cases dn with
        | true =>
          have HI : Keep (SInv ts en (k + 1) true (us ++ [ts[k]])) := ⟨hI.out.app HA.out hlt (fun h => by cases h) HPE.out⟩
          clear hI
          go_wp2_with fail
          go_quiet (fail)
          have hD : Below wr.heap.size wr (wr.drewN nq) := below_drewN (Below.refl _ _) _
          replace hst := hst.later hD
          replace mr := cell_later hD mr
          replace E0 := cell_later hD E0
          replace E1 := cell_later hD E1
          replace E2 := cell_later hD E2
          replace x0 := cell_later hD x0
          replace x1 := cell_later hD x1
          replace x2 := cell_later hD x2
          replace o1 := cell_later hD o1
          generalize wr.drewN nq = Wa at *
          clear hD
          go_wp2_with fail
          go_quiet (fail)
          have hD : Below Wa.heap.size Wa (Wa.drewN nq) := below_drewN (Below.refl _ _) _
          replace hst := hst.later hD
          replace mr := cell_later hD mr
          replace E0 := cell_later hD E0
          replace E1 := cell_later hD E1
          replace E2 := cell_later hD E2
          replace x0 := cell_later hD x0
          replace x1 := cell_later hD x1
          replace x2 := cell_later hD x2
          replace o1 := cell_later hD o1
          generalize Wa.drewN nq = Wb at *
          clear hD
          have hb1 : Below Wb.heap.size Wb ((Wb.alloc (.cells #[.string ts[k].path, .string ts[k].text, .bool ts[k].runs] 72)).drew) := ((Below.refl _ _).alloc (Nat.le_refl _) _).drew
          have o1a : ∀ o, (Wb.alloc o).cell? ⟨ob, 0, none⟩ = some v := fun o => cell_later ((Below.refl _ _).alloc (Nat.le_refl _) _) o1
          go_wp2_with fail
          go_region_law (refine step_append_lies _ rfl _ _ 30 rfl W0.heap.size 72 i0 _ 3 40 Try.underlying30 hi hz0 hz1 hzb rfl (by decide) v us.length (ecells us) rfl (by exact owns_below hst.row hb1) ⟨Wb.heap.size, 0, none⟩ 1 1 (ecell ts[k]) rfl rfl (by exact news_3 _ _ _ _ (by simp)) (by exact one_3 _) (by omega) (by unfold maxLen; omega) (by omega) (by have := hst.grown.size; simp; omega) (Wb.heap.size + 1) (by simp) ?_; intro g3 cap3 w3 hown3 hgrow3 hat3 hlt3; obtain ⟨hc3, hf3⟩ := hst.mid hb1 hgrow3)
          all_goals
            have hst3 := hst.append hb1 hgrow3 hown3
            have HI3 : Keep (SInv ts en (k + 1) true (us ++ [ts[k]])) := ⟨HI.out⟩
            clear hst hb1 hgrow3 hown3 hat3 hlt3 hc3 hf3 o1 o1a mr E0 E1 E2 x0 x1 x2
            go_wp2
            go_roundw
            case rel => exact ⟨k + 1, _, _, _, rfl, by congr 1, hlt, HI3, hst3⟩
            case measure => simp only [intOf]; omega
        | false =>
          cases hll : Op.bytesLess ts[k].path.toList en.path.toList with
          | true =>
            have hll2 : Op.bytesLess en.path.toList ts[k].path.toList = false := by
              cases h : Op.bytesLess en.path.toList ts[k].path.toList with
              | false => rfl
              | true => have := less_trans hll h; rw [less_irrefl] at this; cases this
            have HI : Keep (SInv ts en (k + 1) false (us ++ [ts[k]])) := ⟨hI.out.app HA.out hlt (fun _ => hll) HPE.out⟩
            clear hI
            go_wp2_with fail
            go_quiet (fail)
            have hD : Below wr.heap.size wr (wr.drewN nq) := below_drewN (Below.refl _ _) _
            replace hst := hst.later hD
            replace mr := cell_later hD mr
            replace E0 := cell_later hD E0
            replace E1 := cell_later hD E1
            replace E2 := cell_later hD E2
            replace x0 := cell_later hD x0
            replace x1 := cell_later hD x1
            replace x2 := cell_later hD x2
            replace o1 := cell_later hD o1
            generalize wr.drewN nq = Wa at *
            clear hD
            go_wp2_with fail
            go_quiet (fail)
            have hD : Below Wa.heap.size Wa (Wa.drewN nq) := below_drewN (Below.refl _ _) _
            replace hst := hst.later hD
            replace mr := cell_later hD mr
            replace E0 := cell_later hD E0
            replace E1 := cell_later hD E1
            replace E2 := cell_later hD E2
            replace x0 := cell_later hD x0
            replace x1 := cell_later hD x1
            replace x2 := cell_later hD x2
            replace o1 := cell_later hD o1
            generalize Wa.drewN nq = Wb at *
            clear hD
            have hb1 : Below Wb.heap.size Wb ((Wb.alloc (.cells #[.string ts[k].path, .string ts[k].text, .bool ts[k].runs] 72)).drew) := ((Below.refl _ _).alloc (Nat.le_refl _) _).drew
            have o1a : ∀ o, (Wb.alloc o).cell? ⟨ob, 0, none⟩ = some v := fun o => cell_later ((Below.refl _ _).alloc (Nat.le_refl _) _) o1
            go_wp2_with fail
            go_region_law (refine step_append_lies _ rfl _ _ 30 rfl W0.heap.size 72 i0 _ 3 40 Try.underlying30 hi hz0 hz1 hzb rfl (by decide) v us.length (ecells us) rfl (by exact owns_below hst.row hb1) ⟨Wb.heap.size, 0, none⟩ 1 1 (ecell ts[k]) rfl rfl (by exact news_3 _ _ _ _ (by simp)) (by exact one_3 _) (by omega) (by unfold maxLen; omega) (by omega) (by have := hst.grown.size; simp; omega) (Wb.heap.size + 1) (by simp) ?_; intro g3 cap3 w3 hown3 hgrow3 hat3 hlt3; obtain ⟨hc3, hf3⟩ := hst.mid hb1 hgrow3)
            all_goals
              have hst3 := hst.append hb1 hgrow3 hown3
              have HI3 : Keep (SInv ts en (k + 1) false (us ++ [ts[k]])) := ⟨HI.out⟩
              clear hst hb1 hgrow3 hown3 hat3 hlt3 hc3 hf3 o1 o1a mr E0 E1 E2 x0 x1 x2
              go_wp2
              go_roundw
              case rel => exact ⟨k + 1, _, _, _, rfl, by congr 1, hlt, HI3, hst3⟩
              case measure => simp only [intOf]; omega
          | false =>
            have hll2 : Op.bytesLess en.path.toList ts[k].path.toList = true := less_of hll HPE.out
            have HI : Keep (SInv ts en (k + 1) true (us ++ [en] ++ [ts[k]])) := ⟨(hI.out.put HA.out hlt hll).app HA.out hlt (fun h => by cases h) HPE.out⟩
            clear hI
            go_wp2_with fail
            go_quiet (fail)
            have hD : Below wr.heap.size wr (wr.drewN nq) := below_drewN (Below.refl _ _) _
            replace hst := hst.later hD
            replace mr := cell_later hD mr
            replace E0 := cell_later hD E0
            replace E1 := cell_later hD E1
            replace E2 := cell_later hD E2
            replace x0 := cell_later hD x0
            replace x1 := cell_later hD x1
            replace x2 := cell_later hD x2
            replace o1 := cell_later hD o1
            generalize wr.drewN nq = Wa at *
            clear hD
            have hb1 : Below Wa.heap.size Wa (Wa.alloc (.cells #[.string en.path, .string en.text, .bool en.runs] 72)) := (Below.refl _ _).alloc (Nat.le_refl _) _
            go_wp2_with (first
              | (at_builtin; refine wpList_append_lies _ rfl _ _ 30 rfl W0.heap.size 72 i0 _ 3 40 Try.underlying30 hi hz0 hz1 hzb rfl (by decide) v us.length (ecells us) rfl (hst.row.alloc _) ⟨Wa.heap.size, 0, none⟩ 1 1 (ecell en) rfl rfl (news_3 Wa en _ _ rfl) (one_3 en) (by omega) (by unfold maxLen; omega) (by omega) (by have := hst.grown.size; simp; omega) (Wa.heap.size + 1) (by simp) ?_; intro g2 cap2 w2 hown2 hgrow2 hat2 hlt2; obtain ⟨hc2, hf2⟩ := hst.mid hb1 hgrow2))
            replace hst := hst.append hb1 hgrow2 hown2
            clear hc2 hf2 hb1 hgrow2 hown2 hat2 hlt2 o1 mr E0 E1 E2 x0 x1 x2
            have hlen2 : (us ++ [en]).length ≤ 1048578 := by simp; omega
            generalize hv2 : Value.slice (some ⟨g2, 0, none⟩) (us.length + 1) cap2 = v2 at *
            generalize us ++ [en] = us2 at *
            generalize w2.setCell ⟨ob, 0, none⟩ v2 = Wc at *
            have hbr := hst.below hal (by have := HS.out; omega)
            obtain ⟨b', off', hbo, hc⟩ := (hts.below hbr).at hlt
            cases hbo
            obtain ⟨x0, x1, x2⟩ := hc k hlt
            have mr := hst.keep m0 (by have := HS.out; omega) (by have := HS.out; omega)
            have E0 := hst.keep e0 (by have := HS.out; omega) (by have := HS.out; omega)
            have E1 := hst.keep e1 (by have := HS.out; omega) (by have := HS.out; omega)
            have E2 := hst.keep e2 (by have := HS.out; omega) (by have := HS.out; omega)
            have o1 := hst.cell
            clear hc
            go_wp2_with fail
            go_quiet (fail)
            have hD : Below Wc.heap.size Wc (Wc.drewN nq) := below_drewN (Below.refl _ _) _
            replace hst := hst.later hD
            replace mr := cell_later hD mr
            replace E0 := cell_later hD E0
            replace E1 := cell_later hD E1
            replace E2 := cell_later hD E2
            replace x0 := cell_later hD x0
            replace x1 := cell_later hD x1
            replace x2 := cell_later hD x2
            replace o1 := cell_later hD o1
            generalize Wc.drewN nq = Wd at *
            clear hD
            have hb1 : Below Wd.heap.size Wd ((Wd.alloc (.cells #[.string ts[k].path, .string ts[k].text, .bool ts[k].runs] 72)).drew) := ((Below.refl _ _).alloc (Nat.le_refl _) _).drew
            have o1a : ∀ o, (Wd.alloc o).cell? ⟨ob, 0, none⟩ = some v2 := fun o => cell_later ((Below.refl _ _).alloc (Nat.le_refl _) _) o1
            go_wp2_with fail
            go_region_law (refine step_append_lies _ rfl _ _ 30 rfl W0.heap.size 72 i0 _ 3 40 Try.underlying30 hi hz0 hz1 hzb rfl (by decide) v2 us2.length (ecells us2) rfl (by exact owns_below hst.row hb1) ⟨Wd.heap.size, 0, none⟩ 1 1 (ecell ts[k]) rfl rfl (by exact news_3 _ _ _ _ (by simp)) (by exact one_3 _) (by omega) (by unfold maxLen; omega) (by omega) (by have := hst.grown.size; simp; omega) (Wd.heap.size + 1) (by simp) ?_; intro g3 cap3 w3 hown3 hgrow3 hat3 hlt3; obtain ⟨hc3, hf3⟩ := hst.mid hb1 hgrow3)
            all_goals
              have hst3 := hst.append hb1 hgrow3 hown3
              have HI3 : Keep (SInv ts en (k + 1) true (us2 ++ [ts[k]])) := ⟨HI.out⟩
              clear hst hb1 hgrow3 hown3 hat3 hlt3 hc3 hf3 o1 o1a mr E0 E1 E2 x0 x1 x2
              go_wp2
              go_roundw
              case rel => exact ⟨k + 1, _, _, _, rfl, by congr 1, hlt, HI3, hst3⟩
              case measure => simp only [intOf]; omega
    · obtain rfl : k = ts.length := by omega
      have k2 := hst.keep k0 (by have := HS.out; omega) (by have := HS.out; omega)
      have kf2 : wr.frozen? ⟨g, 0, none⟩ = false := frozen_of (hst.grown.block g (by have := HS.out; omega) (by have := HS.out; simp; omega)) kf
      have hgw : w.heap.size ≤ g := by have := HS.out; omega
      have hgW : g < W0.heap.size := by have := HS.out; omega
      clear hEr
      cases dn with
      | true =>
        have HR : Keep (SetRel ts en us) := ⟨hI.out.done⟩
        obtain ⟨ad, cap2, rfl⟩ := owns_slice hst.row
        have hel := el_of_row hst.row
        have hroom := row_room hst.row
        have hel2 := (hel.grown (row := some g) (grown_set0 wr g 0 (.slice ad us.length cap2)) (fun j _ hj _ e => by cases e; omega)).mono hal.size
        clear hI hel
        go_wp2
        refine bodyPost_ret (v := .agg #[.slice ad us.length cap2]) ?_ rfl ⟨ad, cap2, us, rfl, HR.out, hel2, hbr.setCell (p := ⟨g, 0, none⟩) hgw _, hul, hroom⟩
        go_light
        simp [results, Try.results36, go_sem, k2]
      | false =>
        have HR : Keep (SetRel ts en (us ++ [en])) := ⟨hI.out.last HA.out⟩
        have hul2 : us.length ≤ ts.length := by
          rcases hI.out with ⟨_, rfl, _⟩ | ⟨h, _⟩
          · simp
          · cases h
        clear hI
        have hgo : g ≠ ob := by have := HS.out; omega
        have hgo1 : ¬ g = ob := hgo
        have hgo2 : ¬ ob = g := fun e => hgo e.symm
        have hb1 : Below wr.heap.size wr (wr.alloc (.cells #[.string en.path, .string en.text, .bool en.runs] 72)) := (Below.refl _ _).alloc (Nat.le_refl _) _
        go_wp2_with (first
          | (at_builtin; refine wpList_append_lies _ rfl _ _ 30 rfl W0.heap.size 72 i0 _ 3 40 Try.underlying30 hi hz0 hz1 hzb rfl (by decide) v us.length (ecells us) rfl (hst.row.alloc _) ⟨wr.heap.size, 0, none⟩ 1 1 (ecell en) rfl rfl (news_3 wr en _ _ rfl) (one_3 en) (by omega) (by unfold maxLen; omega) (by omega) (by have := hst.grown.size; simp; omega) (wr.heap.size + 1) (by simp) ?_; intro g2 cap2 w2 hown2 hgrow2 hat2 hlt2; obtain ⟨hc2, hf2⟩ := hst.mid hb1 hgrow2; have hB2 := hst.midBlock hb1 hgrow2 hgW hgo; have k3 := (World.cell?_of_block hB2).trans k0; have kf3 := frozen_of hB2 kf))
        replace hst := hst.append hb1 hgrow2 hown2
        have hbr3 := hst.below hal (by have := HS.out; omega)
        have hel := el_of_row (us := us ++ [en]) (ad := some ⟨g2, 0, none⟩) (cap := cap2) (by have := hst.row; rw [List.length_append] at this ⊢; exact this)
        have hel2 := (hel.grown (row := some g) (grown_set0 _ g 0 (.slice (some ⟨g2, 0, none⟩) (us.length + 1) cap2)) (fun j _ hj _ e => by cases e; omega)).mono hal.size
        have hbr4 := hbr3.setCell (p := ⟨g, 0, none⟩) hgw (.slice (some ⟨g2, 0, none⟩) (us.length + 1) cap2)
        refine bodyPost_ret (v := .agg #[.slice (some ⟨g2, 0, none⟩) (us ++ [en]).length cap2]) ?_ rfl ⟨some ⟨g2, 0, none⟩, cap2, us ++ [en], rfl, HR.out, hel2, hbr4, by simp; omega, by have := row_room hown2; simp; omega⟩
        go_light
        simp [results, Try.results36, go_sem, k3]

theorem l5Set_any (a : Option Addr) (cap : Nat) (ts : List En) (en : En) (w : World) (hts : ES w a ts) (hn : ts.length ≤ 1048576) (hA : Asc ts) :
    Calls Try.prog 36 #[.agg #[.slice a ts.length cap], .agg #[.string en.path, .string en.text, .bool en.runs]] w fun e w' => SetPost ts en w e w' :=
  (l5SetC_any a cap ts en w hts hn hA).mono (fun _ _ ⟨ad, cp, us, h1, h2, h3, h4, h5, _⟩ => ⟨ad, cp, us, h1, h2, h3, h4, h5⟩)
end Go.Proofs.Ytockgapdfcapnaa

namespace Go.Proofs.Ytockgapdfcapnaa
open Go.RowKit

def LayPost6 (ts : List En) (p : ByteArray) (f : Fl) (w : World) (e : Ending) (w' : World) : Prop :=
  ∃ ad cap us, e = .returned (.agg #[.slice ad us.length cap]) ∧ LayRel ts p f us ∧ EL w.heap.size w' ad us ∧ Below w.heap.size w w' ∧ us.length ≤ ts.length + 1

def LayPost6C (ts : List En) (p : ByteArray) (f : Fl) (w : World) (e : Ending) (w' : World) : Prop :=
  ∃ ad cap us, e = .returned (.agg #[.slice ad us.length cap]) ∧ LayRel ts p f us ∧ EL w.heap.size w' ad us ∧ Below w.heap.size w w' ∧ us.length ≤ ts.length + 1 ∧ us.length ≤ cap

set_option maxRecDepth 100000 in
set_option maxHeartbeats 8000000 in
theorem l6LayC_any (a : Option Addr) (cap : Nat) (ts : List En) (p : ByteArray) (f : Fl) (w : World) (hts : ES w a ts) (hn : ts.length ≤ 1000000) (hA : Asc ts) :
    Calls Try.prog 34 #[.agg #[.slice a ts.length cap], .string p, .agg #[.bool f.there, .string f.text, .bool f.runs]] w fun e w' => LayPost6C ts p f w e w' := by
  obtain ⟨i0, hi, hz0, hz1, hz2⟩ := info_parts Try.infoEntry
  have hal : Below w.heap.size w ((((w.alloc (.cells #[.slice a ts.length cap] 32)).alloc (.cells #[.bool f.there, .string f.text, .bool f.runs] 69)).alloc (.cells #[.slice none 0 0] 32)).alloc (.cells #[.slice none 0 0] 32)) := ((((Below.refl _ _).alloc (Nat.le_refl _) _).alloc (by simp) _).alloc (by simp; omega) _).alloc (by simp; omega) _
  have m0 : ((((w.alloc (.cells #[.slice a ts.length cap] 32)).alloc (.cells #[.bool f.there, .string f.text, .bool f.runs] 69)).alloc (.cells #[.slice none 0 0] 32)).alloc (.cells #[.slice none 0 0] 32)).cell? ⟨w.heap.size, 0, none⟩ = some (.slice a ts.length cap) := by simp [go_sem]
  have f0 : ((((w.alloc (.cells #[.slice a ts.length cap] 32)).alloc (.cells #[.bool f.there, .string f.text, .bool f.runs] 69)).alloc (.cells #[.slice none 0 0] 32)).alloc (.cells #[.slice none 0 0] 32)).cell? ⟨w.heap.size + 1, 0, none⟩ = some (.bool f.there) := by simp [go_sem]
  have f1 : ((((w.alloc (.cells #[.slice a ts.length cap] 32)).alloc (.cells #[.bool f.there, .string f.text, .bool f.runs] 69)).alloc (.cells #[.slice none 0 0] 32)).alloc (.cells #[.slice none 0 0] 32)).cell? ⟨w.heap.size + 1, 1, none⟩ = some (.string f.text) := by simp [go_sem]
  have f2 : ((((w.alloc (.cells #[.slice a ts.length cap] 32)).alloc (.cells #[.bool f.there, .string f.text, .bool f.runs] 69)).alloc (.cells #[.slice none 0 0] 32)).alloc (.cells #[.slice none 0 0] 32)).cell? ⟨w.heap.size + 1, 2, none⟩ = some (.bool f.runs) := by simp [go_sem]
  have k0 : ((((w.alloc (.cells #[.slice a ts.length cap] 32)).alloc (.cells #[.bool f.there, .string f.text, .bool f.runs] 69)).alloc (.cells #[.slice none 0 0] 32)).alloc (.cells #[.slice none 0 0] 32)).cell? ⟨w.heap.size + 1 + 1, 0, none⟩ = some (.slice none 0 0) := by simp [go_sem]
  have kf : ((((w.alloc (.cells #[.slice a ts.length cap] 32)).alloc (.cells #[.bool f.there, .string f.text, .bool f.runs] 69)).alloc (.cells #[.slice none 0 0] 32)).alloc (.cells #[.slice none 0 0] 32)).frozen? ⟨w.heap.size + 1 + 1, 0, none⟩ = false := by simp [go_sem]
  have o0 : ((((w.alloc (.cells #[.slice a ts.length cap] 32)).alloc (.cells #[.bool f.there, .string f.text, .bool f.runs] 69)).alloc (.cells #[.slice none 0 0] 32)).alloc (.cells #[.slice none 0 0] 32)).cell? ⟨w.heap.size + 1 + 1 + 1, 0, none⟩ = some (.slice none 0 0) := by simp [go_sem]
  have of0 : ((((w.alloc (.cells #[.slice a ts.length cap] 32)).alloc (.cells #[.bool f.there, .string f.text, .bool f.runs] 69)).alloc (.cells #[.slice none 0 0] 32)).alloc (.cells #[.slice none 0 0] 32)).frozen? ⟨w.heap.size + 1 + 1 + 1, 0, none⟩ = false := by simp [go_sem]
  have os0 : w.heap.size + 1 + 1 + 1 < ((((w.alloc (.cells #[.slice a ts.length cap] 32)).alloc (.cells #[.bool f.there, .string f.text, .bool f.runs] 69)).alloc (.cells #[.slice none 0 0] 32)).alloc (.cells #[.slice none 0 0] 32)).heap.size := by simp [go_sem]
  go_enter Try.func34, Try.ntmps34
  go_wp2
  generalize (((w.alloc (.cells #[.slice a ts.length cap] 32)).alloc (.cells #[.bool f.there, .string f.text, .bool f.runs] 69)).alloc (.cells #[.slice none 0 0] 32)).alloc (.cells #[.slice none 0 0] 32) = W at *
  obtain ⟨ob, hob⟩ : ∃ ob, ob = w.heap.size + 1 + 1 + 1 := ⟨_, rfl⟩
  obtain ⟨g, hg⟩ : ∃ g, g = w.heap.size + 1 + 1 := ⟨_, rfl⟩
  obtain ⟨fb, hfb⟩ : ∃ fb, fb = w.heap.size + 1 := ⟨_, rfl⟩
  obtain ⟨ta, hta⟩ : ∃ ta, ta = w.heap.size := ⟨_, rfl⟩
  rw [← hob] at o0 of0 os0 ⊢
  rw [← hg] at k0 kf ⊢
  rw [← hfb] at f0 f1 f2 ⊢
  rw [← hta] at m0 ⊢
  have HS : Keep (ta = w.heap.size ∧ fb = w.heap.size + 1 ∧ g = w.heap.size + 2 ∧ ob = w.heap.size + 3 ∧ ob < W.heap.size) := ⟨by omega⟩
  have hst0 := OutSt.start o0 of0 os0
  clear hob hg hfb hta o0 of0 os0
  go_loopw [8] (fun i wr => ∃ (k : Nat) (v : Value), i = .int .i64 k ∧ k ≤ ts.length ∧ OutSt ob W v (offP (ts.take k) p) wr) (fun i _ => ts.length - (intOf i).toNat)
  case atStart => exact ⟨0, _, rfl, Nat.zero_le _, hst0⟩
  case round =>
    clear hst0
    obtain ⟨k, v, rfl, hk, hst⟩ := hrel
    have hbr := hst.below hal (by have := HS.out; omega)
    have mr := hst.keep m0 (by have := HS.out; omega) (by have := HS.out; omega)
    by_cases hlt : k < ts.length
    · have hlt' : (k : Int) < ts.length := by omega
      obtain ⟨b, off, rfl, hc⟩ := (hts.below hbr).at hlt
      obtain ⟨x0, x1, x2⟩ := hc k hlt
      have hwt := offP_take (p := p) hlt
      cases hq : (ts[k].path.toList == p.toList) with
      | true =>
        rw [hq] at hwt
        simp only [if_true] at hwt
        have HW : Keep (offP (ts.take (k + 1)) p = offP (ts.take k) p) := ⟨hwt⟩
        have hq2 : (ts[k].path.toList != p.toList) = false := by simpa using hq
        clear hwt hc
        go_wp2
        go_roundw
        case rel => exact ⟨k + 1, v, by congr 1, hlt, by rw [HW.out]; exact hst⟩
        case measure => simp only [intOf]; omega
      | false =>
        rw [hq] at hwt
        simp only [Bool.false_eq_true, if_false] at hwt
        have HW : Keep (offP (ts.take (k + 1)) p = offP (ts.take k) p ++ [ts[k]]) := ⟨hwt⟩
        have hq2 : (ts[k].path.toList != p.toList) = true := by simpa using hq
        have hlen : (offP (ts.take k) p).length ≤ 1048576 := Nat.le_trans offP_len (by simp; omega)
        clear hwt hc
        generalize offP (ts.take k) p = us at *
        have hb1 : Below wr.heap.size wr (wr.alloc (.cells #[.string ts[k].path, .string ts[k].text, .bool ts[k].runs] 72)).drew := ((Below.refl _ _).alloc (Nat.le_refl _) _).drew
        have o1 := hst.cell
        have o1a : ∀ o, (wr.alloc o).cell? ⟨ob, 0, none⟩ = some v := fun o => cell_later ((Below.refl _ _).alloc (Nat.le_refl _) o) o1
        have HST : Keep (OutSt ob W v us wr) := ⟨hst⟩
        have hgs := hst.grown.size
        clear hst hbr
        go_wp2_with fail
        go_region_law (refine step_append_lies _ rfl _ _ 30 rfl W.heap.size 72 i0 _ 3 40 Try.underlying30 hi hz0 hz1 hz2 rfl (by decide) v us.length (ecells us) rfl (by exact owns_below HST.out.row hb1) ⟨wr.heap.size, 0, none⟩ 1 1 (ecell ts[k]) rfl rfl (by exact news_3 _ _ _ _ (by simp)) (by exact one_3 _) (by omega) (by unfold maxLen; omega) (by omega) (by simp; omega) (wr.heap.size + 1) (by simp) ?_; intro g2 cap2 w2 hown2 hgrow2 hat2 hlt2; have hm3 := HST.out.mid hb1 hgrow2; have oc3 := hm3.1; have of3 := hm3.2)
        all_goals
          have hst3 := HST.out.append hb1 hgrow2 hown2
          clear hm3 oc3 of3 hgrow2 hown2 hat2 hlt2 o1 o1a x0 x1 x2 mr HST
          go_wp2
          go_roundw
          case rel => exact ⟨k + 1, _, by congr 1, hlt, by rw [HW.out]; exact hst3⟩
          case measure => simp only [intOf]; omega
    · obtain rfl : k = ts.length := by omega
      rw [List.take_length] at hst
      have k2 := hst.keep k0 (by have := HS.out; omega) (by have := HS.out; omega)
      have g0 := hst.keep f0 (by have := HS.out; omega) (by have := HS.out; omega)
      have g1 := hst.keep f1 (by have := HS.out; omega) (by have := HS.out; omega)
      have g2 := hst.keep f2 (by have := HS.out; omega) (by have := HS.out; omega)
      have kf2 : wr.frozen? ⟨g, 0, none⟩ = false := frozen_of (hst.grown.block g (by have := HS.out; omega) (fun e => by have := HS.out; cases e; omega)) kf
      obtain ⟨ad, cap2, rfl⟩ := owns_slice hst.row
      have o2 := hst.cell
      have of2 := hst.fz
      have hel := el_of_row hst.row
      have hgo : ¬ g = ob := by have := HS.out; omega
      have hog : ¬ ob = g := by have := HS.out; omega
      cases ht : f.there with
      | false =>
        rw [ht] at g0
        have HB : Keep (LayPost6C ts p f w (.returned (.agg #[.slice ad (offP ts p).length cap2])) (wr.setCell ⟨g, 0, none⟩ (.slice ad (offP ts p).length cap2))) := ⟨⟨ad, cap2, offP ts p, rfl, by unfold LayRel; rw [if_neg (by rw [ht]; simp)], (hel.grown (row := some g) (grown_set0 wr g 0 _) (fun j _ hj _ e => by have := HS.out; cases e; omega)).mono (show w.heap.size ≤ W.heap.size by have := HS.out; omega), hbr.setCell (p := ⟨g, 0, none⟩) (by have := HS.out; show _ ≤ g; omega) _, Nat.le_trans offP_len (by omega), row_room hst.row⟩⟩
        clear hel hst hbr
        generalize offP ts p = us at *
        go_wp2
        refine bodyPost_ret (v := .agg #[.slice ad us.length cap2]) ?_ rfl HB.out
        go_light
        simp [results, Try.results34, go_sem, k2]
      | true =>
        rw [ht] at g0
        have hset := l5SetC_any ad cap2 (offP ts p) ⟨p, f.text, f.runs⟩ wr hel.es (Nat.le_trans offP_len (by omega)) (offP_asc hA)
        have hol : (offP ts p).length ≤ ts.length := offP_len
        have HST : Keep (OutSt ob W (.slice ad (offP ts p).length cap2) (offP ts p) wr) := ⟨hst⟩
        clear hel hst
        go_wp2_with fail
        refine hset.mono ?_
        rintro e w3 ⟨ad3, cap3, us, rfl, hrel, hel3, hb3, hus, hrm3⟩
        replace k2 := cell_later hb3 k2
        replace o2 := cell_later hb3 o2
        replace kf2 : w3.frozen? ⟨g, 0, none⟩ = false := (hb3.frozen (p := ⟨g, 0, none⟩) (World.block_lt_of_cell? wr ⟨g, 0, none⟩ (HST.out.keep k0 (by have := HS.out; omega) (by have := HS.out; omega)))).trans kf2
        replace of2 : w3.frozen? ⟨ob, 0, none⟩ = false := (hb3.frozen (p := ⟨ob, 0, none⟩) HST.out.size).trans of2
        have hgw := HST.out.grown.size
        have h31 := hel3.grown (row := some ob) (grown_set0 w3 ob 0 (.slice ad3 us.length cap3)) (fun j _ hj _ e => by have := HS.out; cases e; omega)
        have h32 := h31.grown (row := some g) (grown_set0 _ g 0 (.slice ad3 us.length cap3)) (fun j _ hj _ e => by have := HS.out; cases e; omega)
        have hb4 := ((hbr.trans (hb3.mono hbr.size)).setCell (p := ⟨ob, 0, none⟩) (by have := HS.out; show _ ≤ ob; omega) (.slice ad3 us.length cap3)).setCell (p := ⟨g, 0, none⟩) (by have := HS.out; show _ ≤ g; omega) (.slice ad3 us.length cap3)
        have HB : Keep (LayPost6C ts p f w (.returned (.agg #[.slice ad3 us.length cap3])) ((w3.setCell ⟨ob, 0, none⟩ (.slice ad3 us.length cap3)).setCell ⟨g, 0, none⟩ (.slice ad3 us.length cap3))) := ⟨⟨ad3, cap3, us, rfl, by unfold LayRel; rw [if_pos ht]; exact hrel, h32.mono (show w.heap.size ≤ wr.heap.size by have := HS.out; omega), hb4, by omega, hrm3⟩⟩
        clear hel3 h31 h32 hb4 hb3 hset hbr HST
        go_wp2
        refine bodyPost_ret (v := .agg #[.slice ad3 us.length cap3]) ?_ rfl HB.out
        go_light
        simp [results, Try.results34, go_sem, k2]
theorem l6Lay_any (a : Option Addr) (cap : Nat) (ts : List En) (p : ByteArray) (f : Fl) (w : World) (hts : ES w a ts) (hn : ts.length ≤ 1000000) (hA : Asc ts) :
    Calls Try.prog 34 #[.agg #[.slice a ts.length cap], .string p, .agg #[.bool f.there, .string f.text, .bool f.runs]] w fun e w' => LayPost6 ts p f w e w' :=
  (l6LayC_any a cap ts p f w hts hn hA).mono (fun _ _ ⟨ad, cp, us, h1, h2, h3, h4, h5, _⟩ => ⟨ad, cp, us, h1, h2, h3, h4, h5⟩)
end Go.Proofs.Ytockgapdfcapnaa
