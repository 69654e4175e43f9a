/-
  impl.partOf, whole: it is mkT.
-/
import Derived.Test.YtamaioeikcjhoaaDoorFieldsOf
namespace Go.Proofs.YtamaioeikcjhoaaDoor
open Go.RowKit

theorem box4' {w w2 : World} {a b c d : Value} {t : TypeId} (h : Below (w.alloc (.cells #[a, b, c, d] t)).heap.size (w.alloc (.cells #[a, b, c, d] t)) w2) :
    w2.cell? ⟨w.heap.size, 0, none⟩ = some a ∧ w2.cell? ⟨w.heap.size, 1, none⟩ = some b ∧ w2.cell? ⟨w.heap.size, 2, none⟩ = some c ∧ w2.cell? ⟨w.heap.size, 3, none⟩ = some d := by
  have e : ∀ j, w2.cell? ⟨w.heap.size, j, none⟩ = (#[a, b, c, d] : Array Value)[j]? := fun j =>
    (h.cell (p := ⟨w.heap.size, j, none⟩) (by simp)).trans (World.cell?_alloc_new _ _ _ _)
  exact ⟨e 0, e 1, e 2, e 3⟩

def RecPost (n : Int) (t : ByteArray) (ks : List T) (vs : List Value) (B : Nat) (w' : World) (p : Value) (b : Bool) : Prop :=
  (b = false ∧ ¬ (ks.length % 2 = 0 ∧ n = 0 ∧ t.size = 0 ∧ ∃ ns, nm ks (ks.length / 2) = some ns)) ∨ (b = true ∧ ks.length % 2 = 0 ∧ n = 0 ∧ t.size = 0 ∧ ∃ ns ad' cap', nm ks (ks.length / 2) = some ns ∧ p = .iface 133 (.agg #[.slice ad' (ks.length / 2) cap']) ∧ NewF w' B ad' ns vs (ks.length / 2))

theorem NewF.mono {w w' : World} {B B' : Nat} {ad : Option Addr} {ns : List ByteArray} {vs : List Value} {m : Nat} (h : NewF w B ad ns vs m) (hB : B' ≤ B) (hs : w.heap.size ≤ w'.heap.size) (hb : ∀ b, b < w.heap.size → w'.heap[b]? = w.heap[b]?) : NewF w' B' ad ns vs m := by
  rcases h with h | ⟨b, ha, h1, h2, hc⟩
  · exact .inl h
  · exact .inr ⟨b, ha, Nat.le_trans hB h1, Nat.lt_of_lt_of_le h2 hs, fun i hi => ⟨(World.cell?_of_block (w := w) (hb b h2)).trans (hc i hi).1, (World.cell?_of_block (w := w) (hb b h2)).trans (hc i hi).2⟩⟩

set_option maxRecDepth 20000 in
set_option maxHeartbeats 1000000 in
theorem partOf_rec (n : Int) (t : ByteArray) (q : Int) (ad : Option Addr) (cap : Nat) (vs : List Value) (ks : List T) (ok : Nat → Prop) (w : World) (h : Cs w ad vs) (hl : vs.length = ks.length) (hok : ∀ b, ok b → b < w.heap.size) (hrep : ∀ i (h : i < ks.length) (h' : i < vs.length), Rep w ok ks[i] vs[i]) (h1 : ∀ u ∈ vs, u.oneCell' = true) (hn : vs.length ≤ 300) :
    Calls Tryd.prog 45 #[.agg #[.int .i64 5, .int .i64 n, .string t, .int .i64 q], .slice ad vs.length cap] w fun e w' => ∃ p b, e = .returned (.tuple #[p, .bool b]) ∧ Below w.heap.size w w' ∧ RecPost n t ks vs w.heap.size w' p b := by
  have hg := eqGuardAtom
  have hb0 : ∀ o, Below w.heap.size w (w.alloc o) := fun o => (Below.refl _ _).alloc (Nat.le_refl _) _
  have HLN : Hid (vs.length = ks.length) := hl
  clear hl
  go_enter Tryd.func45, Tryd.ntmps45
  go_wp2_with fail
  refine (fieldsOf_any ad cap vs ks ok _ (h.below (hb0 _)) HLN.out (fun i h h' => Rep.mono (fun b hb => (hb0 _).block b (hok b hb)) (fun _ h => h) _ _ (hrep i h h')) h1 hn).mono ?_
  rintro e w1 ⟨v, b, rfl, hb1, hpost⟩
  obtain ⟨d0, d1, d2, d3⟩ := box4' hb1
  have hb2 := (hb0 _).trans (hb1.mono (hb0 _).size)
  clear h hrep
  rcases hpost with ⟨rfl, rfl, hno⟩ | ⟨rfl, hev, ns, ad', cap', hnm, rfl, hnew⟩
  · go_wp2
    go_quiet (fail)
    go_wp2
    go_ret2
    refine ⟨_, false, rfl, below_drewN hb2 _, .inl ⟨rfl, fun hh => ?_⟩⟩
    rcases hno with hno | hno
    · exact hno hh.1
    · obtain ⟨ns, hns⟩ := hh.2.2.2
      rw [hno] at hns
      cases hns
  · have HM : Hid (nm ks (ks.length / 2) = some ns) := hnm
    have HE : Hid (ks.length % 2 = 0) := hev
    clear hnm hev
    have heq : ∀ w, (binOp .eql 66 (.agg #[.int .i64 5, .int .i64 n, .string t, .int .i64 q]) (.agg #[.int .i64 5, .int .i64 0, .string ⟨#[]⟩, .int .i64 q])).run Tryd.prog w = .ok (.bool (decide (n = 0 ∧ t = ⟨#[]⟩))) w := fun w => by rw [eq_atom]; simp
    by_cases hc : n = 0 ∧ t = ⟨#[]⟩
    · rw [decide_eq_true hc] at heq
      obtain ⟨rfl, rfl⟩ := hc
      go_wp2
      go_quiet (fail)
      go_wp2
      go_ret2
      exact ⟨_, true, rfl, below_drewN hb2 _, .inr ⟨rfl, HE.out, rfl, rfl, ns, ad', cap', HM.out, rfl, hnew.mono (by simp) (Nat.le_refl _) (fun _ _ => rfl)⟩⟩
    · rw [decide_eq_false hc] at heq
      go_wp2
      go_quiet (fail)
      go_wp2
      go_ret2
      exact ⟨_, false, rfl, below_drewN hb2 _, .inl ⟨rfl, fun hh => hc ⟨hh.2.1, (size_zero t).1 hh.2.2.1⟩⟩⟩

/-- What partOf leaves: the tree that mkT says, in old blocks and new ones; or false. -/
def PartPost (a : At) (ks : List T) (ok : Nat → Prop) (B : Nat) (w' : World) (p : Value) (b : Bool) : Prop :=
  (b = false ∧ mkT a ks = none) ∨ (b = true ∧ ∃ t, mkT a ks = some t ∧ Rep w' (fun x => ok x ∨ (B ≤ x ∧ x < w'.heap.size)) t p)

theorem odds_len : ∀ (ks : List T), (odds ks).length = ks.length / 2
  | [] => rfl
  | [_] => by simp [odds]
  | _ :: _ :: r => by simp [odds, odds_len r]; omega
theorem odds_get : ∀ (ks : List T) (i : Nat) (h : i < (odds ks).length), (odds ks)[i] = ks[2 * i + 1]'(by rw [odds_len] at h; omega)
  | [], i, h => by simp [odds] at h
  | [_], i, h => by simp [odds] at h
  | a :: b :: r, 0, h => rfl
  | a :: b :: r, i + 1, h => by
    have := odds_get r i (by simpa [odds] using h)
    simp only [odds, List.getElem_cons_succ, this]
    rfl

theorem partOf_any (a : At) (ad : Option Addr) (cap : Nat) (vs : List Value) (ks : List T) (ok : Nat → Prop) (w : World) (h : Cs w ad vs) (hnil : ad = none → vs = []) (hl : vs.length = ks.length) (hok : ∀ b, ok b → b < w.heap.size) (hrep : ∀ i (h : i < ks.length) (h' : i < vs.length), Rep w ok ks[i] vs[i]) (hn : vs.length ≤ 300) (ht : a.text.size ≤ maxLen) :
    Calls Tryd.prog 45 #[.agg #[.int .i64 a.kind, .int .i64 a.n, .string a.text, .int .i64 a.kids], .slice ad vs.length cap] w fun e w' => ∃ p b, e = .returned (.tuple #[p, .bool b]) ∧ Below w.heap.size w w' ∧ PartPost a ks ok w.heap.size w' p b := by
  have h1 : ∀ u ∈ vs, u.oneCell' = true := by
    intro u hu
    obtain ⟨i, hi, rfl⟩ := List.getElem_of_mem hu
    obtain ⟨T1, x1, e⟩ := rep_iface (hrep i (by omega) hi)
    rw [e]; rfl
  obtain ⟨k, n, t, q⟩ := a
  simp only at ht ⊢
  have old : ∀ (w' : World), Below w.heap.size w w' → ∀ i (h : i < ks.length) (h' : i < vs.length), Rep w' (fun x => ok x ∨ (w.heap.size ≤ x ∧ x < w'.heap.size)) ks[i] vs[i] := fun w' hb i h h' =>
    Rep.mono (fun b hb' => hb.block b (hok b hb')) (fun _ h => .inl h) _ _ (hrep i h h')
  by_cases k1 : k = 1
  · subst k1
    refine (partOf_flag n t q ad vs.length cap w).mono ?_
    rintro e w' ⟨b, rfl, hiff, hb⟩
    refine ⟨_, b, rfl, hb, ?_⟩
    by_cases hc : okFlag n t q
    · exact .inr ⟨hiff.2 hc, .flag n, (if_pos rfl).trans (if_pos hc), by simp only [Rep.flag]⟩
    · refine .inl ⟨by cases b; rfl; exact absurd (hiff.1 rfl) hc, ?_⟩
      exact (if_pos rfl).trans (if_neg hc)
  by_cases k2 : k = 2
  · subst k2
    refine (partOf_int n t q ad vs.length cap w).mono ?_
    rintro e w' ⟨b, rfl, hiff, hb⟩
    refine ⟨_, b, rfl, hb, ?_⟩
    by_cases hc : okInt t q
    · exact .inr ⟨hiff.2 hc, .num n, ((if_neg (by simp)).trans (if_pos rfl)).trans (if_pos hc), by simp only [Rep.num]⟩
    · refine .inl ⟨by cases b; rfl; exact absurd (hiff.1 rfl) hc, ?_⟩
      exact ((if_neg (by simp)).trans (if_pos rfl)).trans (if_neg hc)
  by_cases k3 : k = 3
  · subst k3
    refine (partOf_text n t q ad vs.length cap w ht).mono ?_
    rintro e w' ⟨b, rfl, hiff, hb⟩
    refine ⟨_, b, rfl, hb, ?_⟩
    by_cases hc : okText n t q
    · exact .inr ⟨hiff.2 hc, .text t, ((if_neg (by simp)).trans ((if_neg (by simp)).trans (if_pos rfl))).trans (if_pos hc), by simp only [Rep.text]⟩
    · refine .inl ⟨by cases b; rfl; exact absurd (hiff.1 rfl) hc, ?_⟩
      exact ((if_neg (by simp)).trans ((if_neg (by simp)).trans (if_pos rfl))).trans (if_neg hc)
  by_cases k4 : k = 4
  · subst k4
    refine (partOf_list n t q ad cap vs w h hnil h1 (by omega)).mono ?_
    rintro e w' ⟨b, ad', cap', rfl, hiff, hnew, hb⟩
    refine ⟨_, b, rfl, hb, ?_⟩
    by_cases hc : okList n t
    · refine .inr ⟨hiff.2 hc, .list ks, ((if_neg (by simp)).trans ((if_neg (by simp)).trans ((if_neg (by simp)).trans (if_pos rfl)))).trans (if_pos hc), ?_⟩
      simp only [Rep.list]
      refine ⟨ad', cap', by rw [hl], by omega, ?_⟩
      rcases hnew with h0 | ⟨b', ha, h2, h3, hcell⟩
      · left; omega
      · refine .inr ⟨b', ha, .inr ⟨h2, h3⟩, RepL.mk fun i hi => ⟨vs[i]'(by omega), ?_, old w' hb i hi (by omega)⟩⟩
        rw [Nat.zero_add]; exact hcell i (by omega)
    · refine .inl ⟨by cases b; rfl; exact absurd (hiff.1 rfl) hc, ?_⟩
      exact ((if_neg (by simp)).trans ((if_neg (by simp)).trans ((if_neg (by simp)).trans (if_pos rfl)))).trans (if_neg hc)
  by_cases k5 : k = 5
  · subst k5
    refine (partOf_rec n t q ad cap vs ks ok w h hl hok hrep h1 hn).mono ?_
    rintro e w' ⟨p, b, rfl, hb, hpost⟩
    refine ⟨_, b, rfl, hb, ?_⟩
    rcases hpost with ⟨rfl, hno⟩ | ⟨rfl, hev, rfl, hts, ns, ad', cap', hnm, rfl, hnew⟩
    · refine .inl ⟨rfl, ?_⟩
      refine ((if_neg (by simp)).trans ((if_neg (by simp)).trans ((if_neg (by simp)).trans ((if_neg (by simp)).trans (if_pos rfl))))).trans ?_
      by_cases hc : ks.length % 2 = 0 ∧ n = 0 ∧ t.size = 0
      · rw [if_pos hc]
        cases hx : nm ks (ks.length / 2) with
        | none => rfl
        | some ns => exact absurd ⟨hc.1, hc.2.1, hc.2.2, ns, hx⟩ hno
      · rw [if_neg hc]
    · refine .inr ⟨rfl, .recd ns (odds ks), ((if_neg (by simp)).trans ((if_neg (by simp)).trans ((if_neg (by simp)).trans ((if_neg (by simp)).trans (if_pos rfl))))).trans ((if_pos ⟨hev, rfl, hts⟩).trans (by rw [hnm]; rfl)), ?_⟩
      simp only [Rep.recd]
      have hol := odds_len ks
      refine ⟨ad', cap', by rw [hol], by rw [nm_len hnm, hol], by omega, ?_⟩
      rcases hnew with h0 | ⟨b', ha, h2, h3, hcell⟩
      · left; omega
      · refine .inr ⟨b', ha, .inr ⟨h2, h3⟩, RepF.mk fun i hi => ?_⟩
        rw [Nat.zero_add]
        refine ⟨(hcell i (by omega)).1, vs[2 * i + 1]'(by omega), ?_, ?_⟩
        · rw [(hcell i (by omega)).2]; simp [List.getD, show 2 * i + 1 < vs.length by omega]
        · rw [odds_get ks i hi]; exact old w' hb _ (by omega) (by omega)
  · refine (partOf_other k n t q ad vs.length cap w k1 k2 k3 k4 k5).mono ?_
    rintro e w' ⟨rfl, hb⟩
    exact ⟨_, false, rfl, hb, .inl ⟨rfl, by simp [mkT, k1, k2, k3, k4, k5]⟩⟩
end Go.Proofs.YtamaioeikcjhoaaDoor
