/-
  WTr, WPt, OrderP, TellP: laid as one text.
-/
import Derived.Test.YtockgapdfcapnaaDrawPth
import Derived.Test.YtockgapdfcapnaaEntB
import Derived.Test.YtockgapdfcapnaaLaterQ
import Derived.Deep.DeepCutAuto
import Derived.Test.YtockgapdfcapnaaChangesB
import Derived.Test.YtockgapdfcapnaaTreeU
namespace Go.Proofs.Ytockgapdfcapnaa
open Go.RowKit

/-- A tree in a box. -/
structure TBx (b : Nat) (ad : Option Addr) (cp : Nat) (ts : List En) (W : World) : Prop where
  c : W.cell? ⟨b, 0, none⟩ = some (.slice ad ts.length cp)
  es : ES W ad ts
theorem TBx.later {b : Nat} {ad : Option Addr} {cp : Nat} {ts : List En} {W W' : World} (h : TBx b ad cp ts W) (hb : Below W.heap.size W W') : TBx b ad cp ts W' := ⟨cell_later hb h.c, h.es.below hb⟩
theorem TBx.new {ad : Option Addr} {cp : Nat} {ts : List En} {W : World} (h : ES W ad ts) : TBx W.heap.size ad cp ts (W.alloc (.cells #[.slice ad ts.length cp] 32)) := ⟨by simp, h.below (below_oneD _ _)⟩

set_option maxRecDepth 20000 in
set_option maxHeartbeats 2000000 in
theorem wTree_any (a b : Option Addr) (ca cb : Nat) (ts : List En) (w : World) (ha : ES w a ts) (hb : ES w b ts) (hn : ts.length ≤ 1048576) :
    Calls Try.prog 17 #[.agg #[.slice a ts.length ca], .agg #[.slice b ts.length cb]] w fun e w' => e = .returned (.bool true) ∧ Below w.heap.size w w' := by
  have hal : Below w.heap.size w ((w.alloc (.cells #[.slice a ts.length ca] 32)).alloc (.cells #[.slice b ts.length cb] 32)) := ((Below.refl _ _).alloc (Nat.le_refl _) _).alloc (by simp) _
  have m0 : ((w.alloc (.cells #[.slice a ts.length ca] 32)).alloc (.cells #[.slice b ts.length cb] 32)).cell? ⟨w.heap.size, 0, none⟩ = some (.slice a ts.length ca) := by simp [go_sem]
  have n0 : ((w.alloc (.cells #[.slice a ts.length ca] 32)).alloc (.cells #[.slice b ts.length cb] 32)).cell? ⟨w.heap.size + 1, 0, none⟩ = some (.slice b ts.length cb) := by simp [go_sem]
  go_enter Try.func17, Try.ntmps17
  go_wp2
  generalize (w.alloc (.cells #[.slice a ts.length ca] 32)).alloc (.cells #[.slice b ts.length cb] 32) = W0 at *
  go_loopw [5] (fun i wr => ∃ k : Nat, i = .int .i64 k ∧ k ≤ ts.length ∧ Below W0.heap.size W0 wr) (fun i _ => ts.length - (intOf i).toNat)
  case atStart => exact ⟨0, rfl, Nat.zero_le _, Below.refl _ _⟩
  case round =>
    obtain ⟨k, rfl, hk, hB⟩ := hrel
    have M := cell_later hB m0
    have N := cell_later hB n0
    have hBw := hal.trans (hB.mono hal.size)
    by_cases hlt : k < ts.length
    · have hlt' : (k : Int) < ts.length := by omega
      obtain ⟨b1, o1, rfl, h1⟩ := (ha.below hBw).at hlt
      obtain ⟨b2, o2, rfl, h2⟩ := (hb.below hBw).at hlt
      obtain ⟨x0, x1, x2⟩ := h1 k hlt
      obtain ⟨y0, y1, y2⟩ := h2 k hlt
      clear h1 h2
      go_wp2
      go_quiet (fail)
      go_wp2
      go_roundw
      case rel => exact ⟨k + 1, by congr 1, hlt, below_drewN hB _⟩
      case measure => simp only [intOf]; omega
    · obtain rfl : k = ts.length := by omega
      go_wp2
      go_ret
      exact ⟨rfl, hBw⟩
end Go.Proofs.Ytockgapdfcapnaa

namespace Go.Proofs.Ytockgapdfcapnaa
open Go.RowKit

set_option maxRecDepth 20000 in
set_option maxHeartbeats 2000000 in
theorem wPatch_any (a b : Option Addr) (ca cb : Nat) (ts : List Ch) (w : World) (ha : CS w a ts) (hb : CS w b ts) (hn : ts.length ≤ 1048576) :
    Calls Try.prog 12 #[.agg #[.slice a ts.length ca], .agg #[.slice b ts.length cb]] w fun e w' => e = .returned (.bool true) ∧ Below w.heap.size w w' := by
  have hal : Below w.heap.size w ((w.alloc (.cells #[.slice a ts.length ca] 37)).alloc (.cells #[.slice b ts.length cb] 37)) := ((Below.refl _ _).alloc (Nat.le_refl _) _).alloc (by simp) _
  have m0 : ((w.alloc (.cells #[.slice a ts.length ca] 37)).alloc (.cells #[.slice b ts.length cb] 37)).cell? ⟨w.heap.size, 0, none⟩ = some (.slice a ts.length ca) := by simp [go_sem]
  have n0 : ((w.alloc (.cells #[.slice a ts.length ca] 37)).alloc (.cells #[.slice b ts.length cb] 37)).cell? ⟨w.heap.size + 1, 0, none⟩ = some (.slice b ts.length cb) := by simp [go_sem]
  go_enter Try.func12, Try.ntmps12
  go_wp2
  generalize (w.alloc (.cells #[.slice a ts.length ca] 37)).alloc (.cells #[.slice b ts.length cb] 37) = W0 at *
  go_loopw [5] (fun i wr => ∃ k : Nat, i = .int .i64 k ∧ k ≤ ts.length ∧ Below W0.heap.size W0 wr) (fun i _ => ts.length - (intOf i).toNat)
  case atStart => exact ⟨0, rfl, Nat.zero_le _, Below.refl _ _⟩
  case round =>
    obtain ⟨k, rfl, hk, hB⟩ := hrel
    have M := cell_later hB m0
    have N := cell_later hB n0
    have hBw := hal.trans (hB.mono hal.size)
    by_cases hlt : k < ts.length
    · have hlt' : (k : Int) < ts.length := by omega
      obtain ⟨b1, o1, rfl, h1⟩ := (ha.below hBw).at hlt
      obtain ⟨b2, o2, rfl, h2⟩ := (hb.below hBw).at hlt
      obtain ⟨x0, x1, x2, x3, x4, x5, x6⟩ := h1 k hlt
      obtain ⟨y0, y1, y2, y3, y4, y5, y6⟩ := h2 k hlt
      clear h1 h2
      go_wp2
      go_quiet (fail)
      go_wp2
      go_roundw
      case rel => exact ⟨k + 1, by congr 1, hlt, below_drewN hB _⟩
      case measure => simp only [intOf]; omega
    · obtain rfl : k = ts.length := by omega
      go_wp2
      go_ret
      exact ⟨rfl, hBw⟩
end Go.Proofs.Ytockgapdfcapnaa

namespace Go.Proofs.Ytockgapdfcapnaa
open Go.RowKit

theorem less_front : ∀ (f a b : List UInt8), Op.bytesLess (f ++ a) (f ++ b) = Op.bytesLess a b
  | [], _, _ => rfl
  | x :: f, a, b => by
    have h1 : ¬ x < x := by rw [UInt8.lt_iff_toNat_lt]; omega
    simp [Op.bytesLess, h1, less_front f a b]

/-- One that is less and no beginning of the other stays less, whatever follows. -/
theorem less_app : ∀ {a b : List UInt8} (r s : List UInt8), Op.bytesLess a b = true → ¬ a <+: b → Op.bytesLess (a ++ r) (b ++ s) = true
  | [], b, _, _, _, h => absurd (List.nil_prefix) h
  | _ :: _, [], _, _, h, _ => by simp [Op.bytesLess] at h
  | x :: a, y :: b, r, s, h, hn => by
    simp only [Op.bytesLess, Bool.or_eq_true, decide_eq_true_eq, Bool.and_eq_true, beq_iff_eq] at h
    simp only [List.cons_append, Op.bytesLess, Bool.or_eq_true, decide_eq_true_eq, Bool.and_eq_true, beq_iff_eq]
    rcases h with h | ⟨rfl, h⟩
    · exact .inl h
    · exact .inr ⟨rfl, less_app r s h (fun hp => hn ((List.cons_prefix_cons).2 ⟨rfl, hp⟩))⟩

/-- A beginning that is not all is less, whatever follows the other. -/
theorem less_pre {a b : List UInt8} (s : List UInt8) (h : a <+: b) (hne : a ≠ b) : Op.bytesLess a (b ++ s) = true := by
  obtain ⟨t, rfl⟩ := h
  cases t with
  | nil => simp at hne
  | cons c t => rw [List.append_assoc]; exact less_more a c (t ++ s)

/-- What the paths below a kid begin with. -/
def beginL (file : Bool) (name : List UInt8) : List UInt8 := if file then name else name ++ [47]

theorem begin_prefix {f g : Bool} {a b : List UInt8} (ha : 47 ∉ a) (hb : 47 ∉ b) (h : beginL f a <+: beginL g b) (hne : a ≠ b) : f = true ∧ beginL f a ≠ beginL g b := by
  have hf : f = true := by
    cases f with
    | true => rfl
    | false =>
      exfalso
      simp only [beginL, Bool.false_eq_true, if_false] at h
      obtain ⟨t, ht⟩ := h
      cases g with
      | true =>
        simp only [if_true] at ht
        exact hb (by rw [← ht]; simp)
      | false =>
        simp only [Bool.false_eq_true, if_false] at ht
        rcases List.eq_nil_or_concat t with rfl | ⟨t', c, rfl⟩
        · simp at ht; exact hne ht
        · rw [List.concat_eq_append, ← List.append_assoc] at ht
          have h1 := (List.append_inj' ht rfl).1
          exact hb (by rw [← h1]; simp)
  subst hf
  refine ⟨rfl, fun e => ?_⟩
  cases g with
  | true => exact hne e
  | false =>
    simp only [beginL, if_true, Bool.false_eq_true, if_false] at e
    exact ha (by rw [e]; simp)

/-- All paths below a kid are less than all those below one that begins greater. -/
theorem kids_less {f g : Bool} {a b : List UInt8} (front r s : List UInt8) (ha : 47 ∉ a) (hb : 47 ∉ b) (hne : a ≠ b) (h : Op.bytesLess (beginL f a) (beginL g b) = true) (hr : f = true → r = []) :
    Op.bytesLess (front ++ (beginL f a ++ r)) (front ++ (beginL g b ++ s)) = true := by
  rw [less_front]
  by_cases hp : beginL f a <+: beginL g b
  · obtain ⟨h1, h2⟩ := begin_prefix ha hb hp hne
    rw [hr h1, List.append_nil]
    exact less_pre s hp h2
  · exact less_app r s h hp
end Go.Proofs.Ytockgapdfcapnaa

namespace Go.Proofs.Ytockgapdfcapnaa
open Go.RowKit

/-- A tree as it is when it is told. -/
structure GoodT (K : Nat) (β : Way → Option Nat) (φ : Way → Option (ByteArray × Bool)) : Prop where
  name : ∀ q x, β (q ++ [x]) ≠ none → x.size ≤ 20 ∧ (47 : UInt8) ∉ x.data.toList
  deep : ∀ q, β q ≠ none → q.length ≤ 6
  up : ∀ q x, β (q ++ [x]) ≠ none → β q ≠ none
  leaf : ∀ q x, φ q ≠ none → β (q ++ [x]) = none
  node : ∀ q, φ q ≠ none → β q ≠ none
  text : ∀ q t r, φ q = some (t, r) → t.size ≤ 1500
  few : ∃ F : List Way, F.length ≤ K ∧ ∀ q, φ q ≠ none → q ∈ F

theorem GoodT.pre {K : Nat} {β : Way → Option Nat} {φ : Way → Option (ByteArray × Bool)} (h : GoodT K β φ) : ∀ (t q : Way), β (q ++ t) ≠ none → β q ≠ none
  | [], q, hq => by simpa using hq
  | x :: t, q, hq => by
    have h1 : β ((q ++ [x]) ++ t) ≠ none := by rw [List.append_assoc]; exact hq
    exact h.up q x (h.pre t (q ++ [x]) h1)

def Tells (φ : Way → Option (ByteArray × Bool)) (p0 : Way) (e : En) : Prop := φ (p0 ++ partsB e.path) = some (e.text, e.runs)
/-- What stands in front of a path's parts. -/
def Front (f : ByteArray) (r : Way) : Prop := ∀ s : ByteArray, partsB (f ++ s) = r ++ partsB s

theorem parts_plain {x : ByteArray} (h : (47 : UInt8) ∉ x.data.toList) : partsB x = [x] := by
  rw [partsB, splitS_none _ (fun k hk => h (List.mem_of_getElem? hk))]
  simp [mkB_data]
theorem parts_app (x s : ByteArray) : partsB (x ++ ⟨#[47]⟩ ++ s) = partsB x ++ partsB s := by
  rw [partsB, show (x ++ ⟨#[47]⟩ ++ s).data.toList = x.data.toList ++ 47 :: s.data.toList by simp [ByteArray.data_append], split_app, List.map_append]
  rfl
theorem app_assoc (a b c : ByteArray) : a ++ b ++ c = a ++ (b ++ c) := by
  apply WideShapes.bytes_inj
  simp [ByteArray.data_append]
theorem front_nil : Front ⟨#[]⟩ [] := fun s => by
  have : (⟨#[]⟩ : ByteArray) ++ s = s := by apply WideShapes.bytes_inj; simp [ByteArray.data_append]
  rw [this]; rfl
theorem front_file {f x : ByteArray} {r : Way} (h : Front f r) (hx : (47 : UInt8) ∉ x.data.toList) : partsB (f ++ x) = r ++ [x] := by
  rw [h x, parts_plain hx]
theorem front_step {f x : ByteArray} {r : Way} (h : Front f r) (hx : (47 : UInt8) ∉ x.data.toList) : Front (f ++ x ++ ⟨#[47]⟩) (r ++ [x]) := fun s => by
  rw [show f ++ x ++ ⟨#[47]⟩ ++ s = f ++ (x ++ ⟨#[47]⟩ ++ s) by rw [app_assoc, app_assoc, app_assoc], h, parts_app, parts_plain hx]
  simp

theorem parts_ne (s : ByteArray) : partsB s ≠ [] := by
  unfold partsB
  intro h
  exact splitS_ne _ (by simpa using h)

/-- A path's bytes, by its parts. -/
theorem path_bytes {s : ByteArray} {r : Way} {x : ByteArray} {t : Way} (h : partsB s = r ++ x :: t) :
    s.data.toList = (if r = [] then [] else joinS (r.map fun y => y.data.toList) ++ [47]) ++ (if t = [] then x.data.toList else x.data.toList ++ 47 :: joinS (t.map fun y => y.data.toList)) := by
  have h1 : splitS s.data.toList = (r ++ x :: t).map fun y => y.data.toList := by
    rw [← h, partsB, List.map_map]
    rw [show ((fun y : ByteArray => y.data.toList) ∘ mkB) = id by funext l; simp [mkB_list]]
    simp
  have h2 := join_split s.data.toList
  rw [h1] at h2
  rw [← h2, List.map_append, List.map_cons]
  have hj : joinS (x.data.toList :: t.map fun y => y.data.toList) = if t = [] then x.data.toList else x.data.toList ++ 47 :: joinS (t.map fun y => y.data.toList) := by
    by_cases ht : t = []
    · subst ht; rfl
    · rw [if_neg ht, joinS_cons _ (by simpa using ht)]
  by_cases hr : r = []
  · subst hr
    rw [if_pos rfl]
    simpa using hj
  · rw [if_neg hr, joinS_append _ (by simpa using hr) (by simp), hj]
    simp

theorem told_begin {K : Nat} {β : Way → Option Nat} {φ : Way → Option (ByteArray × Bool)} (h : GoodT K β φ) {p0 r t : Way} {x : ByteArray} {e : En} (he : Tells φ p0 e) (hp : partsB e.path = r ++ x :: t) :
    ∃ rest, e.path.data.toList = (if r = [] then [] else joinS (r.map fun y => y.data.toList) ++ [47]) ++ (beginL (φ (p0 ++ r ++ [x])).isSome x.data.toList ++ rest) ∧ ((φ (p0 ++ r ++ [x])).isSome = true → rest = []) := by
  have hb := path_bytes hp
  have hw : φ (p0 ++ r ++ [x] ++ t) ≠ none := by
    unfold Tells at he
    rw [hp] at he
    rw [show p0 ++ r ++ [x] ++ t = p0 ++ (r ++ x :: t) by simp, he]
    simp
  cases ht : t with
  | nil =>
    rw [ht] at hb hw
    rw [List.append_nil] at hw
    have hs : (φ (p0 ++ r ++ [x])).isSome = true := by
      cases hc : φ (p0 ++ r ++ [x]) with
      | none => exact absurd hc hw
      | some _ => rfl
    refine ⟨[], ?_, fun _ => rfl⟩
    rw [hs, hb]
    simp [beginL]
  | cons y t' =>
    rw [ht] at hb hw
    have hn : φ (p0 ++ r ++ [x]) = none := by
      cases hc : φ (p0 ++ r ++ [x]) with
      | none => rfl
      | some f =>
        have h1 := h.leaf (p0 ++ r ++ [x]) y (by rw [hc]; simp)
        have h2 := h.node _ hw
        have h3 := h.pre t' (p0 ++ r ++ [x] ++ [y]) (by rw [List.append_assoc]; exact h2)
        exact absurd h1 h3
    refine ⟨joinS ((y :: t').map fun y => y.data.toList), ?_, fun hs => by rw [hn] at hs; cases hs⟩
    rw [hn, hb]
    simp [beginL]

theorem told_less {K : Nat} {β : Way → Option Nat} {φ : Way → Option (ByteArray × Bool)} (h : GoodT K β φ) {p0 r : Way} {x y : ByteArray} {e e' : En} (he : Tells φ p0 e) (he' : Tells φ p0 e') (hp : r ++ [x] <+: partsB e.path) (hp' : r ++ [y] <+: partsB e'.path)
    (hx : (47 : UInt8) ∉ x.data.toList) (hy : (47 : UInt8) ∉ y.data.toList) (hne : x ≠ y) (hl : Op.bytesLess (beginL (φ (p0 ++ r ++ [x])).isSome x.data.toList) (beginL (φ (p0 ++ r ++ [y])).isSome y.data.toList) = true) : Op.bytesLess e.path.toList e'.path.toList = true := by
  obtain ⟨t, ht⟩ := hp
  obtain ⟨t', ht'⟩ := hp'
  obtain ⟨rest, h1, h2⟩ := told_begin h he (t := t) (x := x) (r := r) (by rw [← ht]; simp)
  obtain ⟨rest', h1', _⟩ := told_begin h he' (t := t') (x := y) (r := r) (by rw [← ht']; simp)
  rw [Lib.toList_data, Lib.toList_data, h1, h1']
  exact kids_less _ _ _ hx hy (fun e => hne (WideShapes.bytes_inj e)) hl h2

/-- The names of a node's kids, in order. -/
structure NamesOf (β : Way → Option Nat) (φ : Way → Option (ByteArray × Bool)) (q : Way) (ns : List ByteArray) : Prop where
  mem : ∀ x, x ∈ ns ↔ β (q ++ [x]) ≠ none
  ord : ns.Pairwise fun x y => x ≠ y ∧ Op.bytesLess (beginL (φ (q ++ [x])).isSome x.data.toList) (beginL (φ (q ++ [y])).isSome y.data.toList) = true

/-- What was told before. -/
structure AccOk (φ : Way → Option (ByteArray × Bool)) (p0 r : Way) (acc : List En) : Prop where
  asc : Asc acc
  tells : ∀ e ∈ acc, Tells φ p0 e
  less : ∀ e ∈ acc, ∀ e', Tells φ p0 e' → r <+: partsB e'.path → r ≠ partsB e'.path → Op.bytesLess e.path.toList e'.path.toList = true

structure Told (φ : Way → Option (ByteArray × Bool)) (p0 r : Way) (acc us : List En) : Prop where
  asc : Asc us
  mem : ∀ e, e ∈ us ↔ e ∈ acc ∨ (Tells φ p0 e ∧ r <+: partsB e.path ∧ r ≠ partsB e.path)

structure Mid (φ : Way → Option (ByteArray × Bool)) (p0 r : Way) (acc : List En) (xs : List ByteArray) (us : List En) : Prop where
  asc : Asc us
  mem : ∀ e, e ∈ us ↔ e ∈ acc ∨ (Tells φ p0 e ∧ ∃ x ∈ xs, r ++ [x] <+: partsB e.path)

theorem Mid.start {φ : Way → Option (ByteArray × Bool)} {p0 r : Way} {acc : List En} (h : AccOk φ p0 r acc) : Mid φ p0 r acc [] acc := ⟨h.asc, fun e => by simp⟩
theorem Mid.tells {φ : Way → Option (ByteArray × Bool)} {p0 r : Way} {acc us : List En} {xs : List ByteArray} (h : AccOk φ p0 r acc) (m : Mid φ p0 r acc xs us) : ∀ e ∈ us, Tells φ p0 e := fun e he => by
  rcases (m.mem e).1 he with h1 | h1
  · exact h.tells e h1
  · exact h1.1

theorem ord_before {β : Way → Option Nat} {φ : Way → Option (ByteArray × Bool)} {q : Way} {ns : List ByteArray} (h : NamesOf β φ q ns) {k : Nat} (hk : k < ns.length) : ∀ x ∈ ns.take k, x ≠ ns[k] ∧ Op.bytesLess (beginL (φ (q ++ [x])).isSome x.data.toList) (beginL (φ (q ++ [ns[k]])).isSome ns[k].data.toList) = true := by
  intro x hx
  obtain ⟨j, hj, rfl⟩ := List.getElem_of_mem hx
  simp at hj
  rw [List.getElem_take]
  exact List.pairwise_iff_getElem.1 h.ord j k (by omega) hk (by omega)

theorem Mid.less {K : Nat} {β : Way → Option Nat} {φ : Way → Option (ByteArray × Bool)} (hG : GoodT K β φ) {p0 r : Way} {acc us : List En} {ns : List ByteArray} (hA : AccOk φ p0 r acc) (hN : NamesOf β φ (p0 ++ r) ns) {k : Nat} (hk : k < ns.length) (m : Mid φ p0 r acc (ns.take k) us) :
    ∀ e ∈ us, ∀ e', Tells φ p0 e' → r ++ [ns[k]] <+: partsB e'.path → Op.bytesLess e.path.toList e'.path.toList = true := by
  intro e he e' he' hp
  rcases (m.mem e).1 he with h1 | ⟨h1, x, hx, h2⟩
  · refine hA.less e h1 e' he' ((List.prefix_append r _).trans hp) (fun h3 => ?_)
    rw [← h3] at hp
    have := hp.length_le
    simp at this; omega
  · obtain ⟨h3, h4⟩ := ord_before hN hk x hx
    exact told_less hG h1 he' h2 hp (hG.name _ _ ((hN.mem x).1 (List.mem_of_mem_take hx))).2 (hG.name _ _ ((hN.mem _).1 (List.getElem_mem hk))).2 h3 h4

theorem take_succ_mem {α : Type} {ns : List α} {k : Nat} (hk : k < ns.length) (x : α) : x ∈ ns.take (k + 1) ↔ x ∈ ns.take k ∨ x = ns[k] := by
  rw [List.take_succ_eq_append_getElem hk, List.mem_append, List.mem_singleton]

theorem Mid.file {K : Nat} {β : Way → Option Nat} {φ : Way → Option (ByteArray × Bool)} (hG : GoodT K β φ) {p0 r : Way} {acc us : List En} {ns : List ByteArray} (hA : AccOk φ p0 r acc) (hN : NamesOf β φ (p0 ++ r) ns) {k : Nat} (hk : k < ns.length) (m : Mid φ p0 r acc (ns.take k) us)
    {f t : ByteArray} {rn : Bool} (hf : Front f r) (hφ : φ (p0 ++ r ++ [ns[k]]) = some (t, rn)) : Mid φ p0 r acc (ns.take (k + 1)) (us ++ [⟨f ++ ns[k], t, rn⟩]) := by
  have hx := (hG.name _ _ ((hN.mem _).1 (List.getElem_mem hk))).2
  have hpp := front_file hf hx
  have ht : Tells φ p0 ⟨f ++ ns[k], t, rn⟩ := by
    show φ (p0 ++ partsB (f ++ ns[k])) = _
    rw [hpp, ← List.append_assoc]
    exact hφ
  refine ⟨?_, fun e => ?_⟩
  · refine List.pairwise_append.2 ⟨m.asc, by simp, fun a ha b hb => ?_⟩
    rw [List.mem_singleton.1 hb]
    exact m.less hG hA hN hk a ha _ ht (by rw [hpp]; exact List.prefix_refl _)
  · rw [List.mem_append, List.mem_singleton, m.mem]
    constructor
    · rintro ((h | ⟨h, x, hx, h2⟩) | rfl)
      · exact .inl h
      · exact .inr ⟨h, x, (take_succ_mem hk x).2 (.inl hx), h2⟩
      · exact .inr ⟨ht, ns[k], (take_succ_mem hk _).2 (.inr rfl), by rw [hpp]; exact List.prefix_refl _⟩
    · rintro (h | ⟨h, x, hx, h2⟩)
      · exact .inl (.inl h)
      · rcases (take_succ_mem hk x).1 hx with h3 | rfl
        · exact .inl (.inr ⟨h, x, h3, h2⟩)
        · right
          obtain ⟨s, hs⟩ := h2
          have hs0 : s = [] := by
            cases s with
            | nil => rfl
            | cons y s' =>
              exfalso
              have h4 := hG.leaf (p0 ++ r ++ [ns[k]]) y (by rw [hφ]; simp)
              have h5 : φ (p0 ++ r ++ [ns[k]] ++ [y] ++ s') ≠ none := by
                unfold Tells at h
                rw [← hs] at h
                rw [show p0 ++ r ++ [ns[k]] ++ [y] ++ s' = p0 ++ (r ++ [ns[k]] ++ y :: s') by simp, h]
                simp
              exact absurd h4 (hG.pre s' _ (hG.node _ h5))
          subst hs0
          rw [List.append_nil] at hs
          have h6 : e.path = f ++ ns[k] := partsB_inj (hs.symm.trans hpp.symm)
          unfold Tells at h
          rw [← hs, ← List.append_assoc, hφ] at h
          injection h with h
          injection h with h7 h8
          cases e
          simp_all

theorem Mid.acc {K : Nat} {β : Way → Option Nat} {φ : Way → Option (ByteArray × Bool)} (hG : GoodT K β φ) {p0 r : Way} {acc us : List En} {ns : List ByteArray} (hA : AccOk φ p0 r acc) (hN : NamesOf β φ (p0 ++ r) ns) {k : Nat} (hk : k < ns.length) (m : Mid φ p0 r acc (ns.take k) us) : AccOk φ p0 (r ++ [ns[k]]) us :=
  ⟨m.asc, m.tells hA, fun e he e' he' hp _ => m.less hG hA hN hk e he e' he' hp⟩

theorem Mid.dir {φ : Way → Option (ByteArray × Bool)} {p0 r : Way} {acc us us' : List En} {ns : List ByteArray} {k : Nat} (hk : k < ns.length) (m : Mid φ p0 r acc (ns.take k) us) (hφ : φ (p0 ++ r ++ [ns[k]]) = none) (h : Told φ p0 (r ++ [ns[k]]) us us') : Mid φ p0 r acc (ns.take (k + 1)) us' := by
  refine ⟨h.asc, fun e => ?_⟩
  rw [h.mem, m.mem]
  constructor
  · rintro ((h1 | ⟨h1, x, hx, h2⟩) | ⟨h1, h2, _⟩)
    · exact .inl h1
    · exact .inr ⟨h1, x, (take_succ_mem hk x).2 (.inl hx), h2⟩
    · exact .inr ⟨h1, ns[k], (take_succ_mem hk _).2 (.inr rfl), h2⟩
  · rintro (h1 | ⟨h1, x, hx, h2⟩)
    · exact .inl (.inl h1)
    · rcases (take_succ_mem hk x).1 hx with h3 | rfl
      · exact .inl (.inr ⟨h1, x, h3, h2⟩)
      · refine .inr ⟨h1, h2, fun h3 => ?_⟩
        unfold Tells at h1
        rw [← h3, ← List.append_assoc, hφ] at h1
        cases h1

theorem Mid.done {K : Nat} {β : Way → Option Nat} {φ : Way → Option (ByteArray × Bool)} (hG : GoodT K β φ) {p0 r : Way} {acc us : List En} {ns : List ByteArray} (hN : NamesOf β φ (p0 ++ r) ns) (m : Mid φ p0 r acc ns us) : Told φ p0 r acc us := by
  refine ⟨m.asc, fun e => ?_⟩
  rw [m.mem]
  constructor
  · rintro (h1 | ⟨h1, x, _, h2⟩)
    · exact .inl h1
    · refine .inr ⟨h1, (List.prefix_append r _).trans h2, fun h3 => ?_⟩
      rw [← h3] at h2
      have := h2.length_le
      simp at this; omega
  · rintro (h1 | ⟨h1, ⟨t, ht⟩, h3⟩)
    · exact .inl h1
    · cases t with
      | nil => exact absurd (by rw [← ht]; simp) h3
      | cons x t =>
        refine .inr ⟨h1, x, (hN.mem x).2 ?_, ⟨t, by rw [← ht]; simp⟩⟩
        have h4 : φ (p0 ++ r ++ [x] ++ t) ≠ none := by
          unfold Tells at h1
          rw [← ht] at h1
          rw [show p0 ++ r ++ [x] ++ t = p0 ++ (r ++ x :: t) by simp, h1]
          simp
        exact hG.pre t _ (hG.node _ h4)

/-! How many. -/
theorem nodup_le : ∀ {l F : List Way}, l.Nodup → (∀ q ∈ l, q ∈ F) → l.length ≤ F.length
  | [], _, _, _ => Nat.zero_le _
  | x :: l, F, hn, hs => by
    obtain ⟨a, b, rfl⟩ := List.append_of_mem (hs x (by simp))
    have h1 := nodup_le (l := l) (F := a ++ b) (List.nodup_cons.1 hn).2 (fun q hq => by
      have h2 := hs q (by simp [hq])
      rcases List.mem_append.1 h2 with h3 | h3
      · exact List.mem_append.2 (.inl h3)
      · rcases List.mem_cons.1 h3 with h4 | h4
        · subst h4; exact absurd hq (List.nodup_cons.1 hn).1
        · exact List.mem_append.2 (.inr h4))
    simp only [List.length_cons, List.length_append] at h1 ⊢
    omega

theorem tells_few {K : Nat} {β : Way → Option Nat} {φ : Way → Option (ByteArray × Bool)} (hG : GoodT K β φ) {p0 : Way} {us : List En} (hA : Asc us) (hT : ∀ e ∈ us, Tells φ p0 e) : us.length ≤ K := by
  obtain ⟨F, hF, hm⟩ := hG.few
  have h1 := nodup_le (l := us.map fun e => p0 ++ partsB e.path) (F := F) (by
    unfold List.Nodup
    rw [List.pairwise_map]
    refine List.Pairwise.imp (fun {a b} h e => ?_) hA
    have := partsB_inj (List.append_cancel_left e)
    rw [this, less_irrefl] at h
    cases h) (fun q hq => by
      obtain ⟨e, he, rfl⟩ := List.mem_map.1 hq
      exact hm _ (by rw [hT e he]; simp))
  simp at h1
  omega
end Go.Proofs.Ytockgapdfcapnaa
