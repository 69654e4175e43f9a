/-
  Grow, Find, Clone, EntOf, SortF, BeginN, CmpB, NamesL, SortN, SortZ, NamesW, TellK, TreeA, TreeT: laid as one text.
-/
import Derived.Test.YtiadabmbfpfbjaaTreeP
import Derived.Deep.QuietTactic
import Derived.BigQuiet
import Derived.Deep.DeepCutAuto
import Derived.Test.YtiadabmbfpfbjaaReach
import Derived.Test.YtiadabmbfpfbjaaRows
import Derived.Shelf.Pu.Clone
import Derived.WalkKit
import Derived.Test.YtiadabmbfpfbjaaEntB
import Derived.Test.YtiadabmbfpfbjaaSplitP
import Derived.Test.YtiadabmbfpfbjaaLaterQ
import Derived.Deep.RegionWith
import Derived.Shelf.SlSortCmp.Whole1
import Derived.Test.YtiadabmbfpfbjaaOrderP
import Derived.WalkSpells
import Derived.Lib.Bytealg
import Derived.Laws.Externs
import Derived.Laws.Strings3
import Derived.Test.YtiadabmbfpfbjaaTellP
import Derived.Shelf.SlSortCmp.NoneTotal
import Derived.Sort.KeysCollected
import Derived.Sort.OwnSorted
import Derived.Maps.RangeWalk
import Derived.Test.YtiadabmbfpfbjaaTellE
import Derived.Test.YtiadabmbfpfbjaaEntL
import Derived.Deep.AppendLies
namespace Go.Proofs.Ytiadabmbfpfbjaa
open Go.RowKit

set_option maxHeartbeats 1000000 in
theorem isEntry_any (e : En) (hs : e.path.size ≤ 1099511627776) (w : World) :
    Calls Try.prog 37 #[.agg #[.string e.path, .string e.text, .bool e.runs]] w fun x w' => x = .returned (.bool (enOk e)) ∧ Below w.heap.size w w' := by
  have hal : Below w.heap.size w (w.alloc (.cells #[.string e.path, .string e.text, .bool e.runs] 37)) := (Below.refl _ _).alloc (Nat.le_refl _) _
  cases hp : pathOk pathB e.path with
  | false =>
    go_enter Try.func37, Try.ntmps37
    go_wp2_with fail
    refine (implPath_any e.path hs _).mono ?_
    rintro x w1 ⟨rfl, hb⟩
    rw [hp]
    go_wp2
    go_ret
    exact ⟨retB (by simp [enOk, hp]), hal.trans (hb.mono hal.size)⟩
  | true =>
    go_enter Try.func37, Try.ntmps37
    go_wp2_with fail
    refine (implPath_any e.path hs _).mono ?_
    rintro x w1 ⟨rfl, hb⟩
    rw [hp]
    have x1 := hb.cell (p := ⟨w.heap.size, 1, none⟩) (by simp)
    simp at x1
    go_wp2
    go_ret
    refine ⟨retB ?_, hal.trans (hb.mono hal.size)⟩
    have : ((e.text.size : Int) ≤ 1500) ↔ e.text.size ≤ 1500 := by omega
    simp [enOk, hp, this]

theorem tree_new (w : World) : TreeM w.heap.size 0 ((w.alloc (.map #[] 0)).alloc (.cells #[.bool false, .string ⟨#[]⟩, .bool false, .map (some w.heap.size)] 56)) (fun q => if q = [] then some (w.heap.size + 1) else none) (fun _ => w.heap.size) (fun _ => none) := by
  refine ⟨fun p b hb => ?_, fun p q b hp hq => ?_, fun p q hp hq _ => ?_, fun p x h => ?_, by simp⟩
  · by_cases e : p = []
    · subst e
      simp at hb
      subst hb
      refine ⟨?_, by omega, Nat.le_refl _, ?_⟩
      · have := World.alloc_heap_new (w.alloc (.map #[] 0)) (nodeObj none w.heap.size)
        rw [World.size_alloc] at this
        exact this
      · have hm : (w.alloc (.map #[] 0)).ownsMap Try.prog 9 ptrR w.heap.size 0 (.map []) := World.ownsMap_made _ _ _ _
        obtain ⟨es, cl, m1, m2⟩ := hm
        refine ⟨0, .map [], ⟨es, cl, (Below.heap_alloc _ _ _ (by simp)).trans m1, m2⟩, Nat.le_refl _, fun x _ => ?_, ⟨fun _ x => by simp, fun _ => rfl⟩, fun y hy => by rw [Maps.has_eq] at hy; simp at hy⟩
        simp
        rfl
    · simp [e] at hb
  · by_cases e1 : p = [] <;> by_cases e2 : q = [] <;> simp [e1, e2] at hp hq ⊢
  · by_cases e1 : p = [] <;> by_cases e2 : q = [] <;> simp [e1, e2] at hp hq ⊢
  · simp at h

theorem path_pos {p : Int → Bool} {s : ByteArray} (h : pathOk p s = true) : 0 < s.size := by
  simp only [pathOk, Bool.and_eq_true] at h
  have h2 := h.2
  rw [partsB_cut] at h2
  simp only [List.all_cons, Bool.and_eq_true] at h2
  have h3 := h2.1
  simp only [partOk, Bool.and_eq_true, decide_eq_true_eq] at h3
  have := cutHead_size s
  omega

/-- What grow answers. -/
def GrowPost (ts : List En) (w : World) (e : Ending) (w' : World) : Prop :=
  Below w.heap.size w w' ∧
  ((ValidTs ts ∧ ∃ root, e = .returned (.tuple #[.pointer (some ⟨root, 0, none⟩), .bool true]) ∧ ∃ lo N β μ φ, w.heap.size ≤ lo ∧ N ≤ 1000 ∧ TreeM lo N w' β μ φ ∧ β [] = some root ∧ Shape ts β φ) ∨
   (¬ ValidTs ts ∧ e = .returned (.tuple #[.pointer none, .bool false])))

theorem parts6 {e : En} (h : enOk e = true) : (partsB e.path).length ≤ 6 ∧ e.path.size ≤ 126 := by
  simp only [enOk, Bool.and_eq_true] at h
  refine ⟨?_, pathOk_size h.1⟩
  have := h.1
  simp only [pathOk, Bool.and_eq_true, decide_eq_true_eq] at this
  exact this.1

set_option maxRecDepth 100000 in
set_option maxHeartbeats 4000000 in
theorem grow_any (a : Option Addr) (cap : Nat) (ts : List En) (w : World) (hts : ES w a ts) (hn : ts.length ≤ 1048576) (hz : ∀ e ∈ ts, e.path.size ≤ 1048576) :
    Calls Try.prog 18 #[.agg #[.slice a ts.length cap]] w fun e w' => GrowPost ts w e w' := by
  by_cases h100 : (100 : Int) < ts.length
  · go_enter Try.func18, Try.ntmps18
    go_wp2
    go_ret2
    exact ⟨(Below.refl _ _).alloc (Nat.le_refl _) _, .inr ⟨fun h => by have := h.1; omega, rfl⟩⟩
  have hbT : Below w.heap.size w (w.alloc (.cells #[.slice a ts.length cap] 25)) := (Below.refl _ _).alloc (Nat.le_refl _) _
  have htT := hts.below hbT
  have hcT : (w.alloc (.cells #[.slice a ts.length cap] 25)).cell? ⟨w.heap.size, 0, none⟩ = some (.slice a ts.length cap) := by simp
  have hsT : (w.alloc (.cells #[.slice a ts.length cap] 25)).heap.size = w.heap.size + 1 := by simp
  go_enter Try.func18, Try.ntmps18
  go_wp2_with fail
  have hnew := tree_new (w.alloc (.cells #[.slice a ts.length cap] 25))
  have hbN : Below (w.heap.size + 1) (w.alloc (.cells #[.slice a ts.length cap] 25)) (((w.alloc (.cells #[.slice a ts.length cap] 25)).alloc (.map #[] 0)).alloc (.cells #[.bool false, .string ⟨#[]⟩, .bool false, .map (some (w.heap.size + 1))] 56)) := ((Below.refl _ _).alloc (by simp) _).alloc (by simp) _
  rw [hsT] at hnew
  refine (newNode_any _).mono ?_
  rintro e w1 ⟨rfl, rfl⟩
  go_wp2
  have hwf : w.heap.size < w.heap.size + 1 := by omega
  obtain ⟨L, hL⟩ : ∃ L, L = w.heap.size + 1 := ⟨_, rfl⟩
  rw [← hL] at hnew hbN hsT hwf ⊢
  have HL : Keep (L = w.heap.size + 1) := ⟨hL⟩
  clear hL
  generalize hwN : ((w.alloc (.cells #[.slice a ts.length cap] 25)).alloc (.map #[] 0)).alloc (.cells #[.bool false, .string ⟨#[]⟩, .bool false, .map (some L)] 56) = Wn at *
  generalize hwT : w.alloc (.cells #[.slice a ts.length cap] 25) = wT at *
  have HS : Keep (wT.heap.size = L) := ⟨hsT⟩
  have hLe : wT.heap.size ≤ L := by omega
  have hLg : L ≤ wT.heap.size := by omega
  clear hsT hwN hwT
  have hsh : Shape (ts.take 0) (fun q => if q = [] then some (L + 1) else none) (fun _ => none) := Shape.start (fun q => by by_cases e : q = [] <;> simp [e]) (fun _ => rfl)
  go_loopw [15] (fun i wr => ∃ (k N : Nat) (β : Way → Option Nat) (μ : Way → Nat) (φ : Way → Option (ByteArray × Bool)), i = .int .i64 k ∧ k ≤ ts.length ∧ TreeM L N wr β μ φ ∧ N ≤ 6 * k ∧ β [] = some (L + 1) ∧ Shape (ts.take k) β φ ∧ Keep (∀ i, i < k → OkAt ts i) ∧ Below L wT wr) (fun i _ => ts.length - (intOf i).toNat)
  case atStart => exact ⟨0, 0, _, _, _, rfl, Nat.zero_le _, hnew, Nat.le_refl _, by simp, hsh, ⟨fun i hi => by omega⟩, hbN⟩
  case round =>
    clear hnew hbN hsh
    obtain ⟨k, N, β, μ, φ, rfl, hk, hT, hN, hroot, hS, hok, hB⟩ := hrel
    have hBT : Below wT.heap.size wT wr := HS.out ▸ hB
    have hE := htT.below hBT
    have hcT' := (hB.cell (p := ⟨w.heap.size, 0, none⟩) hwf).trans hcT
    have hBw := hbT.trans (hBT.mono hbT.size)
    by_cases hlt : k < ts.length
    · have hlt' : (k : Int) < ts.length := by omega
      obtain ⟨b, off, rfl, hc⟩ := hE.at hlt
      obtain ⟨x0, x1, x2⟩ := hc k hlt
      have hals : Below wr.heap.size wr (wr.alloc (.cells #[.string ts[k].path, .string ts[k].text, .bool ts[k].runs] 37)) := (Below.refl _ _).alloc (Nat.le_refl _) _
      have hcT2 := cell_later hals hcT'
      have hT2 := hT.below hals
      have hBw2 := hBw.trans (hals.mono hBw.size)
      have hBL2 := hB.alloc (Nat.le_trans hLg hBT.size) (.cells #[.string ts[k].path, .string ts[k].text, .bool ts[k].runs] 37)
      have hzk := hz ts[k] (List.getElem_mem hlt)
      have hprev : ∀ j (hj : j < ts.length), j + 1 = k → (wr.alloc (.cells #[.string ts[k].path, .string ts[k].text, .bool ts[k].runs] 37)).cell? ⟨b, off + j * 3, none⟩ = some (.string ts[j].path) := fun j hj _ => cell_later hals (hc j hj).1
      have hbad : ¬ OkAt ts k → ¬ ValidTs ts := fun h1 h2 => h1 (h2.2 k hlt)
      clear hc hE htT hts
      have hbnd : N ≤ 600 := by omega
      go_upto_region 7 with fail
      go_cut [33] (fun v wx => ∃ bl : Bool, v = .bool bl ∧ (bl = false ↔ ∀ j, j + 1 = k → ∀ hj : j < ts.length, Op.bytesLess ts[j].path.toList ts[k].path.toList = true) ∧ ∃ n, wx = (wr.alloc (.cells #[.string ts[k].path, .string ts[k].text, .bool ts[k].runs] 37)).drewN n)
      case first =>
        by_cases hk0 : k = 0
        · have hkd : decide (0 < k) = false := by simp [hk0]
          go_quiet (fail)
          go_wp2_with fail
          go_meet
          case rel => exact ⟨false, rfl, ⟨fun _ j hj => by omega, fun _ => rfl⟩, _, rfl⟩
        · obtain ⟨j, rfl⟩ : ∃ j, k = j + 1 := ⟨k - 1, by omega⟩
          have hp := hprev j (by omega) rfl
          have hk0' : (0 : Int) < ((j + 1 : Nat) : Int) := by omega
          have hkd : decide (0 < j + 1) = true := by simp
          have htot := less_total ts[j].path.toList ts[j + 1].path.toList
          have HT : Keep ((!(Op.bytesLess ts[j].path.toList ts[j + 1].path.toList)) = (Op.bytesLess ts[j + 1].path.toList ts[j].path.toList || ts[j + 1].path.toList == ts[j].path.toList)) := ⟨htot⟩
          clear htot
          go_quiet (fail)
          go_wp2_with fail
          go_meet
          case rel =>
            refine ⟨_, rfl, ?_, _, rfl⟩
            rw [← HT.out]
            constructor
            · intro h j' hj' hl
              obtain rfl : j' = j := by omega
              simpa using h
            · intro h
              have := h j rfl (by omega)
              rw [this]; rfl
      case rest =>
        obtain ⟨bl, rfl, hbl, nq, rfl⟩ := hcut
        have HB : Keep (bl = false ↔ ∀ j, j + 1 = k → ∀ hj : j < ts.length, Op.bytesLess ts[j].path.toList ts[k].path.toList = true) := ⟨hbl⟩
        clear hbl hprev
        have y0 : ((wr.alloc (.cells #[.string ts[k].path, .string ts[k].text, .bool ts[k].runs] 37)).drewN nq).cell? ⟨wr.heap.size, 0, none⟩ = some (.string ts[k].path) := by simp
        have y1 : ((wr.alloc (.cells #[.string ts[k].path, .string ts[k].text, .bool ts[k].runs] 37)).drewN nq).cell? ⟨wr.heap.size, 1, none⟩ = some (.string ts[k].text) := by simp
        have y2 : ((wr.alloc (.cells #[.string ts[k].path, .string ts[k].text, .bool ts[k].runs] 37)).drewN nq).cell? ⟨wr.heap.size, 2, none⟩ = some (.bool ts[k].runs) := by simp
        have hT5 : TreeM L N ((wr.alloc (.cells #[.string ts[k].path, .string ts[k].text, .bool ts[k].runs] 37)).drewN nq) β μ φ := hT2.turn (fun _ _ => rfl)
        have hB5 : Below L wT ((wr.alloc (.cells #[.string ts[k].path, .string ts[k].text, .bool ts[k].runs] 37)).drewN nq) := hBL2.trans ⟨rfl, rfl, rfl, Nat.le_refl _, fun _ _ => rfl⟩
        have hBw5 : Below w.heap.size w ((wr.alloc (.cells #[.string ts[k].path, .string ts[k].text, .bool ts[k].runs] 37)).drewN nq) := hBw2.trans ⟨rfl, rfl, rfl, Nat.le_refl _, fun _ _ => rfl⟩
        generalize (wr.alloc (.cells #[.string ts[k].path, .string ts[k].text, .bool ts[k].runs] 37)).drewN nq = W5 at *
        clear hBw2 hBL2 hT2 hcT2 hals x0 x1 x2 hBw hcT' hBT hB hT
        generalize wr.heap.size = be at *
        cases bl with
        | true =>
          go_wp2
          go_ret2
          refine ⟨hBw5, .inr ⟨hbad (fun ⟨_, _, h2, _⟩ => ?_), rfl⟩⟩
          have := HB.out.2 h2
          cases this
        | false =>
          have hpl := HB.out.1 rfl
          have HP : Keep (∀ j, j + 1 = k → ∀ hj : j < ts.length, Op.bytesLess ts[j].path.toList ts[k].path.toList = true) := ⟨hpl⟩
          clear hpl HB
          go_wp2_with fail
          refine (isEntry_any ts[k] (by omega) _).mono ?_
          rintro x w6 ⟨rfl, hb6⟩
          cases hen : enOk ts[k] with
          | false =>
            go_wp2
            go_ret2
            refine ⟨hBw5.trans (hb6.mono hBw5.size), .inr ⟨hbad (fun ⟨_, h1, _, _⟩ => ?_), rfl⟩⟩
            rw [hen] at h1
            cases h1
          | true =>
            obtain ⟨h6, h126⟩ := parts6 hen
            have y0 := cell_later hb6 y0
            have y1 := cell_later hb6 y1
            have y2 := cell_later hb6 y2
            have hT6 := hT5.below hb6
            have hBw6 := hBw5.trans (hb6.mono hBw5.size)
            have hLw : L ≤ W5.heap.size := Nat.le_trans hLg hB5.size
            have hB6 := hB5.trans (hb6.mono hLw)
            have hLw6 : L ≤ w6.heap.size := Nat.le_trans hLw hb6.size
            have hless := asc_all hok.out hlt HP.out
            have hbi := blocked_iff hS ts[k] hless
            have HBI : Keep (Blocked β φ (partsB ts[k].path) ↔ ∃ e' ∈ ts.take k, Begins e'.path ts[k].path) := ⟨hbi⟩
            have hlay := lay_any L N (L + 1) w6 β μ φ hT6 hS.files_nodes hroot (by omega) ts[k] (by omega) (path_pos (by simp only [enOk, Bool.and_eq_true] at hen; exact hen.1))
            clear hless hbi hT5 hB5 hBw5 hb6
            go_wp2_with fail
            refine hlay.mono ?_
            rintro x w7 (⟨rfl, hnb, ⟨β', μ', hT7, hgr, hr7⟩, hBT7⟩ | ⟨rfl, hbl, _, hBT7⟩)
            · have hB7 := hBT7.below hT6 hLw6
              have hS7 := hS.laid ts[k] (by
                cases hx : φ (partsB ts[k].path) with
                | none => rfl
                | some f => exact absurd (.inr (.inl (by rw [hx]; simp))) hnb) hgr
              rw [← List.take_succ_eq_append_getElem hlt] at hS7
              have hok7 : Keep (∀ i, i < k + 1 → OkAt ts i) := ⟨fun i hi => by
                by_cases e : i = k
                · subst e
                  exact ⟨hlt, hen, HP.out, fun e' he hb => hnb (HBI.out.2 ⟨e', he, hb⟩)⟩
                · exact hok.out i (by omega)⟩
              clear hlay HBI hnb hgr hS
              go_wp2
              go_roundw
              case rel => exact ⟨k + 1, N + (partsB ts[k].path).length, β', μ', _, by congr 1, hlt, hT7, by omega, by rw [hr7]; exact hroot, hS7, hok7, hB6.trans hB7⟩
              case measure => simp only [intOf]; omega
            · have hB7 := hBT7.below hT6 hLw6
              have hBw7 : Below w.heap.size w w7 := hBw6.trans (hB7.mono (by omega))
              clear hlay
              go_wp2
              go_ret2
              refine ⟨hBw7, .inr ⟨hbad (fun ⟨_, _, _, h3⟩ => ?_), rfl⟩⟩
              obtain ⟨e', he, hb⟩ := HBI.out.1 hbl
              exact h3 e' he hb
    · obtain rfl : k = ts.length := by omega
      go_wp2
      go_ret2
      rw [List.take_length] at hS
      exact ⟨hBw, .inl ⟨⟨by omega, hok.out⟩, L + 1, rfl, L, N, β, μ, φ, by omega, by omega, hT, hroot, hS⟩⟩
end Go.Proofs.Ytiadabmbfpfbjaa

namespace Go.Proofs.Ytiadabmbfpfbjaa
open Go.RowKit Go.Shelf

attribute [local go_sem] Oper.semAt_some

/-- Between two rounds. -/
def FindI (Bn : Nat) (W0 : World) (β : Way → Option Nat) (pre : Way) (W : World) : Prop :=
  ∃ b, β pre = some b ∧ Boxed W Bn 47 (.pointer (some ⟨b, 0, none⟩)) ∧ Boxed W (Bn + 1) 47 (.pointer none) ∧ Below Bn W0 W
/-- Nothing lies there. -/
def FindX (Bn : Nat) (W0 : World) (β : Way → Option Nat) (pre : Way) (W : World) : Prop :=
  β pre = none ∧ Boxed W (Bn + 1) 47 (.pointer none) ∧ Below Bn W0 W

theorem below_set {B g : Nat} {w W : World} (h : Below B w W) (hg : B ≤ g) (v : Value) : Below B w (W.setCell ⟨g, 0, none⟩ v) := h.setCell (p := ⟨g, 0, none⟩) hg _
theorem below_putObj {B l : Nat} {w W : World} (h : Below B w W) (hl : B ≤ l) (o : Obj) : Below B w (W.putObj l o) :=
  ⟨(grownBy_putObj' W l o).os.trans h.os, (grownBy_putObj' W l o).tape.trans h.tape, (grownBy_putObj' W l o).output.trans h.output, Nat.le_trans h.size (grownBy_putObj' W l o).size, fun k hk => (World.putObj_heap_other (by omega)).trans (h.block k hk)⟩

theorem none_up {lo N : Nat} {W : World} {β : Way → Option Nat} {μ : Way → Nat} {φ : Way → Option (ByteArray × Bool)} (h : TreeM lo N W β μ φ) : ∀ (r p : Way), β p = none → β (p ++ r) = none
  | [], p, hp => by simpa using hp
  | x :: r, p, hp => by
    have h1 : β (p ++ [x]) = none := by
      cases hc : β (p ++ [x]) with
      | none => rfl
      | some c => exact absurd hp (h.up p x (by rw [hc]; simp))
    have := none_up h r (p ++ [x]) h1
    rwa [List.append_assoc] at this

def FindPost (β : Way → Option Nat) (ps : Way) (w : World) (e : Ending) (w' : World) : Prop := e = .returned (ptrV (β ps)) ∧ Below w.heap.size w w'

set_option maxRecDepth 100000 in
set_option maxHeartbeats 4000000 in
theorem find_any (lo N root : Nat) (w : World) (β : Way → Option Nat) (μ : Way → Nat) (φ : Way → Option (ByteArray × Bool)) (hT : TreeM lo N w β μ φ) (hr : β [] = some root) (s : ByteArray) (hs : s.size ≤ 1099511627776) :
    Calls Try.prog 26 #[.pointer (some ⟨root, 0, none⟩), .string s] w fun e w' => FindPost β (partsB s) w e w' := by
  refine (callsIn_wide (n := 5)).1 ?_
  refine callsIn_of_wp_marks Try.func26 rfl trivial ?_ rfl
  simp only [Try.ntmps26, List.size_toArray, List.length_cons, List.length_nil, Nat.reduceAdd, Nat.reduceSub, Array.replicate_succ, Array.replicate_zero, List.push_toArray, List.append_toArray, List.nil_append, List.cons_append]
  gi_wp2_with (refine ⟨trivial, ?_⟩; gi_at_call 40; refine (callsIn_wide.2 (partsOf_any s _)).mono ?_; rintro e w' ⟨rfl, rfl⟩)
  have b1 := Boxed.new w 47 (.pointer (some ⟨root, 0, none⟩))
  have b2 := Boxed.new (w.alloc (.cells #[.pointer (some ⟨root, 0, none⟩)] 47)) 47 (.pointer none)
  have b3 := Boxed.new ((w.alloc (.cells #[.pointer (some ⟨root, 0, none⟩)] 47)).alloc (.cells #[.pointer none] 47)) 9 (.string s)
  simp only [World.size_alloc] at b2 b3
  have hB0 : Below w.heap.size w (((w.alloc (.cells #[.pointer (some ⟨root, 0, none⟩)] 47)).alloc (.cells #[.pointer none] 47)).alloc (.cells #[.string s] 9)) :=
    (((Below.refl _ w).alloc (Nat.le_refl _) _).alloc (by simp) _).alloc (by simp; omega) _
  have hsz : (((w.alloc (.cells #[.pointer (some ⟨root, 0, none⟩)] 47)).alloc (.cells #[.pointer none] 47)).alloc (.cells #[.string s] 9)).heap.size ≥ w.heap.size + 3 := by simp
  have b1 := (b1.alloc (.cells #[.pointer none] 47)).alloc (.cells #[.string s] 9)
  have b2 := b2.alloc (.cells #[.string s] 9)
  generalize ((w.alloc (.cells #[.pointer (some ⟨root, 0, none⟩)] 47)).alloc (.cells #[.pointer none] 47)).alloc (.cells #[.string s] 9) = Wl at *
  refine range_parts (n := 5) (by omega) (w.heap.size + 1 + 1) s hs (by omega) b3.cell rfl rfl (FindI w.heap.size w β) (FindX w.heap.size w β)
    (fun pre W o h => ?_) (fun pre W k h => ?_) (fun pre W l o hl h => ?_) (fun pre W l o hl h => ?_)
    ⟨root, hr, b1, b2, hB0⟩
    (fun x => { tmps := #[.pointer (some ⟨root, 0, none⟩), .string s, .pointer (some ⟨w.heap.size, 0, none⟩), undef, .pointer (some ⟨w.heap.size + 1, 0, none⟩), .string x, .string s, .func (.func 55) #[] #[.pointer (some ⟨w.heap.size + 1 + 1, 0, none⟩)], .string x, undef, undef, undef, undef, undef, undef, undef, undef, undef], defers := [] }) ?assign ?body ?done ?stop
  · obtain ⟨b, h0, h1, h2, h3⟩ := h
    exact ⟨b, h0, h1.alloc _, h2.alloc _, h3.alloc h3.size _⟩
  · obtain ⟨b, h0, h1, h2, h3⟩ := h
    exact ⟨b, h0, h1, h2, h3.trans ⟨rfl, rfl, rfl, Nat.le_refl _, fun _ _ => rfl⟩⟩
  · obtain ⟨b, h0, h1, h2, h3⟩ := h
    exact ⟨b, h0, boxed_block h1 (World.putObj_heap_other (by omega)), boxed_block h2 (World.putObj_heap_other (by omega)), below_putObj h3 (by omega) _⟩
  · obtain ⟨h0, h2, h3⟩ := h
    exact ⟨h0, boxed_block h2 (World.putObj_heap_other (by omega)), below_putObj h3 (by omega) _⟩
  case assign =>
    intro l x W K hK
    gi_wp2
    exact hK
  case body =>
    rintro l pre x W ⟨b, h0, h1, h2, hB⟩ ⟨r, hr'⟩ hlt
    have hxs : x.size ≤ 1099511627776 := by have := parts_size (s := s) (x := x) (by rw [hr']; simp); omega
    obtain ⟨hob, hlb, hlm, hkd⟩ := (hT.below hB).node pre b h0
    obtain ⟨c0, c3, cf, _, _⟩ := node_cells hob
    have d1 := h1.cell
    have d2 := h2.cell
    have e1 := h1.frozen
    have e2 := h2.frozen
    have hlk := hkd.look x hxs
    have HT : Keep (Wl.heap.size ≥ w.heap.size + 3) := ⟨hsz⟩
    cases hk : β (pre ++ [x]) with
    | some c =>
      rw [hk] at hlk
      unfold ptrV at hlk
      gi_wp2
      exact ⟨two_set W _ (by omega), c, hk, h1.set _, h2.other (by omega) _, below_set hB (Nat.le_refl _) _⟩
    | none =>
      rw [hk] at hlk
      unfold ptrV at hlk
      gi_wp2
      exact ⟨(two_set W _ (by omega)).trans (two_set _ _ (by omega)), hk, (h2.other (by omega) _).set _, below_set (below_set hB (Nat.le_refl _) _) (by omega) _⟩
  case done =>
    rintro W ⟨b, h0, h1, h2, hB⟩ hK
    have c1 := h1.cell
    have c2 := h2.cell
    have f2 := h2.frozen
    gi_wp2
    have hB2 := below_set hB (show w.heap.size ≤ w.heap.size + 1 by omega) (.pointer (some ⟨b, 0, none⟩))
    have hb2 := h2.set (.pointer (some ⟨b, 0, none⟩))
    have hK2 : (W.setCell ⟨w.heap.size + 1, 0, none⟩ (.pointer (some ⟨b, 0, none⟩))).heap[Wl.heap.size]? = some (.deferred (some [])) :=
      ((two_set W (.pointer (some ⟨b, 0, none⟩)) (show w.heap.size + 1 < Wl.heap.size by omega)).1).trans hK
    generalize W.setCell ⟨w.heap.size + 1, 0, none⟩ (.pointer (some ⟨b, 0, none⟩)) = W3 at *
    refine ⟨by simp, .inl ⟨_, _, rfl, run_takeDeferred hK2, ?_⟩⟩
    have hb4 := (boxed_block hb2 (World.putObj_heap_other (o := .deferred none) (show w.heap.size + 1 ≠ Wl.heap.size by omega))).cell
    refine ⟨.pointer (some ⟨b, 0, none⟩), ?_, by rw [h0]; rfl, below_putObj hB2 (by omega) _⟩
    simp [results, Try.f26, go_sem, hb4]
  case stop =>
    rintro pre W ⟨r, hr'⟩ ⟨h0, h2, hB⟩ hK
    gi_wp2
    refine ⟨by simp, .inl ⟨_, _, rfl, run_takeDeferred hK, ?_⟩⟩
    have hb4 := (boxed_block h2 (World.putObj_heap_other (o := .deferred none) (show w.heap.size + 1 ≠ Wl.heap.size by omega))).cell
    refine ⟨.pointer none, ?_, by rw [← hr', none_up hT r pre h0]; rfl, below_putObj hB (by omega) _⟩
    simp [results, Try.f26, go_sem, hb4]
end Go.Proofs.Ytiadabmbfpfbjaa

namespace Go.Proofs.Ytiadabmbfpfbjaa
open Go.RowKit Go.Shelf

def renPu : Ren := ⟨fun n => if n = 25 then 62 else n, fun n => if n = 0 then 0 else if n = 3 then 3 else if n = 4 then 4 else if n = 5 then 5 else if n = 9 then 9 else if n = 37 then 22 else if n = 47 then 95 else n, fun n => n⟩

theorem laysClone : LaysPu.n25 Try.prog renPu where
  mixed := by kernel_rfl
  f25 := by kernel_rfl
  t0 := by kernel_rfl
  a0 := fun _ => by kernel_rfl
  z0 := fun _ => by kernel_rfl
  v0 := fun _ => by kernel_rfl
  i0 := by kernel_rfl
  t3 := by kernel_rfl
  a3 := fun _ => by kernel_rfl
  z3 := fun _ => by kernel_rfl
  v3 := fun _ => by kernel_rfl
  i3 := by kernel_rfl
  t4 := by kernel_rfl
  a4 := fun _ => by kernel_rfl
  z4 := fun _ => by kernel_rfl
  v4 := fun _ => by kernel_rfl
  i4 := by kernel_rfl
  t5 := by kernel_rfl
  a5 := fun _ => by kernel_rfl
  z5 := fun _ => by kernel_rfl
  v5 := fun _ => by kernel_rfl
  i5 := by kernel_rfl
  t9 := by kernel_rfl
  a9 := fun _ => by kernel_rfl
  z9 := fun _ => by kernel_rfl
  v9 := fun _ => by kernel_rfl
  i9 := by kernel_rfl
  t37 := by kernel_rfl
  a37 := fun _ => by kernel_rfl
  z37 := fun _ => by kernel_rfl
  v37 := fun _ => by kernel_rfl
  i37 := by kernel_rfl
  t47 := by kernel_rfl
  a47 := fun _ => by kernel_rfl
  z47 := fun _ => by kernel_rfl
  v47 := fun _ => by kernel_rfl
  i47 := by kernel_rfl

theorem cloneLite_any (s : ByteArray) (w : World) (hlim : s.size ≤ 281474976710656) :
    Calls Try.prog 62 #[.string s] w fun e w' => e = .returned (.string s) ∧ Below w.heap.size w w' :=
  AnyPu.stringslite_Clone laysClone s w hlim

set_option maxHeartbeats 400000 in
theorem clone_any (s : ByteArray) (w : World) (hlim : s.size ≤ 281474976710656) :
    Calls Try.prog 50 #[.string s] w fun e w' => e = .returned (.string s) ∧ Below w.heap.size w w' := by
  go_enter Try.func50, Try.ntmps50
  go_wp2_with (go_at_call 62; refine (cloneLite_any _ _ hlim).mono ?_; rintro e w1 ⟨rfl, hb⟩)
  go_ret
  exact ⟨rfl, hb⟩
end Go.Proofs.Ytiadabmbfpfbjaa

namespace Go.Proofs.Ytiadabmbfpfbjaa
open Go.RowKit

def EntPost (p t : ByteArray) (r : Bool) (w : World) (e : Ending) (w' : World) : Prop := e = .returned (.agg #[.string p, .string t, .bool r]) ∧ Below w.heap.size w w'

set_option maxRecDepth 100000 in
set_option maxHeartbeats 4000000 in
theorem entry_any (p t : ByteArray) (r : Bool) (w : World) (hp : p.size ≤ 281474976710656) (ht : t.size ≤ 281474976710656) :
    Calls Try.prog 31 #[.agg #[.bool true, .string t, .bool r], .string p] w fun e w' => EntPost p t r w e w' := by
  have hal : Below w.heap.size w ((w.alloc (.cells #[.bool true, .string t, .bool r] 53)).alloc (.cells #[.string ⟨#[]⟩, .string ⟨#[]⟩, .bool false] 37)) := ((Below.refl _ _).alloc (Nat.le_refl _) _).alloc (by simp) _
  have d1 : ((w.alloc (.cells #[.bool true, .string t, .bool r] 53)).alloc (.cells #[.string ⟨#[]⟩, .string ⟨#[]⟩, .bool false] 37)).cell? ⟨w.heap.size, 1, none⟩ = some (.string t) := by simp
  have d2 : ((w.alloc (.cells #[.bool true, .string t, .bool r] 53)).alloc (.cells #[.string ⟨#[]⟩, .string ⟨#[]⟩, .bool false] 37)).cell? ⟨w.heap.size, 2, none⟩ = some (.bool r) := by simp
  have g0 : ((w.alloc (.cells #[.bool true, .string t, .bool r] 53)).alloc (.cells #[.string ⟨#[]⟩, .string ⟨#[]⟩, .bool false] 37)).cell? ⟨w.heap.size + 1, 0, none⟩ = some (.string ⟨#[]⟩) := by simp
  have g1 : ((w.alloc (.cells #[.bool true, .string t, .bool r] 53)).alloc (.cells #[.string ⟨#[]⟩, .string ⟨#[]⟩, .bool false] 37)).cell? ⟨w.heap.size + 1, 1, none⟩ = some (.string ⟨#[]⟩) := by simp
  have g2 : ((w.alloc (.cells #[.bool true, .string t, .bool r] 53)).alloc (.cells #[.string ⟨#[]⟩, .string ⟨#[]⟩, .bool false] 37)).cell? ⟨w.heap.size + 1, 2, none⟩ = some (.bool false) := by simp
  have hsz : w.heap.size + 1 < ((w.alloc (.cells #[.bool true, .string t, .bool r] 53)).alloc (.cells #[.string ⟨#[]⟩, .string ⟨#[]⟩, .bool false] 37)).heap.size := by simp
  have f0 : ∀ j, ((w.alloc (.cells #[.bool true, .string t, .bool r] 53)).alloc (.cells #[.string ⟨#[]⟩, .string ⟨#[]⟩, .bool false] 37)).frozen? ⟨w.heap.size + 1, j, none⟩ = false := fun j => by simp
  go_enter Try.func31, Try.ntmps31
  go_wp2_with fail
  generalize hw2 : (w.alloc (.cells #[.bool true, .string t, .bool r] 53)).alloc (.cells #[.string ⟨#[]⟩, .string ⟨#[]⟩, .bool false] 37) = w2 at *
  clear hw2
  obtain ⟨g, hg⟩ : ∃ g, g = w.heap.size + 1 := ⟨_, rfl⟩
  obtain ⟨g', hg'⟩ : ∃ g', g' = w.heap.size := ⟨_, rfl⟩
  have hgw : w.heap.size ≤ g := by omega
  rw [← hg] at g0 g1 g2 hsz f0 ⊢
  rw [← hg'] at d1 d2 ⊢
  have HG : Keep (g' = w.heap.size) := ⟨hg'⟩
  have HGW : Keep (w.heap.size ≤ g) := ⟨hgw⟩
  have hal2 : Below w.heap.size w w2 := hal
  clear hal hg hg' hgw
  have q0 : Below w2.heap.size w2 w2.drew := (Below.refl _ _).drew
  have kq : ∀ {W W' : World}, Below w2.heap.size w2 W → Below W.heap.size W W' → Below w2.heap.size w2 W' := fun h h' => h.trans (h'.mono h.size)
  have kF : ∀ {W : World}, Below w2.heap.size w2 W → ∀ j, W.frozen? ⟨g, j, none⟩ = false := fun h j => (h.frozen (p := ⟨g, j, none⟩) hsz).trans (f0 j)
  go_region_with (first | (go_at_call_of 50 p; refine (clone_any p _ hp).mono ?_; rintro e w3 ⟨rfl, hb3⟩; have q : Below w2.heap.size w2 w3 := (by first | exact kq q hb3 | exact kq q0 hb3); have p1 := cell_later q d1; have p2 := cell_later q d2; have p3 := cell_later q g0; have p4 := cell_later q g1; have p5 := cell_later q g2; have pf := kF q) | (go_at_call_of 50 t; refine (clone_any t _ ht).mono ?_; rintro e w3 ⟨rfl, hb3⟩; have q : Below w2.heap.size w2 w3 := (by first | exact kq q hb3 | exact kq q0 hb3); have p1 := cell_later q d1; have p2 := cell_later q d2; have p3 := cell_later q g0; have p4 := cell_later q g1; have p5 := cell_later q g2; have pf := kF q))
  all_goals
    have hbl : Below w.heap.size w w3 := hal2.trans (q.mono hal2.size)
    go_wp2
    refine bodyPost_ret (v := .agg #[.string p, .string t, .bool r]) ?_ rfl ⟨rfl, ?_⟩
    · go_light
      simp [results, Try.results31, go_sem, p3, p4, p5]
    · have hgw := HGW.out
      exact ((hbl.setCell (p := ⟨g, 0, none⟩) hgw _).setCell (p := ⟨g, 1, none⟩) hgw _).setCell (p := ⟨g, 2, none⟩) hgw _
end Go.Proofs.Ytiadabmbfpfbjaa

namespace Go.Proofs.Ytiadabmbfpfbjaa
open Go.RowKit Go.Shelf

def renF : Ren := ⟨fun n => if n = 6 then 58 else if n = 14 then 65 else if n = 15 then 66 else if n = 20 then 69 else if n = 21 then 70 else if n = 22 then 71 else if n = 23 then 72 else if n = 24 then 73 else if n = 25 then 74 else if n = 26 then 75 else if n = 27 then 76 else if n = 28 then 77 else if n = 29 then 78 else if n = 46 then 84 else if n = 47 then 85 else if n = 48 then 86 else if n = 49 then 87 else if n = 50 then 88 else if n = 57 then 91 else n, fun n => if n = 0 then 0 else if n = 3 then 3 else if n = 4 then 4 else if n = 5 then 5 else if n = 9 then 9 else if n = 22 then 68 else if n = 24 then 9 else if n = 25 then 90 else if n = 39 then 94 else if n = 45 then 97 else if n = 46 then 98 else if n = 50 then 102 else if n = 53 then 105 else if n = 55 then 107 else if n = 66 then 109 else if n = 70 then 113 else if n = 76 then 117 else if n = 77 then 118 else n, fun n => n⟩

theorem laysSort : SlLaysF.n6 Try.prog renF where
  mixed := by kernel_rfl
  f6 := ⟨ "slices.SortFunc[[]string,string]", by decide, Try.func58.trans (congrArg some (by kernel_rfl))⟩
  f14 := ⟨ "slices.pdqsortCmpFunc[string]", by decide, Try.func65.trans (congrArg some (by kernel_rfl))⟩
  f15 := Try.func66.trans (congrArg some (by kernel_rfl))
  f20 := ⟨ "slices.insertionSortCmpFunc[string]", by decide, Try.func69.trans (congrArg some (by kernel_rfl))⟩
  f21 := ⟨ "slices.heapSortCmpFunc[string]", by decide, Try.func70.trans (congrArg some (by kernel_rfl))⟩
  f22 := ⟨ "slices.breakPatternsCmpFunc[string]", by decide, Try.func71.trans (congrArg some (by kernel_rfl))⟩
  f23 := ⟨ "slices.choosePivotCmpFunc[string]", by decide, Try.func72.trans (congrArg some (by kernel_rfl))⟩
  f24 := ⟨ "slices.reverseRangeCmpFunc[string]", by decide, Try.func73.trans (congrArg some (by kernel_rfl))⟩
  f25 := ⟨ "slices.partialInsertionSortCmpFunc[string]", by decide, Try.func74.trans (congrArg some (by kernel_rfl))⟩
  f26 := ⟨ "slices.partitionEqualCmpFunc[string]", by decide, Try.func75.trans (congrArg some (by kernel_rfl))⟩
  f27 := ⟨ "slices.partitionCmpFunc[string]", by decide, Try.func76.trans (congrArg some (by kernel_rfl))⟩
  f28 := Try.func77.trans (congrArg some (by kernel_rfl))
  f29 := Try.func78.trans (congrArg some (by kernel_rfl))
  f46 := ⟨ "slices.siftDownCmpFunc[string]", by decide, Try.func84.trans (congrArg some (by kernel_rfl))⟩
  f47 := Try.func85.trans (congrArg some (by kernel_rfl))
  f48 := Try.func86.trans (congrArg some (by kernel_rfl))
  f49 := ⟨ "slices.medianAdjacentCmpFunc[string]", by decide, Try.func87.trans (congrArg some (by kernel_rfl))⟩
  f50 := ⟨ "slices.medianCmpFunc[string]", by decide, Try.func88.trans (congrArg some (by kernel_rfl))⟩
  f57 := ⟨ "slices.order2CmpFunc[string]", by decide, Try.func91.trans (congrArg some (by kernel_rfl))⟩
  t0 := by kernel_rfl
  a0 := fun _ => by kernel_rfl
  z0 := fun _ => by kernel_rfl
  v0 := fun _ => by kernel_rfl
  t3 := by kernel_rfl
  a3 := fun _ => by kernel_rfl
  z3 := fun _ => by kernel_rfl
  v3 := fun _ => by kernel_rfl
  t4 := by kernel_rfl
  a4 := fun _ => by kernel_rfl
  z4 := fun _ => by kernel_rfl
  v4 := fun _ => by kernel_rfl
  t5 := by kernel_rfl
  a5 := fun _ => by kernel_rfl
  z5 := fun _ => by kernel_rfl
  v5 := fun _ => by kernel_rfl
  t9 := by kernel_rfl
  a9 := fun _ => by kernel_rfl
  z9 := fun _ => by kernel_rfl
  v9 := fun _ => by kernel_rfl
  t22 := by kernel_rfl
  a22 := fun _ => by kernel_rfl
  z22 := fun _ => by kernel_rfl
  v22 := fun _ => by kernel_rfl
  a24 := fun _ => by kernel_rfl
  z24 := fun _ => by kernel_rfl
  t25 := by kernel_rfl
  a25 := fun _ => by kernel_rfl
  z25 := fun _ => by kernel_rfl
  v25 := fun _ => by kernel_rfl
  t39 := by kernel_rfl
  a39 := fun _ => by kernel_rfl
  z39 := fun _ => by kernel_rfl
  v39 := fun _ => by kernel_rfl
  t45 := by kernel_rfl
  a45 := fun _ => by kernel_rfl
  z45 := fun _ => by kernel_rfl
  v45 := fun _ => by kernel_rfl
  t46 := by kernel_rfl
  a46 := fun _ => by kernel_rfl
  z46 := fun _ => by kernel_rfl
  v46 := fun _ => by kernel_rfl
  t50 := by kernel_rfl
  a50 := fun _ => by kernel_rfl
  z50 := fun _ => by kernel_rfl
  v50 := fun _ => by kernel_rfl
  t53 := by kernel_rfl
  a53 := fun _ => by kernel_rfl
  z53 := fun _ => by kernel_rfl
  v53 := fun _ => by kernel_rfl
  t55 := by kernel_rfl
  a55 := fun _ => by kernel_rfl
  z55 := fun _ => by kernel_rfl
  v55 := fun _ => by kernel_rfl
  t66 := by kernel_rfl
  a66 := fun _ => by kernel_rfl
  z66 := fun _ => by kernel_rfl
  v66 := fun _ => by kernel_rfl
  t70 := by kernel_rfl
  a70 := fun _ => by kernel_rfl
  z70 := fun _ => by kernel_rfl
  v70 := fun _ => by kernel_rfl
  t76 := by kernel_rfl
  a76 := fun _ => by kernel_rfl
  z76 := fun _ => by kernel_rfl
  v76 := fun _ => by kernel_rfl
  t77 := by kernel_rfl
  a77 := fun _ => by kernel_rfl
  z77 := fun _ => by kernel_rfl
  v77 := fun _ => by kernel_rfl
end Go.Proofs.Ytiadabmbfpfbjaa

namespace Go.Proofs.Ytiadabmbfpfbjaa
open Go.RowKit

/-- What the paths below a kid begin with. -/
def beginB (file : Bool) (x : ByteArray) : ByteArray := if file then x else x ++ ⟨#[47]⟩

theorem beginB_list (file : Bool) (x : ByteArray) : (beginB file x).data.toList = beginL file x.data.toList := by
  cases file <;> simp [beginB, beginL, ByteArray.data_append]

def BeginPost (φ : Way → Option (ByteArray × Bool)) (q : Way) (x : ByteArray) (w : World) (e : Ending) (w' : World) : Prop := e = .returned (.string (beginB (φ (q ++ [x])).isSome x)) ∧ w' = w

set_option maxRecDepth 100000 in
set_option maxHeartbeats 1000000 in
theorem begin_any (lo N : Nat) (w : World) (β : Way → Option Nat) (μ : Way → Nat) (φ : Way → Option (ByteArray × Bool)) (hT : TreeM lo N w β μ φ) (q : Way) (b c : Nat) (x : ByteArray) (hb : β q = some b) (hc : β (q ++ [x]) = some c) (hx : x.size ≤ 1048576) :
    Calls Try.prog 61 #[.pointer (some ⟨b, 0, none⟩), .string x] w fun e w' => BeginPost φ q x w e w' := by
  obtain ⟨hob, _, _, hkd⟩ := hT.node q b hb
  obtain ⟨hoc, _, _, _⟩ := hT.node (q ++ [x]) c hc
  obtain ⟨_, c3, _, _, _⟩ := node_cells hob
  obtain ⟨d0, _, _, _, _⟩ := node_cells hoc
  have hlk := hkd.look x (by omega)
  rw [hc] at hlk
  unfold ptrV at hlk
  cases hf : (φ (q ++ [x])).isSome with
  | true =>
    rw [hf] at d0
    go_enter Try.func61, Try.ntmps61
    go_wp2
    go_ret
    exact ⟨by simp [beginB, hf], rfl⟩
  | false =>
    rw [hf] at d0
    go_enter Try.func61, Try.ntmps61
    go_wp2
    go_ret
    exact ⟨by simp [beginB, hf], rfl⟩
end Go.Proofs.Ytiadabmbfpfbjaa

namespace Go.Proofs.Ytiadabmbfpfbjaa
open Go.RowKit Go.Lib

set_option maxHeartbeats 1000000 in
set_option maxRecDepth 100000 in
theorem cmpString_any (a b : ByteArray) (w : World) :
    Calls Try.prog 67 #[.string a, .string b] w fun e w' => e = .returned (.int .i64 (Lib.compareBytes a.data.toList b.data.toList)) ∧ w' = w := by
  go_enter Try.func67, Try.ntmps67
  go_wp2
  rw [run_callFunc_extern Try.func79 (by kernel_rfl) (by kernel_rfl) (by kernel_rfl) (e := Extern.BytealgCompare.compare) (by kernel_rfl), Lib.run_compareString]
  simp only [Result.andThen]
  rw [Oper.upon_value]
  go_wp2
  go_ret
  exact ⟨rfl, rfl⟩

set_option maxHeartbeats 1000000 in
theorem compare_any (a b : ByteArray) (w : World) :
    Calls Try.prog 60 #[.string a, .string b] w fun e w' => e = .returned (.int .i64 (Lib.compareBytes a.data.toList b.data.toList)) ∧ w' = w := by
  go_enter Try.func60, Try.ntmps60
  go_wp2_with (go_at_call 67; refine (cmpString_any _ _ _).mono ?_; rintro e w' ⟨rfl, rfl⟩)
  go_ret
  exact ⟨rfl, rfl⟩

theorem compare_neg : ∀ {a b : List UInt8}, Lib.compareBytes a b < 0 ↔ Op.bytesLess a b = true
  | [], [] => by simp [Lib.compareBytes, Op.bytesLess]
  | [], _ :: _ => by simp [Lib.compareBytes, Op.bytesLess]
  | _ :: _, [] => by simp [Lib.compareBytes, Op.bytesLess]
  | x :: a, y :: b => by
    have ih := compare_neg (a := a) (b := b)
    by_cases h : x < y
    · simp [Lib.compareBytes, Op.bytesLess, h]
    · by_cases h2 : y < x
      · have hne : ¬ x = y := fun e => by subst e; exact h h2
        simp [Lib.compareBytes, Op.bytesLess, h, h2, hne]
      · have he : x = y := by
          rw [UInt8.lt_iff_toNat_lt] at h h2
          exact UInt8.toNat_inj.1 (by omega)
        subst he
        simp [Lib.compareBytes, Op.bytesLess, h, ih]

end Go.Proofs.Ytiadabmbfpfbjaa

namespace Go.Proofs.Ytiadabmbfpfbjaa
open Go.RowKit Go.Lib

/-- What names' closure answers. -/
def cmpKid (φ : Way → Option (ByteArray × Bool)) (q : Way) (x y : ByteArray) : Int :=
  Lib.compareBytes (beginB (φ (q ++ [x])).isSome x).data.toList (beginB (φ (q ++ [y])).isSome y).data.toList

set_option maxRecDepth 100000 in
set_option maxHeartbeats 2000000 in
theorem namesL_any (lo N : Nat) (w : World) (β : Way → Option Nat) (μ : Way → Nat) (φ : Way → Option (ByteArray × Bool)) (hT : TreeM lo N w β μ φ) (q : Way) (b c d g : Nat) (x y : ByteArray) (hb : β q = some b) (hc : β (q ++ [x]) = some c) (hd : β (q ++ [y]) = some d) (hx : x.size ≤ 1048576) (hy : y.size ≤ 1048576)
    (hg : w.cell? ⟨g, 0, none⟩ = some (.pointer (some ⟨b, 0, none⟩))) :
    Calls Try.prog 59 #[.string x, .string y, .pointer (some ⟨g, 0, none⟩)] w fun e w' => e = .returned (.int .i64 (cmpKid φ q x y)) ∧ ∃ n, w' = w.drewN n := by
  have hA : Keep (∀ n, Calls Try.prog 61 #[.pointer (some ⟨b, 0, none⟩), .string x] (w.drewN n) fun e w' => e = .returned (.string (beginB (φ (q ++ [x])).isSome x)) ∧ w' = w.drewN n) :=
    ⟨fun n => begin_any lo N (w.drewN n) β μ φ (hT.turn (fun _ _ => rfl)) q b c x hb hc hx⟩
  have hB : Keep (∀ n, Calls Try.prog 61 #[.pointer (some ⟨b, 0, none⟩), .string y] (w.drewN n) fun e w' => e = .returned (.string (beginB (φ (q ++ [y])).isSome y)) ∧ w' = w.drewN n) :=
    ⟨fun n => begin_any lo N (w.drewN n) β μ φ (hT.turn (fun _ _ => rfl)) q b d y hb hd hy⟩
  have hC : Keep (∀ n, Calls Try.prog 60 #[.string (beginB (φ (q ++ [x])).isSome x), .string (beginB (φ (q ++ [y])).isSome y)] (w.drewN n) fun e w' => e = .returned (.int .i64 (cmpKid φ q x y)) ∧ w' = w.drewN n) :=
    ⟨fun n => compare_any _ _ _⟩
  generalize cmpKid φ q x y = r at *
  generalize beginB (φ (q ++ [x])).isSome x = bx at *
  generalize beginB (φ (q ++ [y])).isSome y = bq at *
  clear hT
  go_enter Try.func59, Try.ntmps59
  go_wp2_with fail
  go_quiet (first | (go_at_call_of 61 x; exact Calls.quiet_of_same (hA.out _)) | (go_at_call_of 61 y; exact Calls.quiet_of_same (hB.out _)) | (go_at_call 60; exact Calls.quiet_of_same (hC.out _)))
  go_wp2
  go_ret
  exact ⟨rfl, _, rfl⟩
end Go.Proofs.Ytiadabmbfpfbjaa

namespace Go.Proofs.Ytiadabmbfpfbjaa
open Go.RowKit Go.Shelf Go.Sort

/-- A kid's name. -/
abbrev KidN (β : Way → Option Nat) (q : Way) : Type := { x : ByteArray // β (q ++ [x]) ≠ none }
def kidV {β : Way → Option Nat} {q : Way} (x : KidN β q) : Value := .string x.1

theorem kid_lt {β : Way → Option Nat} (φ : Way → Option (ByteArray × Bool)) {q : Way} (x y : KidN β q) : ltOf (fun x y : KidN β q => cmpKid φ q x.1 y.1) x y = Op.bytesLess (beginL (φ (q ++ [x.1])).isSome x.1.data.toList) (beginL (φ (q ++ [y.1])).isSome y.1.data.toList) := by
  show decide (Lib.compareBytes (beginB (φ (q ++ [x.1])).isSome x.1).data.toList (beginB (φ (q ++ [y.1])).isSome y.1).data.toList < 0) = _
  rw [beginB_list, beginB_list]
  cases h : Op.bytesLess (beginL (φ (q ++ [x.1])).isSome x.1.data.toList) (beginL (φ (q ++ [y.1])).isSome y.1.data.toList) with
  | true => simpa using compare_neg.2 h
  | false =>
    simp only [decide_eq_false_iff_not]
    intro hc
    rw [compare_neg.1 hc] at h
    cases h

theorem not_less {a b : List UInt8} (h : Op.bytesLess a b = false) : Op.bytesLess b a = true ∨ b = a := by
  have := less_total a b
  rw [h] at this
  simpa using this.symm

theorem kid_swo {β : Way → Option Nat} (φ : Way → Option (ByteArray × Bool)) {q : Way} : SWO (ltOf (fun x y : KidN β q => cmpKid φ q x.1 y.1)) where
  irrefl x := by rw [kid_lt]; exact less_irrefl _
  trans x y z h1 h2 := by rw [kid_lt] at *; exact less_trans h1 h2
  ntrans x y z h1 h2 := by
    rw [kid_lt] at *
    generalize beginL (φ (q ++ [x.1])).isSome x.1.data.toList = a at *
    generalize beginL (φ (q ++ [y.1])).isSome y.1.data.toList = b at *
    generalize beginL (φ (q ++ [z.1])).isSome z.1.data.toList = c at *
    cases hc : Op.bytesLess a c with
    | false => rfl
    | true =>
      exfalso
      rcases not_less h1 with h3 | rfl
      · rw [less_trans h3 hc] at h2
        cases h2
      · rw [h2] at hc; cases hc

/-- One beginning, one kid. -/
theorem begin_inj {f g : Bool} {a b : List UInt8} (ha : 47 ∉ a) (hb : 47 ∉ b) (h : beginL f a = beginL g b) : a = b := by
  by_cases hne : a = b
  · exact hne
  · obtain ⟨_, h2⟩ := begin_prefix (f := f) (g := g) ha hb (by rw [h]; exact List.prefix_refl _) hne
    exact absurd h h2

theorem sorted_grown {α : Type} [Inhabited α] (enc : α → Value) (w : World) (g n : Nat) (d : Array α) (os : Array Obj) : w.grownBy (sortWorld enc w g 0 n d os) (some g) := by
  refine ⟨rfl, rfl, rfl, ?_, fun k hk hne => ?_⟩
  · simp [sortWorld, grow, putRow, mapBlock, Sort.ahead]
  · have hkg : g ≠ k := fun e => hne (by rw [e])
    simp only [sortWorld, grow, putRow, mapBlock, Sort.ahead]
    rw [Array.getElem?_append_left (by simpa using hk), Array.getElem?_modify]
    simp [hkg]

theorem sort_names (lo N : Nat) (w : World) (β : Way → Option Nat) (μ : Way → Nat) (φ : Way → Option (ByteArray × Bool)) (hT : TreeM lo N w β μ φ) (q : Way) (b bx g cap : Nat) (hb : β q = some b)
    (hx : ∀ x, β (q ++ [x]) ≠ none → x.size ≤ 20 ∧ (47 : UInt8) ∉ x.data.toList) (hbx : w.cell? ⟨bx, 0, none⟩ = some (.pointer (some ⟨b, 0, none⟩))) (hbg : bx ≠ g) (hg : ¬ TreeB β μ g) (hgw : g < w.heap.size)
    (ns : List ByteArray) (h0 : ns ≠ []) (hnd : ns.Nodup) (hm : ∀ x, x ∈ ns ↔ β (q ++ [x]) ≠ none) (hl : ns.length ≤ 100000)
    (hc : ∀ i (h : i < ns.length), w.cell? ⟨g, i, none⟩ = some (.string ns[i]) ∧ w.frozen? ⟨g, i, none⟩ = false) :
    Calls Try.prog 58 #[.slice (some ⟨g, 0, none⟩) ns.length cap, .func (.func 59) #[] #[.pointer (some ⟨bx, 0, none⟩)]] w fun e w' =>
      e = .returned (.tuple #[]) ∧ ∃ ns', NamesOf β φ q ns' ∧ ns'.length = ns.length ∧ (∀ i (h : i < ns'.length), w'.cell? ⟨g, i, none⟩ = some (.string ns'[i])) ∧ w.grownBy w' (some g) := by
  obtain ⟨x0, hx0⟩ := List.exists_mem_of_ne_nil ns h0
  haveI : Inhabited (KidN β q) := ⟨⟨x0, (hm x0).1 hx0⟩⟩
  have hat : ∀ x ∈ ns, β (q ++ [x]) ≠ none := fun x h => (hm x).1 h
  obtain ⟨d, hd⟩ : ∃ d : Array (KidN β q), d.toList.map Subtype.val = ns := ⟨(ns.attachWith _ hat).toArray, by simp⟩
  have hsz : d.size = ns.length := by rw [← hd]; simp
  have hget : ∀ (d : Array (KidN β q)) (ns : List ByteArray), d.toList.map Subtype.val = ns → ∀ i (h : i < ns.length), kidV d[i]! = .string ns[i] := by
    intro d ns hd i h
    subst hd
    simp at h
    rw [getElem!_pos d i h]
    simp [kidV]
  have hH : Holds kidV w g 0 d := fun j hj => by
    rw [Nat.zero_add, hget d ns hd j (by omega)]
    exact hc j (by omega)
  have hcmp : CmpReads Try.prog 59 #[.pointer (some ⟨bx, 0, none⟩)] (kidV (β := β) (q := q)) (fun x y => cmpKid φ q x.1 y.1) g 0 d.size w := by
    intro m os dk hdk x y
    have hgr := sorted_grown (kidV (β := β) (q := q)) w g m dk os
    have hT' : TreeM lo N (sortWorld kidV w g 0 m dk os) β μ φ := hT.turn (fun k hk => hgr.block k (hT.lt hk).2 (by simp; rintro rfl; exact hg hk))
    have hbx' : (sortWorld kidV w g 0 m dk os).cell? ⟨bx, 0, none⟩ = some (.pointer (some ⟨b, 0, none⟩)) := by
      obtain ⟨_, _, _, hlt', _⟩ := Sort.cells_of_cell? hbx
      have hlt : bx < w.heap.size := (Array.getElem?_eq_some_iff.1 hlt').1
      exact (World.cell?_of_block (hgr.block bx hlt (by simpa using hbg))).trans hbx
    obtain ⟨c1, hc1⟩ := Option.ne_none_iff_exists'.1 x.2
    obtain ⟨c2, hc2⟩ := Option.ne_none_iff_exists'.1 y.2
    exact namesL_any lo N _ β μ φ hT' q b c1 c2 bx x.1 y.1 hb hc1 hc2 (by have := (hx _ x.2).1; omega) (by have := (hx _ y.2).1; omega) hbx'
  have eg : ∀ args w, (callFunc 59 args).run Try.prog w = .ok (.enter 59 args) w := enters_of Try.func59 (by kernel_rfl) rfl
  have hcon := Any.slices_SortFunc laysSort kidV (fun _ => rfl) (fun x y : KidN β q => cmpKid φ q x.1 y.1) (kid_swo φ) 59 #[.pointer (some ⟨bx, 0, none⟩)] g 0 cap d w eg hcmp.lays hH hgw (by omega)
  rw [hsz] at hcon
  change Calls Try.prog 58 _ _ _ at hcon
  refine hcon.mono ?_
  rintro e w' ⟨he, d', n, os, ⟨hps, _, hpp⟩, hso, rfl⟩
  have hsz' : d'.size = ns.length := hps.trans hsz
  have hperm : d'.toList.Perm d.toList := by
    have e1 : (d'.extract 0 ns.length).toList = d'.toList := by rw [← hsz']; simp
    have e2 : (d.extract 0 ns.length).toList = d.toList := by rw [← hsz]; simp
    rw [e1, e2] at hpp
    exact hpp
  have hpm : (d'.toList.map Subtype.val).Perm ns := by rw [← hd]; exact hperm.map _
  have hSW : SW kidV w g 0 d' (sortWorld kidV w g 0 n d' os) := ⟨n, os, rfl⟩
  have hH' := hSW.holds hgw hH hps
  refine ⟨he, d'.toList.map Subtype.val, ⟨fun x => ?_, ?_⟩, by simp [hsz'], fun i hi => ?_, sorted_grown _ _ _ _ _ _⟩
  · rw [hpm.mem_iff, hm]
  · have hnd' : (d'.toList.map Subtype.val).Nodup := hpm.nodup_iff.2 hnd
    rw [List.pairwise_iff_getElem]
    intro i j hi hj hij
    have hne : (d'.toList.map Subtype.val)[i] ≠ (d'.toList.map Subtype.val)[j] := List.pairwise_iff_getElem.1 hnd' i j hi hj hij
    simp at hi hj
    have h1 := hso i j (Nat.zero_le _) hij (by omega)
    rw [kid_lt, getElem!_pos d' i hi, getElem!_pos d' j hj] at h1
    simp only [List.getElem_map, Array.getElem_toList] at hne ⊢
    refine ⟨hne, ?_⟩
    rcases not_less h1 with h2 | h2
    · exact h2
    · exact absurd (WideShapes.bytes_inj (begin_inj (hx _ d'[i].2).2 (hx _ d'[j].2).2 h2)) hne
  · have := (hH' i (by simpa using hi)).1
    rw [Nat.zero_add, hget d' _ rfl i hi] at this
    exact this
end Go.Proofs.Ytiadabmbfpfbjaa

namespace Go.Proofs.Ytiadabmbfpfbjaa
open Go.RowKit Go.Shelf

theorem sort_none (p : Option Addr) (cap : Nat) (fv : Value) (w : World) : Calls Try.prog 58 #[.slice p 0 cap, fv] w fun e w' => e = .returned (.tuple #[]) ∧ w' = w :=
  AnyF.slices_SortFunc_none (P := Try.prog) (ρ := renF) { laysSort with } p cap fv w
end Go.Proofs.Ytiadabmbfpfbjaa

namespace Go.Proofs.Ytiadabmbfpfbjaa
open Go.RowKit Go.Shelf

/-- Where the names lie. -/
def NamesAt (B : Nat) (w : World) (ad : Option Addr) (ns : List ByteArray) : Prop :=
  ns = [] ∨ ∃ g, ad = some ⟨g, 0, none⟩ ∧ B ≤ g ∧ g < w.heap.size ∧ ∀ i (h : i < ns.length), w.cell? ⟨g, i, none⟩ = some (.string ns[i])

theorem ptr_inv (v : Value) (y : DataW Unit × List MemPlace) (h : ptrR v = some y) : ∃ c, v = ptrV c := by
  unfold ptrR at h
  split at h
  · exact ⟨none, rfl⟩
  · rename_i b; exact ⟨some b, rfl⟩
  · cases h

def NamesPost (β : Way → Option Nat) (φ : Way → Option (ByteArray × Bool)) (q : Way) (w : World) (e : Ending) (w' : World) : Prop :=
  ∃ ad cap ns, e = .returned (.slice ad ns.length cap) ∧ NamesAt w.heap.size w' ad ns ∧ NamesOf β φ q ns ∧ Below w.heap.size w w' ∧ ns.length ≤ 100000

theorem keys_end {D0 : DataW Unit} {left : Lit → Bool} {ss : List (List UInt8)} {kid : ByteArray → Option Nat} (hC : Go.Collected D0 left ss) (hl0 : ∀ kl, left kl = false)
    (hat : ∀ x : ByteArray, x.size ≤ 1099511627776 → D0.atKey (.string x.data.toList) (ptrL none) = ptrL (kid x)) (hhas : ∀ x : ByteArray, Maps.has D0 (.string x.data.toList) = true → kid x ≠ none) (hx : ∀ x, kid x ≠ none → x.size ≤ 20) :
    (ss.map mkB).Nodup ∧ ∀ x, x ∈ ss.map mkB ↔ kid x ≠ none := by
  refine ⟨?_, fun x => ?_⟩
  · unfold List.Nodup
    rw [List.pairwise_map]
    exact List.Pairwise.imp (fun {a b} h e => h (mkB_inj e)) hC.1
  · have h1 : x ∈ ss.map mkB ↔ x.data.toList ∈ ss := by
      rw [List.mem_map]
      constructor
      · rintro ⟨l, hl, rfl⟩; rw [mkB_list]; exact hl
      · intro h; exact ⟨_, h, mkB_data x⟩
    rw [h1, hC.2]
    constructor
    · intro h; exact hhas x h.1
    · intro h
      refine ⟨?_, hl0 _⟩
      cases hh : Maps.has D0 (.string x.data.toList) with
      | true => rfl
      | false =>
        have h2 := hat x (by have := hx x h; omega)
        rw [Maps.atKey_of_not_has hh] at h2
        cases hk : kid x with
        | none => exact absurd hk h
        | some c => rw [hk] at h2; simp [ptrL] at h2

set_option maxRecDepth 100000 in
set_option maxHeartbeats 4000000 in
theorem names_any (lo N : Nat) (w : World) (β : Way → Option Nat) (μ : Way → Nat) (φ : Way → Option (ByteArray × Bool)) (hT : TreeM lo N w β μ φ) (hN : N ≤ 90000) (q : Way) (b : Nat) (hb : β q = some b)
    (hx : ∀ x, β (q ++ [x]) ≠ none → x.size ≤ 20 ∧ (47 : UInt8) ∉ x.data.toList) :
    Calls Try.prog 42 #[.pointer (some ⟨b, 0, none⟩)] w fun e w' => NamesPost β φ q w e w' := by
  obtain ⟨i0, hi, hz0, hz1, hz2⟩ := info_parts Try.infoStr
  obtain ⟨hob, _, _, hkd⟩ := hT.node q b hb
  obtain ⟨_, c3, _, _, _⟩ := node_cells hob
  obtain ⟨n, D0, hown, hnN, hat, _, hhas⟩ := hkd.own
  have hsz := hown.size_le
  have hbl := hown.lt
  have hal : Below w.heap.size w (w.alloc (.cells #[.pointer (some ⟨b, 0, none⟩)] 47)) := (Below.refl _ _).alloc (Nat.le_refl _) _
  have c3' := cell_later hal c3
  have hbx : (w.alloc (.cells #[.pointer (some ⟨b, 0, none⟩)] 47)).cell? ⟨w.heap.size, 0, none⟩ = some (.pointer (some ⟨b, 0, none⟩)) := by simp
  have hsA : (w.alloc (.cells #[.pointer (some ⟨b, 0, none⟩)] 47)).heap.size = w.heap.size + 1 := by simp
  have hownA : (w.alloc (.cells #[.pointer (some ⟨b, 0, none⟩)] 47)).ownsMap Try.prog 9 ptrR (μ q) n D0 := hown.kept (World.grownBy_alloc w _ none) (by simp)
  clear hkd hob c3
  go_enter Try.func42, Try.ntmps42
  generalize hwA : w.alloc (.cells #[.pointer (some ⟨b, 0, none⟩)] 47) = wA at *
  have HS : Keep (wA.heap.size = w.heap.size + 1) := ⟨hsA⟩
  have hTA := hT.below hal
  clear hsA
  go_wp2_with (first
    | (at_range; refine wpList_range_own _ rfl _ 54 rfl 9 47 strKeyed Try.underlying54 ptrR (μ q) n _ rfl hownA ?_; intro w0 hrg0 hg0 hs0))
  go_frame
  clear hwA
  have HS0 : Keep (w0.heap.size = wA.heap.size + 1) := ⟨hs0⟩
  clear hs0
  go_loopw [3] (fun v wr => ∃ (left : Lit → Bool) (cnt : Nat) (ss : List (List UInt8)), wr.ranges Try.prog 9 ptrR (μ q) wA.heap.size n D0 left cnt ∧ ss.length + cnt ≤ Maps.size D0 ∧ wr.ownsRow w0.heap.size 9 1 v ss.length (ss.map encStr) ∧ Go.Collected D0 left ss ∧ RowKit.Below wA.heap.size wA wr ∧ w0.heap.size ≤ wr.heap.size)
    (fun _ wr => wr.rangeLeft (μ q) wA.heap.size)
  case atStart =>
    exact ⟨_, _, [], hrg0, by simp, World.ownsRow_nil _ _ _ _, Go.Collected.start D0, (Below.refl _ _).grown hg0 (Nat.le_refl _) (fun j hj => by cases hj), Nat.le_refl _⟩
  case round =>
    obtain ⟨left, cnt, ss, hrg, hcs, hrow, hC, hnx, hw0⟩ := hrel
    clear hrg0 hg0
    go_wp2_with (first
      | (at_next; refine wpList_next_ranges _ rfl _ rfl 9 strKeyed ptrR encStr ptrV (fun key kl hk => by obtain ⟨x, hx, _⟩ := Maps.keyOf_str Try.underlying9 hk; exact ⟨x, hx⟩) ptr_inv (μ q) wA.heap.size n _ _ _ rfl hrg ?_ ?_))
    · intro hc0 hl0
      have hTr : TreeM lo N wr β μ φ := hTA.below hnx
      have hbxr : wr.cell? ⟨w.heap.size, 0, none⟩ = some (.pointer (some ⟨b, 0, none⟩)) := (hnx.cell (p := ⟨w.heap.size, 0, none⟩) (by have := HS.out; simp; omega)).trans hbx
      have hends := keys_end hC hl0 hat hhas (fun x h => (hx x h).1)
      have hBw : Below w.heap.size w wr := hal.trans (hnx.mono hal.size)
      have HE : Keep ((ss.map mkB).Nodup ∧ ∀ x, x ∈ ss.map mkB ↔ β (q ++ [x]) ≠ none) := ⟨hends⟩
      have hl : ss.length ≤ 100000 := by omega
      clear hends hrg hhas hat hC hownA hown hbl
      by_cases hss : ss = []
      · obtain ⟨ad, cap, rfl⟩ := owns_slice hrow
        subst hss
        have hc := sort_none ad cap (.func (.func 59) #[] #[.pointer (some ⟨w.heap.size, 0, none⟩)]) wr
        simp only [List.length_nil]
        go_wp2_with (go_at_call 58; refine hc.mono ?_; rintro e w' ⟨rfl, rfl⟩)
        go_ret
        exact ⟨ad, cap, [], rfl, .inl rfl, ⟨fun x => by simpa using HE.out.2 x, List.Pairwise.nil⟩, hBw, Nat.zero_le _⟩
      · rcases hrow.2 with ⟨_, h0⟩ | ⟨g, cap, cur, rfl, hbase, hb2, h1, h2, h3, h4⟩
        · exact absurd (List.eq_nil_of_length_eq_zero h0) hss
        have hgl : g < wr.heap.size := (Array.getElem?_eq_some_iff.1 hb2).1
        have hgw : w.heap.size < g := by have := HS.out; have := HS0.out; omega
        have hcells : ∀ i (h : i < (ss.map mkB).length), wr.cell? ⟨g, i, none⟩ = some (.string (ss.map mkB)[i]) ∧ wr.frozen? ⟨g, i, none⟩ = false := fun i h => by
          have h' : i < ss.length := by simpa using h
          refine ⟨?_, hrow.frozenAt i⟩
          rw [hrow.cellAt i (by omega)]
          simp [h', encStr, mkB]
        have hc := sort_names lo N wr β μ φ hTr q b w.heap.size g cap hb hx hbxr (by omega) (fun h => by have := (hT.lt h).2; omega) hgl (ss.map mkB) (by simpa using hss) HE.out.1 HE.out.2 (by simpa using hl) hcells
        rw [List.length_map] at hc
        clear hcells hrow hb2 h1 h2 h3 h4
        go_wp2_with (go_at_call 58; refine hc.mono ?_; rintro e w' ⟨rfl, ns, hno, hnl, hcell, hgr⟩)
        go_ret
        refine ⟨some ⟨g, 0, none⟩, cap, ns, by rw [hnl]; rfl, .inr ⟨g, rfl, by omega, Nat.lt_of_lt_of_le hgl hgr.size, hcell⟩, hno, hBw.grown hgr hBw.size (fun j hj => by cases hj; omega), by omega⟩
    · intro x c kl yd yp w2 cnt2 hkey hlk hv hat2 hrg2 hlt hg2 hs2 hen
      obtain ⟨x', ex, rfl, _⟩ := Maps.keyOf_str Try.underlying9 hkey
      obtain rfl : x = x' := encStr_inj ex
      have hne : some wA.heap.size ≠ u3.ownBlock := row_ne_low hrow (by have := HS0.out; omega)
      have hrow2 := hrow.kept hg2 (Or.inr hne.symm)
      have hw2 : w0.heap.size ≤ w2.heap.size := by omega
      clear hs2
      go_wp2_with (first
        | (at_builtin; refine wpList_append_own _ rfl _ _ 68 rfl w0.heap.size 9 i0 (.string ⟨#[]⟩) 1 16 Try.underlying68 hi hz0 hz1 hz2 rfl (by decide) _ _ _ rfl (hrow2.alloc _) ⟨w2.heap.size, 0, none⟩ 1 1 [encStr x] rfl rfl (cell_one_new _ _ _) (by simp [Value.oneCell', encStr]) (by unfold maxLen at *; omega) (by omega) (by simp; omega) ?_; intro v' w3 hown' hg3 hnil3; go_frame))
      have hml : μ q < w0.heap.size := by have := HS.out; have := HS0.out; omega
      have hrg3 := (hrg2.alloc _).kept hg3 (row_ne_low hrow hml) hne
      have hnx2 := hnx.grown hg2 hnx.size (fun j hj => by cases hj; exact Nat.le_refl _)
      have hnx3 := (hnx2.alloc hnx2.size (.cells #[encStr x] 9)).grown hg3 (by have := hnx2.size; simp; omega) (fun j hj => by have := owns_row_ge hrow hj; have := HS0.out; omega)
      go_roundw
      case rel => exact ⟨_, cnt2, ss ++ [x], hrg3, by simp; omega, by simpa using hown', hC.step hlk hat2, hnx3, by have := hg3.size; simp at this; omega⟩
      case measure => rw [hrg3.left_eq, hrg.left_eq]; exact hlt
end Go.Proofs.Ytiadabmbfpfbjaa

namespace Go.Proofs.Ytiadabmbfpfbjaa
open Go.RowKit

def TellPost (φ : Way → Option (ByteArray × Bool)) (p0 r : Way) (acc : List En) (B : Nat) (v : Value) (w : World) (e : Ending) (w' : World) : Prop :=
  ∃ v' us, e = .returned v' ∧ Told φ p0 r acc us ∧ w'.ownsRow B 37 3 v' us.length (ecells us) ∧ Grow w w' v v'

theorem Grow.of_below {w w' : World} {v : Value} (h : Below w.heap.size w w') : Grow w w' v v := ⟨⟨h.os, h.tape, h.output, h.size, fun k hk _ => h.block k hk⟩, .inl rfl⟩

theorem tree_grow {lo N B : Nat} {w w' : World} {β : Way → Option Nat} {μ : Way → Nat} {φ : Way → Option (ByteArray × Bool)} {v v' : Value} {n : Nat} {xs : List Value} (hT : TreeM lo N w β μ φ) (hTB : ∀ k, TreeB β μ k → k < B) (hrow : w.ownsRow B 37 3 v n xs) (hg : Grow w w' v v') : TreeM lo N w' β μ φ :=
  hT.turn (fun k hk => hg.1.block k (hT.lt hk).2 (fun e => by
    have h1 := owns_row_ge hrow e.symm
    have h2 := hTB k hk
    omega))

theorem names_keep {B : Nat} {w1 w' : World} {v v' : Value} {ad : Option Addr} {ns : List ByteArray} (h : NamesAt B w1 ad ns) (hg : Grow w1 w' v v') (hv : ∀ k, v.ownBlock = some k → k < B) : NamesAt B w' ad ns := by
  rcases h with h | ⟨g, ha, h1, h2, h3⟩
  · exact .inl h
  · refine .inr ⟨g, ha, h1, Nat.lt_of_lt_of_le h2 hg.1.size, fun i hi => ?_⟩
    rw [World.cell?_of_block (hg.1.block g h2 (fun e => by have := hv g e.symm; omega))]
    exact h3 i hi
theorem names_at {B : Nat} {w : World} {ad : Option Addr} {ns : List ByteArray} (h : NamesAt B w ad ns) {k : Nat} (hk : k < ns.length) : ∃ g, ad = some ⟨g, 0, none⟩ ∧ w.cell? ⟨g, k, none⟩ = some (.string ns[k]) := by
  rcases h with h | ⟨g, ha, _, _, h3⟩
  · subst h; simp at hk
  · exact ⟨g, ha, h3 k hk⟩

set_option maxRecDepth 100000 in
set_option maxHeartbeats 8000000 in
theorem tell_any (lo N K : Nat) (hN : N ≤ 90000) (hK : K ≤ 100000) (β : Way → Option Nat) (μ : Way → Nat) (φ : Way → Option (ByteArray × Bool)) (hG : GoodT K β φ) (p0 : Way) (B : Nat) (hTB : ∀ k, TreeB β μ k → k < B) :
    ∀ (d : Nat) (r : Way) (b : Nat) (f : ByteArray) (acc : List En) (v : Value) (w : World), TreeM lo N w β μ φ → β (p0 ++ r) = some b → 7 ≤ (p0 ++ r).length + d → Front f r → f.size ≤ 21 * r.length → AccOk φ p0 r acc → B ≤ w.heap.size → w.ownsRow B 37 3 v acc.length (ecells acc) →
      Calls Try.prog 27 #[.pointer (some ⟨b, 0, none⟩), v, .string f] w fun e w' => TellPost φ p0 r acc B v w e w'
  | 0, r, b, f, acc, v, w, hT, hb, hd, hf, hfs, hA, hB, hrow => by
    have := hG.deep (p0 ++ r) (by rw [hb]; simp)
    omega
  | d + 1, r, b, f, acc, v, w, hT, hb, hd, hf, hfs, hA, hB, hrow => by
    have ih := tell_any lo N K hN hK β μ φ hG p0 B hTB d
    obtain ⟨i0, hi, hz0, hz1, hz2⟩ := info_parts Try.infoEntry
    have hrl : r.length ≤ 6 := by have := hG.deep (p0 ++ r) (by rw [hb]; simp); simp at this; omega
    have hv : ∀ k, v.ownBlock = some k → k < w.heap.size := fun k hk => own_lt hrow hk
    have HB : Keep (B ≤ w.heap.size) := ⟨hB⟩
    clear hB
    go_enter Try.func27, Try.ntmps27
    go_wp2_with fail
    refine (names_any lo N w β μ φ hT hN (p0 ++ r) b hb (fun x hx => hG.name _ x hx)).mono ?_
    rintro e w1 ⟨ad, cap, ns, rfl, hna, hno, hb1, hnl⟩
    have hrow1 := owns_below hrow hb1
    have hT1 := hT.below hb1
    have HS1 : Keep (w.heap.size ≤ w1.heap.size) := ⟨hb1.size⟩
    have HB1 : Keep (Below w.heap.size w w1) := ⟨hb1⟩
    clear hrow hT hb1
    go_wp2_with fail
    go_loopw [1, 13] (fun v' i wr => ∃ (k : Nat) (us : List En), i = .int .i64 k ∧ k ≤ ns.length ∧ Mid φ p0 r acc (ns.take k) us ∧ wr.ownsRow B 37 3 v' us.length (ecells us) ∧ Grow w1 wr v v') (fun _ i _ => ns.length - (intOf i).toNat)
    case atStart => exact ⟨0, acc, rfl, Nat.zero_le _, Mid.start hA, hrow1, Grow.refl _ _⟩
    case round =>
      obtain ⟨k, us, rfl, hk, hM, hrow, hgr⟩ := hrel
      have hTr := tree_grow hT1 hTB hrow1 hgr
      by_cases hlt : k < ns.length
      · have hlt' : (k : Int) < ns.length := by omega
        obtain ⟨g, rfl, hcn⟩ := names_at (names_keep hna hgr hv) hlt
        have hkid := (hno.mem _).1 (List.getElem_mem hlt)
        obtain ⟨c, hc⟩ := Option.ne_none_iff_exists'.1 hkid
        obtain ⟨hnm1, hnm2⟩ := hG.name _ _ hkid
        obtain ⟨hob, _, _, hkd⟩ := hTr.node _ b hb
        obtain ⟨_, c3, _, _, _⟩ := node_cells hob
        obtain ⟨hoc, _, _, _⟩ := hTr.node _ c hc
        obtain ⟨e0, _, _, e1, e2⟩ := node_cells hoc
        have hlk := hkd.look ns[k] (by omega)
        rw [hc] at hlk
        unfold ptrV at hlk
        have hBr : B ≤ wr.heap.size := Nat.le_trans HB.out (Nat.le_trans HS1.out hgr.1.size)
        have hfew := tells_few hG hM.asc (hM.tells hA)
        have HM : Keep (Mid φ p0 r acc (ns.take k) us) := ⟨hM⟩
        have HNO : Keep (NamesOf β φ (p0 ++ r) ns) := ⟨hno⟩
        have HF : Keep (Front f r) := ⟨hf⟩
        have HFS : Keep (f.size ≤ 21 * r.length) := ⟨hfs⟩
        have hfb : f.size ≤ 126 := by omega
        have hcat : ¬ 9223372036854775807 < f.size + ns[k].size := by omega
        have HX : Keep ((47 : UInt8) ∉ ns[k].data.toList) := ⟨hnm2⟩
        have HKID : Keep (β (p0 ++ r ++ [ns[k]]) = some c) := ⟨hc⟩
        clear hob hkd hoc hM hno hf hfs hkid hnm2 hc
        cases hφ : φ (p0 ++ r ++ [ns[k]]) with
        | some ft =>
          obtain ⟨t, rn⟩ := ft
          have htx := hG.text _ t rn hφ
          rw [hφ] at e0 e1 e2
          simp only [Option.map_some, Option.getD_some, Option.isSome_some] at e0 e1 e2
          have HPHI : Keep (φ (p0 ++ r ++ [ns[k]]) = some (t, rn)) := ⟨hφ⟩
          clear hφ
          go_wp2_with fail
          refine (entry_any (f ++ ns[k]) t rn wr (by rw [ByteArray.size_append]; omega) (by omega)).mono ?_
          rintro e w2 ⟨rfl, hb2⟩
          have hrow2 := owns_below hrow hb2
          have hg2 : Grow wr w2 u1 u1 := Grow.of_below hb2
          have hB2 : B ≤ w2.heap.size := Nat.le_trans hBr hb2.size
          have hus : us.length ≤ 100000 := by omega
          obtain ⟨en, hen⟩ : ∃ en : En, en = ⟨f ++ ns[k], t, rn⟩ := ⟨_, rfl⟩
          have he1 : f ++ ns[k] = en.path := by rw [hen]
          have he2 : t = en.text := by rw [hen]
          have he3 : rn = en.runs := by rw [hen]
          have HMF : Keep (Mid φ p0 r acc (ns.take (k + 1)) (us ++ [en])) := ⟨by rw [hen]; exact HM.out.file hG hA HNO.out hlt HF.out HPHI.out⟩
          rw [he1, he2, he3]
          clear hen he1 he2 he3 hb2 hrow hfew e0 e1 e2 hlk c3 hcn HPHI
          go_wp2_with (first
            | (at_builtin; refine wpList_append_lies _ rfl _ _ 23 rfl B 37 i0 _ 3 40 Try.underlying23 hi hz0 hz1 hz2 rfl (by decide) u1 us.length (ecells us) rfl (hrow2.alloc _) ⟨w2.heap.size, 0, none⟩ 1 1 (ecell en) rfl rfl (news_3 w2 en _ _ rfl) (one_3 en) (by omega) (by unfold maxLen; omega) (by omega) (by simp; omega) (w2.heap.size + 1) (by simp) ?_; intro g2 cap2 w3 hown3 hgrow3 hat3 hlt3))
          have hg3 : Grow w2 w3 u1 (.slice (some ⟨g2, 0, none⟩) (us.length + 1) cap2) := Grow.alloc _ ⟨hgrow3, by
            rcases hat3 with h | h
            · exact .inl h.symm
            · exact .inr ⟨g2, rfl, by rw [h]; simp⟩⟩
          have hg4 := hgr.trans (hg2.trans hg3)
          have hown4 : w3.ownsRow B 37 3 (.slice (some ⟨g2, 0, none⟩) (us.length + 1) cap2) (us ++ [en]).length (ecells (us ++ [en])) := by
            rw [ecells_snoc, List.length_append]; exact hown3
          clear hown3 hgrow3 hat3 hg2 hg3
          go_wp2
          go_roundw
          case rel => exact ⟨k + 1, us ++ [en], by congr 1, hlt, HMF.out, hown4, hg4⟩
          case measure => simp only [intOf]; omega
        | none =>
          rw [hφ] at e0
          have HPHI : Keep (φ (p0 ++ r ++ [ns[k]]) = none) := ⟨hφ⟩
          clear hφ
          have hcat2 : ¬ 9223372036854775807 < (f ++ ns[k]).size + 1 := by rw [ByteArray.size_append]; omega
          have hcall := ih (r ++ [ns[k]]) c (f ++ ns[k] ++ ⟨#[47]⟩) us u1 wr hTr (by rw [← List.append_assoc]; exact HKID.out) (by simp at hd ⊢; omega) (front_step HF.out HX.out) (by
            have := HFS.out
            rw [ByteArray.size_append, ByteArray.size_append, show (⟨#[47]⟩ : ByteArray).size = 1 from rfl]; simp; omega) (HM.out.acc hG hA HNO.out hlt) hBr hrow
          clear hfew ih
          go_wp2_with fail
          refine hcall.mono ?_
          rintro e w2 ⟨v2, us2, rfl, htold, hrow2, hgr2⟩
          have HMD : Keep (Mid φ p0 r acc (ns.take (k + 1)) us2) := ⟨HM.out.dir hlt HPHI.out htold⟩
          have hg4 := hgr.trans hgr2
          clear hcall htold
          go_wp2
          go_roundw
          case rel => exact ⟨k + 1, us2, by congr 1, hlt, HMD.out, hrow2, hg4⟩
          case measure => simp only [intOf]; omega
      · obtain rfl : k = ns.length := by omega
        rw [List.take_length] at hM
        have hgw := (Grow.of_below (v := v) HB1.out).trans hgr
        have htold := hM.done hG hno
        go_wp2
        go_ret
        exact ⟨_, us, rfl, htold, hrow, hgw⟩
end Go.Proofs.Ytiadabmbfpfbjaa

namespace Go.Proofs.Ytiadabmbfpfbjaa
open Go.RowKit

theorem told_start {lo N : Nat} {w : World} {β : Way → Option Nat} {μ : Way → Nat} {φ : Way → Option (ByteArray × Bool)} (hT : TreeM lo N w β μ φ) {B : Nat} (hB : w.heap.size ≤ B) : ∀ k, TreeB β μ k → k < B := fun _ hk => Nat.lt_of_lt_of_le (hT.lt hk).2 hB

theorem below_grow {w w' : World} {v v' : Value} (h : Grow w w' v v') (hv : v.ownBlock = none) : Below w.heap.size w w' := by
  obtain ⟨g, _⟩ := h
  rw [hv] at g
  exact ⟨g.os, g.tape, g.output, g.size, fun k hk => g.block k hk (by simp)⟩

def ToldPost (φ : Way → Option (ByteArray × Bool)) (p0 : Way) (w : World) (e : Ending) (w' : World) : Prop :=
  ∃ ad cap us, e = .returned (.slice ad us.length cap) ∧ Told φ p0 [] [] us ∧ EL w.heap.size w' ad us ∧ Below w.heap.size w w'

theorem tellAll_any (lo N K : Nat) (hN : N ≤ 90000) (hK : K ≤ 100000) (β : Way → Option Nat) (μ : Way → Nat) (φ : Way → Option (ByteArray × Bool)) (hG : GoodT K β φ) (p0 : Way) (b : Nat) (w : World) (hT : TreeM lo N w β μ φ) (hb : β p0 = some b) :
    Calls Try.prog 27 #[.pointer (some ⟨b, 0, none⟩), .slice none 0 0, .string ⟨#[]⟩] w fun e w' => ToldPost φ p0 w e w' := by
  refine (tell_any lo N K hN hK β μ φ hG p0 w.heap.size (told_start hT (Nat.le_refl _)) 7 [] b ⟨#[]⟩ [] (.slice none 0 0) w hT (by rw [List.append_nil]; exact hb) (by omega) front_nil (Nat.zero_le _) (acc_nil φ p0 []) (Nat.le_refl _) (World.ownsRow_nil _ _ _ _)).mono ?_
  rintro e w' ⟨v, us, rfl, ht, hrow, hgr⟩
  obtain ⟨ad, cap, rfl⟩ := owns_slice hrow
  exact ⟨ad, cap, us, rfl, ht, el_of_row hrow, below_grow hgr rfl⟩
end Go.Proofs.Ytiadabmbfpfbjaa

namespace Go.Proofs.Ytiadabmbfpfbjaa
open Go.RowKit

def TreePost (φ : Way → Option (ByteArray × Bool)) (w : World) (e : Ending) (w' : World) : Prop :=
  ∃ us, Told φ [] [] [] us ∧ Below w.heap.size w w' ∧ ((100 < us.length ∧ TreeR [] 4 w.heap.size e w') ∨ (us.length ≤ 100 ∧ TreeR us 0 w.heap.size e w'))

set_option maxRecDepth 100000 in
set_option maxHeartbeats 2000000 in
theorem tree_any (lo N K : Nat) (hN : N ≤ 90000) (hK : K ≤ 100000) (β : Way → Option Nat) (μ : Way → Nat) (φ : Way → Option (ByteArray × Bool)) (hG : GoodT K β φ) (root : Nat) (w : World) (hT : TreeM lo N w β μ φ) (hr : β [] = some root) :
    Calls Try.prog 21 #[.pointer (some ⟨root, 0, none⟩)] w fun e w' => TreePost φ w e w' := by
  have hal : Below w.heap.size w (w.alloc (.cells #[.slice none 0 0] 25)) := (Below.refl _ _).alloc (Nat.le_refl _) _
  have k0 : (w.alloc (.cells #[.slice none 0 0] 25)).cell? ⟨w.heap.size, 0, none⟩ = some (.slice none 0 0) := by simp
  have kf : (w.alloc (.cells #[.slice none 0 0] 25)).frozen? ⟨w.heap.size, 0, none⟩ = false := by simp
  have ks : w.heap.size < (w.alloc (.cells #[.slice none 0 0] 25)).heap.size := by simp
  have kw : w.heap.size + 1 ≤ (w.alloc (.cells #[.slice none 0 0] 25)).heap.size := by simp
  have hcall := tellAll_any lo N K hN hK β μ φ hG [] root _ (hT.below hal) hr
  go_enter Try.func21, Try.ntmps21
  go_wp2_with fail
  refine hcall.mono ?_
  rintro e w1 ⟨ad, cap, us, rfl, ht, hel, hb1⟩
  replace k0 := cell_later hb1 k0
  replace kf : w1.frozen? ⟨w.heap.size, 0, none⟩ = false := (hb1.frozen (p := ⟨w.heap.size, 0, none⟩) ks).trans kf
  have hbw := hal.trans (hb1.mono hal.size)
  replace hel := hel.mono kw
  clear hcall hb1 hal kw ks
  by_cases h100 : (100 : Int) < us.length
  · go_wp2
    refine bodyPost_ret (v := TreeV none ([] : List En).length 0 4) ?_ rfl ⟨us, ht, hbw.setCell (p := ⟨w.heap.size, 0, none⟩) (Nat.le_refl _) _, .inl ⟨by omega, none, 0, rfl, EL.nil _ _ _⟩⟩
    go_light
    simp [results, Try.results21, go_sem, TreeV, k0]
  · go_wp2
    refine bodyPost_ret (v := TreeV ad us.length cap 0) ?_ rfl ⟨us, ht, hbw.setCell (p := ⟨w.heap.size, 0, none⟩) (Nat.le_refl _) _, .inr ⟨by omega, ad, cap, rfl, ?_⟩⟩
    · go_light
      simp [results, Try.results21, go_sem, TreeV, k0]
    · have h2 : EL (w.heap.size + 1) (w1.setCell ⟨w.heap.size, 0, none⟩ (.slice ad us.length cap)) ad us := hel.grown (row := some w.heap.size) ⟨rfl, rfl, rfl, by simp, fun k _ hk => Below.heap_setCell _ _ _ _ (fun e => hk (by rw [e]))⟩ (fun g _ hg _ e => by cases e; omega)
      exact h2.mono (by omega)
end Go.Proofs.Ytiadabmbfpfbjaa
