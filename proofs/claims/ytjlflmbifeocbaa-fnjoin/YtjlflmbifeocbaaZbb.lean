/-
  ChgN, PatI, Grow, PatV, CBx, StayC, JnB: laid as one text.
-/
import Derived.Test.YtjlflmbifeocbaaZba
import Derived.Test.YtjlflmbifeocbaaTreeP
import Derived.Deep.QuietTactic
import Derived.BigQuiet
import Derived.Deep.DeepCutAuto
import Derived.Test.YtjlflmbifeocbaaOutL
import Derived.Test.YtjlflmbifeocbaaChgI
namespace Go.Proofs.Ytjlflmbifeocbaa
open Go.RowKit

set_option maxRecDepth 20000 in
set_option maxHeartbeats 1000000 in
theorem change_none (h : Nat) (p : ByteArray) (f g : Fl) (w : World) (hs : sameF f g = true) :
    Calls Try.prog 31 #[.pointer (some ⟨h, 0, none⟩), .string p, flV f, flV g] w fun e w' => e = .returned (.tuple #[]) ∧ Below w.heap.size w w' := by
  unfold flV
  have hal : Below w.heap.size w ((w.alloc (.cells #[.bool f.there, .string f.text, .bool f.runs] 54)).alloc (.cells #[.bool g.there, .string g.text, .bool g.runs] 54)) := ((Below.refl _ _).alloc (Nat.le_refl _) _).alloc (by simp) _
  obtain ⟨h1, h2, h3⟩ : f.there = g.there ∧ f.text.toList = g.text.toList ∧ f.runs = g.runs := by simpa [sameF, and_assoc] using hs
  rw [h1, h3] at hal
  go_enter Try.func31, Try.ntmps31
  go_wp2
  refine bodyPost_end (v := .tuple #[]) ?_ rfl ⟨rfl, hal⟩
  go_light
  simp [results, Try.results31, go_sem]
end Go.Proofs.Ytjlflmbifeocbaa

namespace Go.Proofs.Ytjlflmbifeocbaa
open Go.RowKit

set_option maxRecDepth 20000 in
set_option maxHeartbeats 1000000 in
theorem l6FileOk_any (f : Fl) (w : World) :
    Calls Try.prog 67 #[.agg #[.bool f.there, .string f.text, .bool f.runs]] w fun e w' => e = .returned (.bool (flOk f)) ∧ Below w.heap.size w w' := by
  have hal : Below w.heap.size w (w.alloc (.cells #[.bool f.there, .string f.text, .bool f.runs] 54)) := (Below.refl _ _).alloc (Nat.le_refl _) _
  by_cases hs : (f.text.size : Int) ≤ 1500
  · have hs' : f.text.size ≤ 1500 := by omega
    cases ht : f.there with
    | true =>
      rw [ht] at hal
      go_enter Try.func67, Try.ntmps67
      go_wp2
      go_ret
      exact ⟨by simp [flOk, ht, hs'], hal⟩
    | false =>
      rw [ht] at hal
      cases he : f.text.toList.isEmpty with
      | true =>
        have he' : f.text.toList = [] := by simpa using he
        go_enter Try.func67, Try.ntmps67
        go_wp2
        go_ret
        exact ⟨by simp [flOk, ht, hs', he'], hal⟩
      | false =>
        have he' : ¬ f.text.toList = [] := by simpa using he
        go_enter Try.func67, Try.ntmps67
        go_wp2
        go_ret
        exact ⟨by simp [flOk, ht, hs', he'], hal⟩
  · have hs' : ¬ f.text.size ≤ 1500 := by omega
    go_enter Try.func67, Try.ntmps67
    go_wp2
    go_ret
    exact ⟨by simp [flOk, hs'], hal⟩

set_option maxRecDepth 20000 in
set_option maxHeartbeats 4000000 in
theorem isChange_any (c : Ch) (w : World) (hs : c.path.size ≤ 1099511627776) :
    Calls Try.prog 42 #[chV c] w fun e w' => e = .returned (.bool (chOk c)) ∧ Below w.heap.size w w' := by
  unfold chV
  have hal : Below w.heap.size w (w.alloc (.cells #[.string c.path, .bool c.old.there, .string c.old.text, .bool c.old.runs, .bool c.new.there, .string c.new.text, .bool c.new.runs] 68)) := (Below.refl _ _).alloc (Nat.le_refl _) _
  have hc : ChAt (w.alloc (.cells #[.string c.path, .bool c.old.there, .string c.old.text, .bool c.old.runs, .bool c.new.there, .string c.new.text, .bool c.new.runs] 68)) w.heap.size 0 c := by simp [ChAt]
  go_enter Try.func42, Try.ntmps42
  go_wp2_with fail
  refine (implPath_any c.path hs _).mono ?_
  rintro e w1 ⟨rfl, hb1⟩
  have hbw := hal.trans (hb1.mono hal.size)
  replace hc := hc.later hb1
  obtain ⟨d0, d1, d2, d3, d4, d5, d6⟩ := hc
  have HC : Keep (ChAt w1 w.heap.size 0 c) := ⟨⟨d0, d1, d2, d3, d4, d5, d6⟩⟩
  simp only [Nat.zero_add] at d0 d1 d2 d3 d4 d5 d6
  cases hp : pathOk pathB c.path with
  | false =>
    go_wp2
    go_ret
    exact ⟨by simp [chOk, hp], hbw⟩
  | true =>
    go_wp2_with fail
    refine (isFile_any c.old _).mono ?_
    rintro e w2 ⟨rfl, hb2⟩
    have hbw2 := hbw.trans (hb2.mono hbw.size)
    clear d0 d1 d2 d3 d4 d5 d6
    obtain ⟨d0, d1, d2, d3, d4, d5, d6⟩ := HC.out.later hb2
    have HC2 : Keep (ChAt w2 w.heap.size 0 c) := ⟨⟨d0, d1, d2, d3, d4, d5, d6⟩⟩
    simp only [Nat.zero_add] at d0 d1 d2 d3 d4 d5 d6
    cases ho : flOk c.old with
    | false =>
      go_wp2
      go_ret
      exact ⟨by simp [chOk, hp, ho], hbw2⟩
    | true =>
      go_wp2_with fail
      refine (isFile_any c.new _).mono ?_
      rintro e w3 ⟨rfl, hb3⟩
      have hbw3 := hbw2.trans (hb3.mono hbw2.size)
      clear d0 d1 d2 d3 d4 d5 d6
      obtain ⟨d0, d1, d2, d3, d4, d5, d6⟩ := HC2.out.later hb3
      simp only [Nat.zero_add] at d0 d1 d2 d3 d4 d5 d6
      cases hnw : flOk c.new with
      | false =>
        go_wp2
        go_ret
        exact ⟨by simp [chOk, hp, ho, hnw], hbw3⟩
      | true =>
        by_cases h1 : c.old.there = c.new.there
        · by_cases h2 : c.old.text.toList = c.new.text.toList
          · by_cases h3 : c.old.runs = c.new.runs
            · go_wp2
              go_ret
              exact ⟨by simp [chOk, hp, ho, hnw, sameF, h1, h2, h3], hbw3⟩
            · go_wp2
              go_ret
              exact ⟨by simp [chOk, hp, ho, hnw, sameF, h1, h2, h3], hbw3⟩
          · go_wp2
            go_ret
            exact ⟨by simp [chOk, hp, ho, hnw, sameF, h1, h2], hbw3⟩
        · go_wp2
          go_ret
          exact ⟨by simp [chOk, hp, ho, hnw, sameF, h1], hbw3⟩
end Go.Proofs.Ytjlflmbifeocbaa

namespace Go.Proofs.Ytjlflmbifeocbaa
open Go.RowKit

set_option maxHeartbeats 1000000 in
theorem isEntry_any (e : En) (hs : e.path.size ≤ 1099511627776) (w : World) :
    Calls Try.prog 69 #[.agg #[.string e.path, .string e.text, .bool e.runs]] w fun x w' => x = .returned (.bool (enOk e)) ∧ Below w.heap.size w w' := by
  have hal : Below w.heap.size w (w.alloc (.cells #[.string e.path, .string e.text, .bool e.runs] 57)) := (Below.refl _ _).alloc (Nat.le_refl _) _
  cases hp : pathOk pathB e.path with
  | false =>
    go_enter Try.func69, Try.ntmps69
    go_wp2_with fail
    refine (implPath_any e.path hs _).mono ?_
    rintro x w1 ⟨rfl, hb⟩
    rw [hp]
    go_wp2
    go_ret
    exact ⟨retB (by simp [enOk, hp]), hal.trans (hb.mono hal.size)⟩
  | true =>
    go_enter Try.func69, Try.ntmps69
    go_wp2_with fail
    refine (implPath_any e.path hs _).mono ?_
    rintro x w1 ⟨rfl, hb⟩
    rw [hp]
    have x1 := hb.cell (p := ⟨w.heap.size, 1, none⟩) (by simp)
    simp at x1
    go_wp2
    go_ret
    refine ⟨retB ?_, hal.trans (hb.mono hal.size)⟩
    have : ((e.text.size : Int) ≤ 1500) ↔ e.text.size ≤ 1500 := by omega
    simp [enOk, hp, this]

theorem tree_new (w : World) : TreeM w.heap.size 0 ((w.alloc (.map #[] 0)).alloc (.cells #[.bool false, .string ⟨#[]⟩, .bool false, .map (some w.heap.size)] 117)) (fun q => if q = [] then some (w.heap.size + 1) else none) (fun _ => w.heap.size) (fun _ => none) := by
  refine ⟨fun p b hb => ?_, fun p q b hp hq => ?_, fun p q hp hq _ => ?_, fun p x h => ?_, by simp⟩
  · by_cases e : p = []
    · subst e
      simp at hb
      subst hb
      refine ⟨?_, by omega, Nat.le_refl _, ?_⟩
      · have := World.alloc_heap_new (w.alloc (.map #[] 0)) (nodeObj none w.heap.size)
        rw [World.size_alloc] at this
        exact this
      · have hm : (w.alloc (.map #[] 0)).ownsMap Try.prog 9 ptrR w.heap.size 0 (.map []) := World.ownsMap_made _ _ _ _
        obtain ⟨es, cl, m1, m2⟩ := hm
        refine ⟨0, .map [], ⟨es, cl, (Below.heap_alloc _ _ _ (by simp)).trans m1, m2⟩, Nat.le_refl _, fun x _ => ?_, ⟨fun _ x => by simp, fun _ => rfl⟩, fun y hy => by rw [Maps.has_eq] at hy; simp at hy⟩
        simp
        rfl
    · simp [e] at hb
  · by_cases e1 : p = [] <;> by_cases e2 : q = [] <;> simp [e1, e2] at hp hq ⊢
  · by_cases e1 : p = [] <;> by_cases e2 : q = [] <;> simp [e1, e2] at hp hq ⊢
  · simp at h

theorem path_pos {p : Int → Bool} {s : ByteArray} (h : pathOk p s = true) : 0 < s.size := by
  simp only [pathOk, Bool.and_eq_true] at h
  have h2 := h.2
  rw [partsB_cut] at h2
  simp only [List.all_cons, Bool.and_eq_true] at h2
  have h3 := h2.1
  simp only [partOk, Bool.and_eq_true, decide_eq_true_eq] at h3
  have := cutHead_size s
  omega

/-- What grow answers. -/
def GrowPost (ts : List En) (w : World) (e : Ending) (w' : World) : Prop :=
  Below w.heap.size w w' ∧
  ((ValidTs ts ∧ ∃ root, e = .returned (.tuple #[.pointer (some ⟨root, 0, none⟩), .bool true]) ∧ ∃ lo N β μ φ, w.heap.size ≤ lo ∧ N ≤ 1000 ∧ TreeM lo N w' β μ φ ∧ β [] = some root ∧ Shape ts β φ) ∨
   (¬ ValidTs ts ∧ e = .returned (.tuple #[.pointer none, .bool false])))

theorem parts6 {e : En} (h : enOk e = true) : (partsB e.path).length ≤ 6 ∧ e.path.size ≤ 126 := by
  simp only [enOk, Bool.and_eq_true] at h
  refine ⟨?_, pathOk_size h.1⟩
  have := h.1
  simp only [pathOk, Bool.and_eq_true, decide_eq_true_eq] at this
  exact this.1

set_option maxRecDepth 100000 in
set_option maxHeartbeats 4000000 in
theorem grow_any (a : Option Addr) (cap : Nat) (ts : List En) (w : World) (hts : ES w a ts) (hn : ts.length ≤ 1048576) (hz : ∀ e ∈ ts, e.path.size ≤ 1048576) :
    Calls Try.prog 55 #[.agg #[.slice a ts.length cap]] w fun e w' => GrowPost ts w e w' := by
  by_cases h100 : (100 : Int) < ts.length
  · go_enter Try.func55, Try.ntmps55
    go_wp2
    go_ret2
    exact ⟨(Below.refl _ _).alloc (Nat.le_refl _) _, .inr ⟨fun h => by have := h.1; omega, rfl⟩⟩
  have hbT : Below w.heap.size w (w.alloc (.cells #[.slice a ts.length cap] 25)) := (Below.refl _ _).alloc (Nat.le_refl _) _
  have htT := hts.below hbT
  have hcT : (w.alloc (.cells #[.slice a ts.length cap] 25)).cell? ⟨w.heap.size, 0, none⟩ = some (.slice a ts.length cap) := by simp
  have hsT : (w.alloc (.cells #[.slice a ts.length cap] 25)).heap.size = w.heap.size + 1 := by simp
  go_enter Try.func55, Try.ntmps55
  go_wp2_with fail
  have hnew := tree_new (w.alloc (.cells #[.slice a ts.length cap] 25))
  have hbN : Below (w.heap.size + 1) (w.alloc (.cells #[.slice a ts.length cap] 25)) (((w.alloc (.cells #[.slice a ts.length cap] 25)).alloc (.map #[] 0)).alloc (.cells #[.bool false, .string ⟨#[]⟩, .bool false, .map (some (w.heap.size + 1))] 117)) := ((Below.refl _ _).alloc (by simp) _).alloc (by simp) _
  rw [hsT] at hnew
  refine (newNode_any _).mono ?_
  rintro e w1 ⟨rfl, rfl⟩
  go_wp2
  have hwf : w.heap.size < w.heap.size + 1 := by omega
  obtain ⟨L, hL⟩ : ∃ L, L = w.heap.size + 1 := ⟨_, rfl⟩
  rw [← hL] at hnew hbN hsT hwf ⊢
  have HL : Keep (L = w.heap.size + 1) := ⟨hL⟩
  clear hL
  generalize hwN : ((w.alloc (.cells #[.slice a ts.length cap] 25)).alloc (.map #[] 0)).alloc (.cells #[.bool false, .string ⟨#[]⟩, .bool false, .map (some L)] 117) = Wn at *
  generalize hwT : w.alloc (.cells #[.slice a ts.length cap] 25) = wT at *
  have HS : Keep (wT.heap.size = L) := ⟨hsT⟩
  have hLe : wT.heap.size ≤ L := by omega
  have hLg : L ≤ wT.heap.size := by omega
  clear hsT hwN hwT
  have hsh : Shape (ts.take 0) (fun q => if q = [] then some (L + 1) else none) (fun _ => none) := Shape.start (fun q => by by_cases e : q = [] <;> simp [e]) (fun _ => rfl)
  go_loopw [15] (fun i wr => ∃ (k N : Nat) (β : Way → Option Nat) (μ : Way → Nat) (φ : Way → Option (ByteArray × Bool)), i = .int .i64 k ∧ k ≤ ts.length ∧ TreeM L N wr β μ φ ∧ N ≤ 6 * k ∧ β [] = some (L + 1) ∧ Shape (ts.take k) β φ ∧ Keep (∀ i, i < k → OkAt ts i) ∧ Below L wT wr) (fun i _ => ts.length - (intOf i).toNat)
  case atStart => exact ⟨0, 0, _, _, _, rfl, Nat.zero_le _, hnew, Nat.le_refl _, by simp, hsh, ⟨fun i hi => by omega⟩, hbN⟩
  case round =>
    clear hnew hbN hsh
    obtain ⟨k, N, β, μ, φ, rfl, hk, hT, hN, hroot, hS, hok, hB⟩ := hrel
    have hBT : Below wT.heap.size wT wr := HS.out ▸ hB
    have hE := htT.below hBT
    have hcT' := (hB.cell (p := ⟨w.heap.size, 0, none⟩) hwf).trans hcT
    have hBw := hbT.trans (hBT.mono hbT.size)
    by_cases hlt : k < ts.length
    · have hlt' : (k : Int) < ts.length := by omega
      obtain ⟨b, off, rfl, hc⟩ := hE.at hlt
      obtain ⟨x0, x1, x2⟩ := hc k hlt
      have hals : Below wr.heap.size wr (wr.alloc (.cells #[.string ts[k].path, .string ts[k].text, .bool ts[k].runs] 57)) := (Below.refl _ _).alloc (Nat.le_refl _) _
      have hcT2 := cell_later hals hcT'
      have hT2 := hT.below hals
      have hBw2 := hBw.trans (hals.mono hBw.size)
      have hBL2 := hB.alloc (Nat.le_trans hLg hBT.size) (.cells #[.string ts[k].path, .string ts[k].text, .bool ts[k].runs] 57)
      have hzk := hz ts[k] (List.getElem_mem hlt)
      have hprev : ∀ j (hj : j < ts.length), j + 1 = k → (wr.alloc (.cells #[.string ts[k].path, .string ts[k].text, .bool ts[k].runs] 57)).cell? ⟨b, off + j * 3, none⟩ = some (.string ts[j].path) := fun j hj _ => cell_later hals (hc j hj).1
      have hbad : ¬ OkAt ts k → ¬ ValidTs ts := fun h1 h2 => h1 (h2.2 k hlt)
      clear hc hE htT hts
      have hbnd : N ≤ 600 := by omega
      go_upto_region 7 with fail
      go_cut [33] (fun v wx => ∃ bl : Bool, v = .bool bl ∧ (bl = false ↔ ∀ j, j + 1 = k → ∀ hj : j < ts.length, Op.bytesLess ts[j].path.toList ts[k].path.toList = true) ∧ ∃ n, wx = (wr.alloc (.cells #[.string ts[k].path, .string ts[k].text, .bool ts[k].runs] 57)).drewN n)
      case first =>
        by_cases hk0 : k = 0
        · have hkd : decide (0 < k) = false := by simp [hk0]
          go_quiet (fail)
          go_wp2_with fail
          go_meet
          case rel => exact ⟨false, rfl, ⟨fun _ j hj => by omega, fun _ => rfl⟩, _, rfl⟩
        · obtain ⟨j, rfl⟩ : ∃ j, k = j + 1 := ⟨k - 1, by omega⟩
          have hp := hprev j (by omega) rfl
          have hk0' : (0 : Int) < ((j + 1 : Nat) : Int) := by omega
          have hkd : decide (0 < j + 1) = true := by simp
          have htot := less_total ts[j].path.toList ts[j + 1].path.toList
          have HT : Keep ((!(Op.bytesLess ts[j].path.toList ts[j + 1].path.toList)) = (Op.bytesLess ts[j + 1].path.toList ts[j].path.toList || ts[j + 1].path.toList == ts[j].path.toList)) := ⟨htot⟩
          clear htot
          go_quiet (fail)
          go_wp2_with fail
          go_meet
          case rel =>
            refine ⟨_, rfl, ?_, _, rfl⟩
            rw [← HT.out]
            constructor
            · intro h j' hj' hl
              obtain rfl : j' = j := by omega
              simpa using h
            · intro h
              have := h j rfl (by omega)
              rw [this]; rfl
      case rest =>
        obtain ⟨bl, rfl, hbl, nq, rfl⟩ := hcut
        have HB : Keep (bl = false ↔ ∀ j, j + 1 = k → ∀ hj : j < ts.length, Op.bytesLess ts[j].path.toList ts[k].path.toList = true) := ⟨hbl⟩
        clear hbl hprev
        have y0 : ((wr.alloc (.cells #[.string ts[k].path, .string ts[k].text, .bool ts[k].runs] 57)).drewN nq).cell? ⟨wr.heap.size, 0, none⟩ = some (.string ts[k].path) := by simp
        have y1 : ((wr.alloc (.cells #[.string ts[k].path, .string ts[k].text, .bool ts[k].runs] 57)).drewN nq).cell? ⟨wr.heap.size, 1, none⟩ = some (.string ts[k].text) := by simp
        have y2 : ((wr.alloc (.cells #[.string ts[k].path, .string ts[k].text, .bool ts[k].runs] 57)).drewN nq).cell? ⟨wr.heap.size, 2, none⟩ = some (.bool ts[k].runs) := by simp
        have hT5 : TreeM L N ((wr.alloc (.cells #[.string ts[k].path, .string ts[k].text, .bool ts[k].runs] 57)).drewN nq) β μ φ := hT2.turn (fun _ _ => rfl)
        have hB5 : Below L wT ((wr.alloc (.cells #[.string ts[k].path, .string ts[k].text, .bool ts[k].runs] 57)).drewN nq) := hBL2.trans ⟨rfl, rfl, rfl, Nat.le_refl _, fun _ _ => rfl⟩
        have hBw5 : Below w.heap.size w ((wr.alloc (.cells #[.string ts[k].path, .string ts[k].text, .bool ts[k].runs] 57)).drewN nq) := hBw2.trans ⟨rfl, rfl, rfl, Nat.le_refl _, fun _ _ => rfl⟩
        generalize (wr.alloc (.cells #[.string ts[k].path, .string ts[k].text, .bool ts[k].runs] 57)).drewN nq = W5 at *
        clear hBw2 hBL2 hT2 hcT2 hals x0 x1 x2 hBw hcT' hBT hB hT
        generalize wr.heap.size = be at *
        cases bl with
        | true =>
          go_wp2
          go_ret2
          refine ⟨hBw5, .inr ⟨hbad (fun ⟨_, _, h2, _⟩ => ?_), rfl⟩⟩
          have := HB.out.2 h2
          cases this
        | false =>
          have hpl := HB.out.1 rfl
          have HP : Keep (∀ j, j + 1 = k → ∀ hj : j < ts.length, Op.bytesLess ts[j].path.toList ts[k].path.toList = true) := ⟨hpl⟩
          clear hpl HB
          go_wp2_with fail
          refine (isEntry_any ts[k] (by omega) _).mono ?_
          rintro x w6 ⟨rfl, hb6⟩
          cases hen : enOk ts[k] with
          | false =>
            go_wp2
            go_ret2
            refine ⟨hBw5.trans (hb6.mono hBw5.size), .inr ⟨hbad (fun ⟨_, h1, _, _⟩ => ?_), rfl⟩⟩
            rw [hen] at h1
            cases h1
          | true =>
            obtain ⟨h6, h126⟩ := parts6 hen
            have y0 := cell_later hb6 y0
            have y1 := cell_later hb6 y1
            have y2 := cell_later hb6 y2
            have hT6 := hT5.below hb6
            have hBw6 := hBw5.trans (hb6.mono hBw5.size)
            have hLw : L ≤ W5.heap.size := Nat.le_trans hLg hB5.size
            have hB6 := hB5.trans (hb6.mono hLw)
            have hLw6 : L ≤ w6.heap.size := Nat.le_trans hLw hb6.size
            have hless := asc_all hok.out hlt HP.out
            have hbi := blocked_iff hS ts[k] hless
            have HBI : Keep (Blocked β φ (partsB ts[k].path) ↔ ∃ e' ∈ ts.take k, Begins e'.path ts[k].path) := ⟨hbi⟩
            have hlay := lay_any L N (L + 1) w6 β μ φ hT6 hS.files_nodes hroot (by omega) ts[k] (by omega) (path_pos (by simp only [enOk, Bool.and_eq_true] at hen; exact hen.1))
            clear hless hbi hT5 hB5 hBw5 hb6
            go_wp2_with fail
            refine hlay.mono ?_
            rintro x w7 (⟨rfl, hnb, ⟨β', μ', hT7, hgr, hr7⟩, hBT7⟩ | ⟨rfl, hbl, _, hBT7⟩)
            · have hB7 := hBT7.below hT6 hLw6
              have hS7 := hS.laid ts[k] (by
                cases hx : φ (partsB ts[k].path) with
                | none => rfl
                | some f => exact absurd (.inr (.inl (by rw [hx]; simp))) hnb) hgr
              rw [← List.take_succ_eq_append_getElem hlt] at hS7
              have hok7 : Keep (∀ i, i < k + 1 → OkAt ts i) := ⟨fun i hi => by
                by_cases e : i = k
                · subst e
                  exact ⟨hlt, hen, HP.out, fun e' he hb => hnb (HBI.out.2 ⟨e', he, hb⟩)⟩
                · exact hok.out i (by omega)⟩
              clear hlay HBI hnb hgr hS
              go_wp2
              go_roundw
              case rel => exact ⟨k + 1, N + (partsB ts[k].path).length, β', μ', _, by congr 1, hlt, hT7, by omega, by rw [hr7]; exact hroot, hS7, hok7, hB6.trans hB7⟩
              case measure => simp only [intOf]; omega
            · have hB7 := hBT7.below hT6 hLw6
              have hBw7 : Below w.heap.size w w7 := hBw6.trans (hB7.mono (by omega))
              clear hlay
              go_wp2
              go_ret2
              refine ⟨hBw7, .inr ⟨hbad (fun ⟨_, _, _, h3⟩ => ?_), rfl⟩⟩
              obtain ⟨e', he, hb⟩ := HBI.out.1 hbl
              exact h3 e' he hb
    · obtain rfl : k = ts.length := by omega
      go_wp2
      go_ret2
      rw [List.take_length] at hS
      exact ⟨hBw, .inl ⟨⟨by omega, hok.out⟩, L + 1, rfl, L, N, β, μ, φ, by omega, by omega, hT, hroot, hS⟩⟩
end Go.Proofs.Ytjlflmbifeocbaa

namespace Go.Proofs.Ytjlflmbifeocbaa
open Go.RowKit

def lastB (cs : List Ch) : Nat → ByteArray
  | 0 => ⟨#[]⟩
  | k + 1 => (cs[k]?.map (·.path)).getD ⟨#[]⟩
theorem lastB_succ {cs : List Ch} {k : Nat} (h : k < cs.length) : lastB cs (k + 1) = cs[k].path := by simp [lastB, List.getElem?_eq_getElem h]

def VpPost (cs : List Ch) (w : World) (e : Ending) (w' : World) : Prop := ∃ vb : Bool, e = .returned (.bool vb) ∧ (vb = true ↔ ValidP cs) ∧ Below w.heap.size w w'
theorem VpPost.no {cs : List Ch} {w w' : World} (h : ¬ ValidP cs) (hb : Below w.heap.size w w') : VpPost cs w (.returned (.bool false)) w' := ⟨false, rfl, ⟨fun e => (by cases e), fun e => absurd e h⟩, hb⟩

/-- What is not behind the last one is not valid there. -/
theorem le_bad {cs : List Ch} {k : Nat} (hk : k < cs.length) (h : Op.bytesLess (lastB cs k).toList cs[k].path.toList = false) : ¬ ValidP cs := by
  intro hv
  obtain ⟨_, h1, h2⟩ := hv.2 k hk
  cases k with
  | zero =>
    simp only [chOk, Bool.and_eq_true] at h1
    have hp := path_pos h1.1.1.1
    have hl : cs[0].path.toList ≠ [] := by
      rw [Lib.toList_data]
      have : cs[0].path.data.toList.length = cs[0].path.size := (Lib.size_eq cs[0].path).symm
      intro e
      rw [e] at this
      simp at this
      omega
    have : Op.bytesLess (lastB cs 0).toList cs[0].path.toList = true := by
      have e0 : (lastB cs 0).toList = [] := by simp [lastB, Lib.toList_data]
      rw [e0]
      cases hx : cs[0].path.toList with
      | nil => exact absurd hx hl
      | cons a l => rfl
    rw [h] at this
    cases this
  | succ j =>
    have := h2 j rfl (by omega)
    rw [lastB_succ (by omega)] at h
    rw [h] at this
    cases this
theorem le_good {cs : List Ch} {k : Nat} (hk : k < cs.length) (h : Op.bytesLess (lastB cs k).toList cs[k].path.toList = true) (hc : chOk cs[k] = true) : POk cs k := by
  refine ⟨hk, hc, fun j hj hjl => ?_⟩
  subst hj
  rw [lastB_succ hjl] at h
  exact h

set_option maxRecDepth 100000 in
set_option maxHeartbeats 4000000 in
theorem implPatch_any (a : Option Addr) (cap : Nat) (cs : List Ch) (w : World) (hcs : CS w a cs) (hn : cs.length ≤ 1048576) (hz : ∀ c ∈ cs, c.path.size ≤ 1048576) :
    Calls Try.prog 14 #[.agg #[.slice a cs.length cap]] w fun e w' => VpPost cs w e w' := by
  have hal : Below w.heap.size w (w.alloc (.cells #[.slice a cs.length cap] 30)) := (Below.refl _ _).alloc (Nat.le_refl _) _
  by_cases h200 : (200 : Int) < cs.length
  · go_enter Try.func14, Try.ntmps14
    go_wp2
    go_ret
    exact VpPost.no (fun h => by have := h.1; omega) hal
  go_enter Try.func14, Try.ntmps14
  go_wp2
  go_loopw [3, 13] (fun l i wr => ∃ k : Nat, l = .string (lastB cs k) ∧ i = .int .i64 k ∧ k ≤ cs.length ∧ Keep (∀ j, j < k → POk cs j) ∧ Below w.heap.size w wr) (fun _ i _ => cs.length - (intOf i).toNat)
  case atStart => exact ⟨0, rfl, rfl, Nat.zero_le _, ⟨fun j hj => by omega⟩, hal⟩
  case round =>
    obtain ⟨k, rfl, rfl, hk, hok, hb⟩ := hrel
    by_cases hlt : k < cs.length
    · have hlt' : (k : Int) < cs.length := by omega
      obtain ⟨b, off, rfl, hc⟩ := (hcs.below hb).at hlt
      obtain ⟨c0, c1, c2, c3, c4, c5, c6⟩ := hc k hlt
      clear hc
      have htot := less_total (lastB cs k).toList cs[k].path.toList
      have HBAD : Keep (Op.bytesLess (lastB cs k).toList cs[k].path.toList = false → ¬ ValidP cs) := ⟨le_bad hlt⟩
      have HGOOD : Keep (Op.bytesLess (lastB cs k).toList cs[k].path.toList = true → chOk cs[k] = true → POk cs k) := ⟨le_good hlt⟩
      have HL : Keep (lastB cs (k + 1) = cs[k].path) := ⟨lastB_succ hlt⟩
      have hals : Below wr.heap.size wr (wr.alloc (.cells #[.string cs[k].path, .bool cs[k].old.there, .string cs[k].old.text, .bool cs[k].old.runs, .bool cs[k].new.there, .string cs[k].new.text, .bool cs[k].new.runs] 68)) := (Below.refl _ _).alloc (Nat.le_refl _) _
      have x0 : (wr.alloc (.cells #[.string cs[k].path, .bool cs[k].old.there, .string cs[k].old.text, .bool cs[k].old.runs, .bool cs[k].new.there, .string cs[k].new.text, .bool cs[k].new.runs] 68)).cell? ⟨wr.heap.size, 0, none⟩ = some (.string cs[k].path) := by simp
      have hbx := hb.trans (hals.mono hb.size)
      have hzk := hz cs[k] (List.getElem_mem hlt)
      cases hl : Op.bytesLess (lastB cs k).toList cs[k].path.toList with
      | false =>
        rw [hl] at htot
        have hle := htot.symm
        simp only [Bool.not_false] at hle
        have hbad := HBAD.out hl
        clear htot
        go_wp2
        go_ret
        exact VpPost.no hbad hbx
      | true =>
        rw [hl] at htot
        have hle := htot.symm
        simp only [Bool.not_true] at hle
        clear htot
        have hcall := isChange_any cs[k] (wr.alloc (.cells #[.string cs[k].path, .bool cs[k].old.there, .string cs[k].old.text, .bool cs[k].old.runs, .bool cs[k].new.there, .string cs[k].new.text, .bool cs[k].new.runs] 68)) (by omega)
        unfold chV at hcall
        go_wp2_with fail
        refine hcall.mono ?_
        rintro e w2 ⟨rfl, hb2⟩
        have hbw2 := hbx.trans (hb2.mono hbx.size)
        have x2 := cell_later hb2 x0
        clear hcall
        cases hck : chOk cs[k] with
        | false =>
          have hbad : ¬ ValidP cs := fun hv => by
            obtain ⟨_, h1, _⟩ := hv.2 k hlt
            rw [hck] at h1
            cases h1
          go_wp2
          go_ret
          exact VpPost.no hbad hbw2
        | true =>
          have HP : Keep (∀ j, j < k + 1 → POk cs j) := ⟨fun j hj => by
            by_cases e : j = k
            · subst e; exact HGOOD.out hl hck
            · exact hok.out j (by omega)⟩
          go_wp2
          go_roundw
          case rel => exact ⟨k + 1, by rw [HL.out], by congr 1, hlt, HP, hbw2⟩
          case measure => simp only [intOf]; omega
    · obtain rfl : k = cs.length := by omega
      go_wp2
      go_ret
      exact ⟨true, rfl, ⟨fun _ => ⟨by omega, hok.out⟩, fun _ => rfl⟩, hb⟩
end Go.Proofs.Ytjlflmbifeocbaa

namespace Go.Proofs.Ytjlflmbifeocbaa
open Go.RowKit

theorem box7_grown {X : World} {g : Nat} (v0 v1 v2 v3 v4 v5 v6 : Value) : X.grownBy (((((((X.setCell ⟨g, 0, none⟩ v0).setCell ⟨g, 1, none⟩ v1).setCell ⟨g, 2, none⟩ v2).setCell ⟨g, 3, none⟩ v3).setCell ⟨g, 4, none⟩ v4).setCell ⟨g, 5, none⟩ v5).setCell ⟨g, 6, none⟩ v6) (some g) :=
  have h : ∀ (Y : World) (j : Nat) (v : Value), Y.grownBy (Y.setCell ⟨g, j, none⟩ v) (some g) := fun Y j v => ⟨rfl, rfl, rfl, by simp, fun k _ hk => Below.heap_setCell _ _ _ _ (fun e => hk (by rw [e]))⟩
  have t : ∀ {A B C : World}, A.grownBy B (some g) → B.grownBy C (some g) → A.grownBy C (some g) := fun a b => ⟨b.os.trans a.os, b.tape.trans a.tape, b.output.trans a.output, Nat.le_trans a.size b.size, fun k hk hne => (b.block k (Nat.lt_of_lt_of_le hk a.size) hne).trans (a.block k hk hne)⟩
  t (t (t (t (t (t (h _ _ _) (h _ _ _)) (h _ _ _)) (h _ _ _)) (h _ _ _)) (h _ _ _)) (h _ _ _)

/-- A change in a box. -/
structure CBox (b : Nat) (c : Ch) (W : World) : Prop where
  c0 : W.cell? ⟨b, 0, none⟩ = some (.string c.path)
  c1 : W.cell? ⟨b, 1, none⟩ = some (.bool c.old.there)
  c2 : W.cell? ⟨b, 2, none⟩ = some (.string c.old.text)
  c3 : W.cell? ⟨b, 3, none⟩ = some (.bool c.old.runs)
  c4 : W.cell? ⟨b, 4, none⟩ = some (.bool c.new.there)
  c5 : W.cell? ⟨b, 5, none⟩ = some (.string c.new.text)
  c6 : W.cell? ⟨b, 6, none⟩ = some (.bool c.new.runs)
  fz : ∀ j, W.frozen? ⟨b, j, none⟩ = false
  lt : b < W.heap.size
theorem CBox.block {b : Nat} {c : Ch} {W W' : World} (h : CBox b c W) (hb : W'.heap[b]? = W.heap[b]?) : CBox b c W' :=
  ⟨(World.cell?_of_block hb).trans h.c0, (World.cell?_of_block hb).trans h.c1, (World.cell?_of_block hb).trans h.c2, (World.cell?_of_block hb).trans h.c3, (World.cell?_of_block hb).trans h.c4, (World.cell?_of_block hb).trans h.c5, (World.cell?_of_block hb).trans h.c6, fun j => frozen_of hb (h.fz j), by
    have := Array.getElem?_eq_getElem h.lt
    rw [this] at hb
    exact (Array.getElem?_eq_some_iff.1 hb).1⟩
theorem CBox.later {b : Nat} {c : Ch} {W W' : World} (h : CBox b c W) (hb : Below W.heap.size W W') : CBox b c W' := h.block (hb.block b h.lt)
theorem CBox.put {b l : Nat} {c : Ch} {W : World} (h : CBox b c W) (o : Obj) (hl : l ≠ b) : CBox b c (W.putObj l o) := h.block (World.putObj_heap_other (fun e => hl e.symm))
theorem CBox.grown {b : Nat} {c : Ch} {W W' : World} {row : Option Nat} (h : CBox b c W) (hg : W.grownBy W' row) (hr : row ≠ some b) : CBox b c W' := h.block (hg.block b h.lt (fun e => hr e.symm))
theorem CBox.set {g : Nat} {c : Ch} {X : World} (h : CBox g c X) (d : Ch) : CBox g d (((((((X.setCell ⟨g, 0, none⟩ (.string d.path)).setCell ⟨g, 1, none⟩ (.bool d.old.there)).setCell ⟨g, 2, none⟩ (.string d.old.text)).setCell ⟨g, 3, none⟩ (.bool d.old.runs)).setCell ⟨g, 4, none⟩ (.bool d.new.there)).setCell ⟨g, 5, none⟩ (.string d.new.text)).setCell ⟨g, 6, none⟩ (.bool d.new.runs)) := by
  obtain ⟨z0, z1, z2, z3, z4, z5, z6⟩ := box7_set (.string d.path) (.bool d.old.there) (.string d.old.text) (.bool d.old.runs) (.bool d.new.there) (.string d.new.text) (.bool d.new.runs) h.c0 h.c1 h.c2 h.c3 h.c4 h.c5 h.c6
  exact ⟨z0, z1, z2, z3, z4, z5, z6, fun j => (box7_fz (.string d.path) (.bool d.old.there) (.string d.old.text) (.bool d.old.runs) (.bool d.new.there) (.string d.new.text) (.bool d.new.runs)).trans (h.fz j), by simpa using h.lt⟩
end Go.Proofs.Ytjlflmbifeocbaa

namespace Go.Proofs.Ytjlflmbifeocbaa
open Go.RowKit

set_option maxRecDepth 20000 in
set_option maxHeartbeats 1000000 in
theorem stay_any (p : ByteArray) (f : Fl) (w : World) : Calls Try.prog 39 #[.string p, .agg #[.bool f.there, .string f.text, .bool f.runs]] w fun e w' => e = .returned (.agg #[.string p, .bool f.there, .string f.text, .bool f.runs, .bool f.there, .string f.text, .bool f.runs]) ∧ Below w.heap.size w w' := by
  have hal : Below w.heap.size w (w.alloc (.cells #[.bool f.there, .string f.text, .bool f.runs] 54)) := (Below.refl _ _).alloc (Nat.le_refl _) _
  have hal2 : Below w.heap.size w ((w.alloc (.cells #[.bool f.there, .string f.text, .bool f.runs] 54)).alloc (.cells #[.string ⟨#[]⟩, .bool false, .string ⟨#[]⟩, .bool false, .bool false, .string ⟨#[]⟩, .bool false] 68)) := hal.alloc (by simp) _
  go_enter Try.func39, Try.ntmps39
  go_wp2
  refine bodyPost_ret (v := .agg #[.string p, .bool f.there, .string f.text, .bool f.runs, .bool f.there, .string f.text, .bool f.runs]) ?_ rfl ⟨rfl, ?_⟩
  · go_light
    simp [results, Try.results39, go_sem]
  · first | exact hal.alloc (by simp) _ | exact box7_below _ _ _ _ _ _ _ hal2 (by omega)
end Go.Proofs.Ytjlflmbifeocbaa

namespace Go.Proofs.Ytjlflmbifeocbaa
open Go.RowKit Go.Shelf

theorem sideC_iter (Ba Bb : Nat) (a b : Option Addr) (ca cb : Nat) (ts us : List Ch) (hca : ts.length ≤ ca) (hcb : us.length ≤ cb) (hnt : ts.length ≤ 1048576) (hnu : us.length ≤ 1048576) :
    Iter 63 #[.pointer (some ⟨Ba, 0, none⟩), .pointer (some ⟨Bb, 0, none⟩)] yC (mrgC ts us) (sideMemC Ba Bb a b ca cb ts us) :=
  fun n l J Jx W hM hJ hY h0 => sideC1_in n l Ba Bb a b ca cb ts us hca hcb hnt hnu J Jx W hM hJ hY h0

theorem OutCh.own_lt {h : Nat} {W0 W : World} {v : Value} {us : List Ch} (s : OutCh h W0 v us W) {k : Nat} (hk : v.ownBlock = some k) : k < W.heap.size := by
  rcases s.row.2 with ⟨e, _⟩ | ⟨g, cap, cur, e, _, hg, _⟩
  · rw [e] at hk; simp [Value.ownBlock] at hk
  · rw [e] at hk; simp [Value.ownBlock] at hk; subst hk; exact (Array.getElem?_eq_some_iff.1 hg).1
theorem OutCh.other {h B : Nat} {W0 W W' : World} {v : Value} {us : List Ch} (s : OutCh h W0 v us W) (hg : W.grownBy W' (some B)) (hB : W0.heap.size ≤ B) (hv : v.ownBlock ≠ some B) : OutCh h W0 v us W' := by
  have hl := s.lt
  have hh := hg.block h s.size (fun e => by cases e; omega)
  refine ⟨(World.cell?_of_block hh).trans s.cell, frozen_of hh s.fz, s.row.kept hg (Or.inr hv), ⟨hg.os.trans s.grown.os, hg.tape.trans s.grown.tape, hg.output.trans s.grown.output, Nat.le_trans s.grown.size hg.size, fun k hk hne => ?_⟩, hl⟩
  exact (hg.block k (Nat.lt_of_lt_of_le hk s.grown.size) (fun e => by cases e; omega)).trans (s.grown.block k hk hne)
theorem OutCh.putJ {h l : Nat} {W0 W : World} {v : Value} {us : List Ch} (s : OutCh h W0 v us W) (o : Obj) (hl : l < W0.heap.size) (hne : l ≠ h) : OutCh h (W0.putObj l o) v us (W.putObj l o) := by
  have hb : ∀ (X : World) (k : Nat), k ≠ l → (X.putObj l o).heap[k]? = X.heap[k]? := fun X k hk => World.putObj_heap_other hk
  have hh := hb W h (fun e => hne e.symm)
  have hg : W.grownBy (W.putObj l o) (some l) := ⟨rfl, rfl, rfl, by simp, fun k _ hk => hb W k (fun e => hk (by rw [e]))⟩
  have hlW := Nat.lt_of_lt_of_le hl s.grown.size
  refine ⟨(World.cell?_of_block hh).trans s.cell, frozen_of hh s.fz, ?_, ⟨s.grown.os, s.grown.tape, s.grown.output, by simpa using s.grown.size, fun k hk hkh => ?_⟩, by simpa using s.lt⟩
  · have h1 := s.row.kept hg (Or.inr (fun e => by have := owns_row_ge s.row e; omega))
    simpa using h1
  · have hk' : k < W0.heap.size := by simpa using hk
    by_cases e : k = l
    · subst e
      rw [World.putObj_heap_same hlW, World.putObj_heap_same hl]
    · rw [hb W k e, hb W0 k e]
      exact s.grown.block k hk' hkh

def chgL (p : ByteArray) (f g : Fl) : List Ch := if sameF f g = true then [] else [⟨p, f, g⟩]
theorem chg_pair (ob : Nat) (Wz : World) (v : Value) (us : List Ch) (p : ByteArray) (f g : Fl) (w : World) (hst : OutCh ob Wz v us w) (hul : us.length ≤ 1048576) (hp : p.size ≤ 1048576) (hx : f.text.size ≤ 1048576) (hy : g.text.size ≤ 1048576) :
    Calls Try.prog 31 #[.pointer (some ⟨ob, 0, none⟩), .string p, .agg #[.bool f.there, .string f.text, .bool f.runs], .agg #[.bool g.there, .string g.text, .bool g.runs]] w fun e w' => e = .returned (.tuple #[]) ∧ ∃ v', OutCh ob Wz v' (us ++ chgL p f g) w' := by
  unfold chgL
  cases hs : sameF f g with
  | true =>
    refine (change_none ob p f g w hs).mono ?_
    rintro e w' ⟨rfl, hb⟩
    exact ⟨rfl, v, by simpa using hst.later hb⟩
  | false =>
    refine (change_any ob Wz v us ⟨p, f, g⟩ w hst hul hs (by show p.size ≤ _; omega) (by show f.text.size ≤ _; omega) (by show g.text.size ≤ _; omega)).mono ?_
    rintro e w' ⟨rfl, ad, cap, h⟩
    exact ⟨rfl, _, by simpa using h⟩

def outsJ (pre : List PC) : List Ch := pre.flatMap fun x => outJ2 x.1 x.2.1 x.2.2
theorem outsJ_snoc (pre : List PC) (x : PC) : outsJ (pre ++ [x]) = outsJ pre ++ outJ2 x.1 x.2.1 x.2.2 := by simp [outsJ]
theorem outsJ_len (pre : List PC) : (outsJ pre).length ≤ pre.length := by
  induction pre with
  | nil => simp [outsJ]
  | cons x pre ih =>
    have h1 : outsJ (x :: pre) = outJ2 x.1 x.2.1 x.2.2 ++ outsJ pre := by simp [outsJ]
    have h2 := outJ2_len x.1 x.2.1 x.2.2
    rw [h1, List.length_append, List.length_cons]
    omega
theorem validP_ok {cs : List Ch} (h : ValidP cs) {c : Ch} (hc : c ∈ cs) : chOk c = true := by
  obtain ⟨i, hi, rfl⟩ := List.getElem_of_mem hc
  obtain ⟨_, h1, _⟩ := h.2 i hi
  exact h1
theorem validP_asc {cs : List Ch} (h : ValidP cs) : AscK Ch.path cs := by
  have key : ∀ i, i < cs.length → ∀ j, j < i → ∀ (hi : i < cs.length) (hj : j < cs.length), Op.bytesLess cs[j].path.toList cs[i].path.toList = true := by
    intro i
    induction i with
    | zero => intro _ j hj; omega
    | succ i ih =>
      intro hi j hj hi' hj'
      obtain ⟨_, _, h1⟩ := h.2 (i + 1) hi
      have h2 := h1 i rfl (by omega)
      by_cases e : j = i
      · subst e; exact h2
      · exact less_trans (ih (by omega) j (by omega) (by omega) hj') h2
  exact List.pairwise_iff_getElem.2 fun i j hi hj hij => key j hj i hij hj hi
theorem mrgC_is {p q : List Ch} (hp : ValidP p) (hq : ValidP q) : mrgC p q = (joinNs p q).map fun n => (n, fnd Ch.path p n, fnd Ch.path q n) :=
  mrg_eq Ch.path Ch.path (p.length + q.length) p q (joinNs p q) (Nat.le_refl _) (validP_asc hp) (validP_asc hq) (joinNs_mem p q).1 (joinNs_mem p q).2
theorem outs_join {p q : List Ch} (hp : ValidP p) (hq : ValidP q) : outsJ (mrgC p q) = joinN p q (joinNs p q) := by
  rw [mrgC_is hp hq]
  unfold outsJ joinN
  rw [List.flatMap_map]
  rfl
theorem mrg_lenJ {α β : Type} (pa : α → ByteArray) (pb : β → ByteArray) : ∀ (n : Nat) (ts : List α) (us : List β), (mrg pa pb n ts us).length ≤ n
  | 0, _, _ => by simp [mrg]
  | n + 1, [], [] => by simp [mrg]
  | n + 1, [], y :: us => by have := mrg_lenJ pa pb n [] us; simp only [mrg, List.length_cons]; omega
  | n + 1, x :: ts, [] => by have := mrg_lenJ pa pb n ts []; simp only [mrg, List.length_cons]; omega
  | n + 1, x :: ts, y :: us => by
    have h1 := mrg_lenJ pa pb n ts (y :: us)
    have h2 := mrg_lenJ pa pb n (x :: ts) us
    have h3 := mrg_lenJ pa pb n ts us
    simp only [mrg]
    split
    · simp only [List.length_cons]; omega
    · split
      · simp only [List.length_cons]; omega
      · simp only [List.length_cons]; omega
/-- Which of the two lists have a path. -/
theorem mrgC_cases {p q : List Ch} (hp : ValidP p) (hq : ValidP q) {x : PC} (hx : x ∈ mrgC p q) :
    (∃ d ∈ q, x = (d.path, none, some d)) ∨ (∃ c ∈ p, x = (c.path, some c, none)) ∨ ∃ c ∈ p, ∃ d ∈ q, d.path = c.path ∧ x = (c.path, some c, some d) := by
  rw [mrgC_is hp hq] at hx
  obtain ⟨n, hn, rfl⟩ := List.mem_map.1 hx
  cases h1 : fnd Ch.path p n with
  | none =>
    cases h2 : fnd Ch.path q n with
    | none =>
      exfalso
      rcases (joinNs_mem p q).2 n |>.1 hn with ⟨z, hz, hzn⟩ | ⟨z, hz, hzn⟩
      · unfold fnd at h1
        rw [List.find?_eq_none] at h1
        exact h1 z hz (eqb_iff.2 hzn)
      · unfold fnd at h2
        rw [List.find?_eq_none] at h2
        exact h2 z hz (eqb_iff.2 hzn)
    | some d =>
      obtain ⟨h3, rfl⟩ := fnd_some h2
      exact .inl ⟨d, h3, rfl⟩
  | some c =>
    obtain ⟨h3, rfl⟩ := fnd_some h1
    cases h2 : fnd Ch.path q c.path with
    | none => exact .inr (.inl ⟨c, h3, rfl⟩)
    | some d =>
      obtain ⟨h4, h5⟩ := fnd_some h2
      exact .inr (.inr ⟨c, h3, d, h4, h5, rfl⟩)
theorem chOk_parts {c : Ch} (h : chOk c = true) : (c.path.toList == ([] : List UInt8)) = false ∧ sameF c.old c.new = false ∧ c.old.text.size ≤ 1500 ∧ c.new.text.size ≤ 1500 := by
  simp only [chOk, flOk, Bool.and_eq_true, decide_eq_true_eq, Bool.not_eq_true'] at h
  obtain ⟨⟨⟨h1, h2, _⟩, h3, _⟩, h4⟩ := h
  refine ⟨?_, h4, h2, h3⟩
  rw [Bool.eq_false_iff]
  intro e
  have e1 : c.path = ⟨#[]⟩ := WideShapes.bytes_inj (by rw [← Lib.toList_data, (by simpa using e : c.path.toList = [])])
  rw [e1] at h1
  revert h1
  decide
end Go.Proofs.Ytjlflmbifeocbaa
