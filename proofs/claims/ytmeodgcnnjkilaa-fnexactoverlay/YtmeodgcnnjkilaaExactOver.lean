/-
  'FnExactOverlay': the walk out of the contracts; the frame.
-/
import Derived.Test.YtmeodgcnnjkilaaOvQ
import Derived.Test.YtmeodgcnnjkilaaOverI
import Derived.Test.YtmeodgcnnjkilaaEntries
import Derived.Test.YtmeodgcnnjkilaaOverS
import Derived.Test.YtmeodgcnnjkilaaOvQ
import Derived.Test.YtmeodgcnnjkilaaOvQ
import Derived.Test.YtmeodgcnnjkilaaOvQ
namespace Go.Proofs.Ytmeodgcnnjkilaa.fnExactOverlay
open Go.ChangeShapes Go.WideShapes Go.ChangeAt Go.RowKit
set_option linter.unusedVariables false

theorem own : ownKnob Try.prog.godebug = none := by kernel_rfl
theorem laidOut : laidOutB Try.prog = true := by kernel_rfl

theorem eqi (c : Int) : (c == c) = true := by simp
theorem nei (c : Int) : (c != c) = false := by simp

set_option maxRecDepth 100000 in
set_option maxHeartbeats 8000000 in
theorem walk (a b : Option Addr) (ca cb : Nat) (ts bs : List En) (w : World) (hss : ES w a ts) (hbs : ES w b bs) (hn : ts.length ≤ maxLen) (hnb : bs.length ≤ maxLen) (hm : ∀ s ∈ ts, s.path.size ≤ maxLen ∧ s.text.size ≤ maxLen) (hmb : ∀ s ∈ bs, s.path.size ≤ maxLen ∧ s.text.size ≤ maxLen) :
    Calls Try.prog 5 #[.agg #[.slice a ts.length ca], .agg #[.slice b bs.length cb]] w fun e w' => e = .returned (.bool true) ∧ Below w.heap.size w w' := by
  have hb0 : Below w.heap.size w ((w.alloc (.cells #[.slice a ts.length ca] 24)).alloc (.cells #[.slice b bs.length cb] 24)) := ((Below.refl _ _).alloc (Nat.le_refl _) _).alloc (by simp) _
  have hxa : ((w.alloc (.cells #[.slice a ts.length ca] 24)).alloc (.cells #[.slice b bs.length cb] 24)).cell? ⟨w.heap.size, 0, none⟩ = some (.slice a ts.length ca) := by simp [go_sem]
  have hxb : ((w.alloc (.cells #[.slice a ts.length ca] 24)).alloc (.cells #[.slice b bs.length cb] 24)).cell? ⟨w.heap.size + 1, 0, none⟩ = some (.slice b bs.length cb) := by simp [go_sem]
  have hz0 : w.heap.size + 1 < ((w.alloc (.cells #[.slice a ts.length ca] 24)).alloc (.cells #[.slice b bs.length cb] 24)).heap.size := by simp [go_sem]
  go_enter Try.func5, Try.ntmps5
  go_wp2_with fail
  refine (szTreeL_any 1048576 (Nat.le_refl _) a ca ts _ (hss.below hb0) hn hm).mono ?_
  rintro e w1 ⟨r, rfl, hb1, hr⟩
  generalize (w.alloc (.cells #[.slice a ts.length ca] 24)).alloc (.cells #[.slice b bs.length cb] 24) = w0 at *
  obtain ⟨T, hT⟩ : ∃ T, T = w.heap.size := ⟨_, rfl⟩
  obtain ⟨Te, hTe⟩ : ∃ Te, Te = w.heap.size + 1 := ⟨_, rfl⟩
  have hTw : Keep (T = w.heap.size ∧ Te = T + 1) := ⟨by omega⟩
  rw [← hTe] at hxb hz0 ⊢
  rw [← hT] at hxa ⊢
  have hbx1 := hb0.trans (hb1.mono hb0.size)
  replace hxa := cell_later hb1 hxa
  replace hxb := cell_later hb1 hxb
  have hz1 : Te < w1.heap.size := Nat.lt_of_lt_of_le hz0 hb1.size
  clear hb0 hb1 hz0 hT hTe
  rcases hr with hr | ⟨hr, hr', hle⟩
  · have hr0 : r < 0 := by omega
    clear hr
    go_wp2
    go_ret
    exact ⟨rfl, hbx1⟩
  have hr0 : ¬ r < 0 := by omega
  have hn' : ts.length ≤ 1048576 := by omega
  have hz : ∀ e ∈ ts, e.path.size ≤ 1048576 ∧ e.text.size ≤ 1048576 := fun e he => by have := size_le_totalE ts e he; omega
  obtain ⟨L, rfl⟩ : ∃ L : Nat, r = L := ⟨r.toNat, by omega⟩
  have hL : L ≤ 1048576 := by omega
  clear hr hr' hle
  go_wp2_with fail
  refine (szTreeL_any L hL b cb bs w1 (hbs.below hbx1) hnb hmb).mono ?_
  rintro e w2 ⟨r2, rfl, hb2, hr2⟩
  have hbx2 := hbx1.trans (hb2.mono hbx1.size)
  replace hxa := cell_later hb2 hxa
  replace hxb := cell_later hb2 hxb
  have hz2 : Te < w2.heap.size := Nat.lt_of_lt_of_le hz1 hb2.size
  clear hb2 hbx1 hz1
  rcases hr2 with hr2 | ⟨hr2, hr2', hle2⟩
  · have hr20 : r2 < 0 := by omega
    clear hr2
    go_wp2
    go_ret
    exact ⟨rfl, hbx2⟩
  have hr20 : ¬ r2 < 0 := by omega
  have hnb' : bs.length ≤ 1048576 := by omega
  have hzb : ∀ e ∈ bs, e.path.size ≤ 1048576 ∧ e.text.size ≤ 1048576 := fun e he => by have := size_le_totalE bs e he; omega
  clear hr2 hr2' hle2 hr0
  have hE2 := hss.below hbx2
  have hF2 := hbs.below hbx2
  have HZ : Keep ((∀ e ∈ ts, e.path.size ≤ 1048576 ∧ e.text.size ≤ 1048576) ∧ (∀ e ∈ bs, e.path.size ≤ 1048576 ∧ e.text.size ≤ 1048576)) := ⟨⟨hz, hzb⟩⟩
  clear hz hzb hn hnb hm hmb
  have q0 : Below w2.heap.size w2 w2.drew := (Below.refl _ _).drew
  have kq : ∀ {W W' : World}, Below w2.heap.size w2 W → Below W.heap.size W W' → Below w2.heap.size w2 W' := fun h h' => h.trans (h'.mono h.size)
  go_upto_region 8 with fail
  go_cut [6, 7] (fun p cc wx => CutR (OverR ts bs) w2 p cc wx)
  case first =>
    rename_i K1 ha2 J1 K2 ha1 ha0
    clear ha2 hss hbs hbx2 hz2 hr20 hTw HZ hL
    have hxaa := cellAl hxa
    have hxba := cellAl hxb
    go_region_with (first | (go_at_call_of 10 ([Value.agg #[.slice a ts.length ca]] : List Value); refine (toTree_any a ca ts _ ?_ hn').mono ?_; exact hE2.below (by first | with_reducible exact q | with_reducible exact belowAl q _ | with_reducible exact q0 | with_reducible exact (belowAl (Below.refl _ _) _).drew | with_reducible exact belowAl q0 _); rintro e wT ⟨gT, rfl, hES, hbT, _⟩; (try (with_reducible have hN := keep_cell nc0 ncf nlo hbT; obtain ⟨nc0, ncf, nlo, nlt⟩ := hN)); (try (with_reducible have hN := new_cell q hbT; obtain ⟨nc0, ncf, nlo, nlt⟩ := hN)); (try (with_reducible have hN := new_cell (Below.refl w2.heap.size w2) hbT; obtain ⟨nc0, ncf, nlo, nlt⟩ := hN)); (try (with_reducible have hN := new_cellD (Below.refl w2.heap.size w2) hbT; obtain ⟨nc0, ncf, nlo, nlt⟩ := hN)); have q : Below w2.heap.size w2 wT := (by first | with_reducible exact kq q hbT | with_reducible exact kq (belowAl q _) hbT | with_reducible exact kq q0 hbT | with_reducible exact kq (belowAl (Below.refl _ _) _).drew hbT | with_reducible exact kq (belowAl q0 _) hbT); have c1 := cell_later q hxb; have c1a := cellAl c1) | (go_at_call_of 10 ([Value.agg #[.slice b bs.length cb]] : List Value); refine (toTree_any b cb bs _ ?_ hnb').mono ?_; exact hF2.below (by first | with_reducible exact q | with_reducible exact belowAl q _ | with_reducible exact q0 | with_reducible exact (belowAl (Below.refl _ _) _).drew | with_reducible exact belowAl q0 _); rintro e wU ⟨gU, rfl, hEU, hbU, _⟩; (try (with_reducible have hN := keep_cell nc0 ncf nlo hbU; obtain ⟨nc0, ncf, nlo, nlt⟩ := hN)); (try (with_reducible have hN := new_cell q hbU; obtain ⟨nc0, ncf, nlo, nlt⟩ := hN)); (try (with_reducible have hN := new_cell (Below.refl w2.heap.size w2) hbU; obtain ⟨nc0, ncf, nlo, nlt⟩ := hN)); (try (with_reducible have hN := new_cellD (Below.refl w2.heap.size w2) hbU; obtain ⟨nc0, ncf, nlo, nlt⟩ := hN)); have q : Below w2.heap.size w2 wU := (by first | with_reducible exact kq q hbU | with_reducible exact kq (belowAl q _) hbU | with_reducible exact kq q0 hbU | with_reducible exact kq (belowAl (Below.refl _ _) _).drew hbU | with_reducible exact kq (belowAl q0 _) hbU); (first | (with_reducible have hES := hES.below hbU) | (with_reducible have hES := (hES.below ((Below.refl _ _).alloc (Nat.le_refl _) _)).below hbU))) | (go_at_call 18; refine (specOver_any _ _ _ _ ts bs _ ?_ ?_ hn' hnb' (.inl ⟨_, rfl⟩)).mono ?_; (first | with_reducible exact hES | with_reducible exact hES.below ((Below.refl _ _).alloc (Nat.le_refl _) _)); (first | with_reducible exact hEU | with_reducible exact hEU.below ((Below.refl _ _).alloc (Nat.le_refl _) _)); rintro e wP ⟨us, c, hR, ⟨ad, cp, rfl, hel⟩, hbP⟩; (try (with_reducible have hN := keep_cell nc0 ncf nlo hbP; obtain ⟨nc0, ncf, nlo, nlt⟩ := hN)); (try (with_reducible have hN := new_cell q hbP; obtain ⟨nc0, ncf, nlo, nlt⟩ := hN)); (try (with_reducible have hN := new_cell (Below.refl w2.heap.size w2) hbP; obtain ⟨nc0, ncf, nlo, nlt⟩ := hN)); (try (with_reducible have hN := new_cellD (Below.refl w2.heap.size w2) hbP; obtain ⟨nc0, ncf, nlo, nlt⟩ := hN)); have hqz := hbP.size; have hqs : w2.heap.size ≤ _ := (by first | with_reducible exact q.size | with_reducible exact (belowAl q _).size); have q : Below w2.heap.size w2 wP := (by first | with_reducible exact kq q hbP | with_reducible exact kq (belowAl q _) hbP | with_reducible exact kq q0 hbP | with_reducible exact kq (belowAl (Below.refl _ _) _).drew hbP | with_reducible exact kq (belowAl q0 _) hbP); unfold TreeV))
    all_goals
      go_wp2_with fail
      go_meet
      case rel => first | with_reducible exact cutR_mk hR hel hqs hqz q | exact cutR_mk hR hel hqs hqz q | exact cutR_mk' hR hel nlo nlt hqz q nc0
  case rest =>
    obtain ⟨us, c, ad3, cap3, n2, n3, nb6, rfl, rfl, hrem, he3, y3, hn2, hn23, hn3, hnb6, hnbW, hap3, hb3⟩ := hcut
    obtain ⟨w3, hw3⟩ : ∃ x, x = wc := ⟨_, rfl⟩
    subst hw3
    clear q0 kq
    have hS : Itm w3 nb6 n2 n3 ad3 cap3 us := ⟨y3, he3, hn3⟩
    have hbx3 := hbx2.trans (hb3.mono hbx2.size)
    replace hxa := cell_later hb3 hxa
    replace hxb := cell_later hb3 hxb
    have hus := over_few hrem
    have HR : Keep (OverR ts bs us c) := ⟨hrem⟩
    have HS3 : Keep (w.heap.size ≤ T ∧ T < w2.heap.size ∧ Te < w2.heap.size ∧ w2.heap.size ≤ n2 ∧ n2 ≤ n3 ∧ n3 ≤ w3.heap.size ∧ w2.heap.size ≤ nb6 ∧ nb6 < w3.heap.size) := ⟨by have := hTw.out; omega⟩
    clear hrem hb3 hn2 hn23 hn3 hnb6 hnbW hap3 hE2 hF2 hz2 hbx2 y3 he3
    have hto := toTree_any a ca ts w3 (hss.below hbx3) hn'
    go_wp2_with fail
    refine hto.mono ?_
    rintro e w4 ⟨g4, rfl, hs4, hb4, hg4, hf4, hl4⟩
    have hX0 := Itm.new (cap := ts.length) (ein_of_toTree hs4 hg4 hf4 hl4)
    have ha4 : Below w4.heap.size w4 (w4.alloc (.cells #[.slice (some ⟨g4, 0, none⟩) ts.length ts.length] 31)) := (Below.refl _ _).alloc (Nat.le_refl _) _
    have hbx4 := (hbx3.trans (hb4.mono hbx3.size)).trans (ha4.mono (hbx3.trans (hb4.mono hbx3.size)).size)
    replace hxa := cell_later ha4 (cell_later hb4 hxa)
    replace hxb := cell_later ha4 (cell_later hb4 hxb)
    replace hS := (hS.later hb4).later ha4
    have hz4' : (w4.alloc (.cells #[.slice (some ⟨g4, 0, none⟩) ts.length ts.length] 31)).heap.size = w4.heap.size + 1 := by simp
    have HS4 : Keep (w3.heap.size ≤ w4.heap.size) := ⟨hb4.size⟩
    clear hto hbx3 hb4 ha4 hs4 hg4 hf4 hl4
    go_upto_region 10 with fail
    generalize w4.alloc (.cells #[.slice (some ⟨g4, 0, none⟩) ts.length ts.length] 31) = w4p at *
    have HS4p : Keep (w4p.heap.size = w4.heap.size + 1) := ⟨hz4'⟩
    clear hz4'
    have hto := toTree_any b cb bs w4p (hbs.below hbx4) hnb'
    go_wp2_with fail
    refine hto.mono ?_
    rintro e w5 ⟨g5, rfl, hs5, hb5, hg5, hf5, hl5⟩
    have hX1 := Itm.new (cap := bs.length) (ein_of_toTree hs5 hg5 hf5 hl5)
    have ha5 : Below w5.heap.size w5 (w5.alloc (.cells #[.slice (some ⟨g5, 0, none⟩) bs.length bs.length] 31)) := (Below.refl _ _).alloc (Nat.le_refl _) _
    have hbx5 := (hbx4.trans (hb5.mono hbx4.size)).trans (ha5.mono (hbx4.trans (hb5.mono hbx4.size)).size)
    replace hxa := cell_later ha5 (cell_later hb5 hxa)
    replace hxb := cell_later ha5 (cell_later hb5 hxb)
    replace hS := (hS.later hb5).later ha5
    replace hX0 := (hX0.later hb5).later ha5
    have hz5' : (w5.alloc (.cells #[.slice (some ⟨g5, 0, none⟩) bs.length bs.length] 31)).heap.size = w5.heap.size + 1 := by simp
    have HS5 : Keep (w4p.heap.size ≤ w5.heap.size) := ⟨hb5.size⟩
    clear hto hbx4 hb5 ha5 hs5 hg5 hf5 hl5
    go_upto_region 11 with fail
    generalize w5.alloc (.cells #[.slice (some ⟨g5, 0, none⟩) bs.length bs.length] 31) = w5p at *
    have HS5p : Keep (w5p.heap.size = w5.heap.size + 1) := ⟨hz5'⟩
    clear hz5'
    have x0 := hX0.cell
    have x1 := hX1.cell
    have himp := implOver_any _ _ ts.length bs.length ts bs w5p hX0.es hX1.es hn' hnb' HZ.out.1 HZ.out.2
    go_wp2_with fail
    refine himp.mono ?_
    rintro e w6 ⟨us', c', hR', ⟨ad6, cap6, rfl, hel6⟩, hb6⟩
    obtain ⟨rfl, rfl⟩ := over_one HR.out hR'
    have hV := Itm.new (cap := cap6) (hel6.ein (Nat.le_refl _))
    have ha6 : Below w6.heap.size w6 (w6.alloc (.cells #[.slice ad6 us.length cap6] 31)) := (Below.refl _ _).alloc (Nat.le_refl _) _
    have hbx6 := (hbx5.trans (hb6.mono hbx5.size)).trans (ha6.mono (hbx5.trans (hb6.mono hbx5.size)).size)
    replace hxa := cell_later ha6 (cell_later hb6 hxa)
    replace hxb := cell_later ha6 (cell_later hb6 hxb)
    replace hS := (hS.later hb6).later ha6
    replace hX0 := (hX0.later hb6).later ha6
    replace hX1 := (hX1.later hb6).later ha6
    have hz6' : (w6.alloc (.cells #[.slice ad6 us.length cap6] 31)).heap.size = w6.heap.size + 1 := by simp
    have HS6 : Keep (w5p.heap.size ≤ w6.heap.size) := ⟨hb6.size⟩
    clear himp hR' hel6 hb6 ha6 hbx5 x0 x1
    unfold TreeV
    go_upto_region 12 with fail
    generalize w6.alloc (.cells #[.slice ad6 us.length cap6] 31) = w6p at *
    have HS6p : Keep (w6p.heap.size = w6.heap.size + 1) := ⟨hz6'⟩
    clear hz6'
    have HS : Keep (w.heap.size ≤ T ∧ T < w2.heap.size ∧ Te < w2.heap.size ∧ w2.heap.size ≤ n2 ∧ n2 ≤ n3 ∧ n3 ≤ w3.heap.size ∧ w2.heap.size ≤ nb6 ∧ nb6 < w3.heap.size ∧ w3.heap.size ≤ w4.heap.size ∧ w4.heap.size < w4p.heap.size ∧ w4p.heap.size ≤ w5.heap.size ∧ w5.heap.size < w5p.heap.size ∧ w5p.heap.size ≤ w6.heap.size) := ⟨by have := HS3.out; have := HS4.out; have := HS4p.out; have := HS5.out; have := HS5p.out; have := HS6.out; omega⟩
    clear HS3 HS4 HS4p HS5 HS5p HS6 HS6p
    have hul : us.length ≤ 1048576 := by omega
    have h1 := eqi c
    have h2 := nei c
    generalize w4.heap.size = b4 at *
    generalize w4p.heap.size = c4 at *
    generalize w5.heap.size = b5 at *
    generalize w5p.heap.size = c5 at *
    generalize w6.heap.size = b6 at *
    generalize w3.heap.size = c3 at *
    have y := hS.cell
    have v := hV.cell
    have heq := eqTree_any _ _ cap6 cap3 us w6p hV.es hS.es hul
    go_wp2_with fail
    refine heq.mono ?_
    rintro e w7 ⟨rfl, hb7⟩
    have hbx7 := hbx6.trans (hb7.mono hbx6.size)
    replace hxa := cell_later hb7 hxa
    replace hxb := cell_later hb7 hxb
    replace hS := hS.later hb7
    replace hV := hV.later hb7
    replace hX0 := hX0.later hb7
    replace hX1 := hX1.later hb7
    clear heq y v hb7 hbx6
    have x7 := hX0.cell
    go_upto_region 14 with fail
    go_cut [58] (fun v wx => v = .bool false ∧ Below w7.heap.size w7 wx)
    case first =>
      rename_i K1 ha2 J1 K2 ha1 ha0
      clear ha2
      go_region_with (first | (go_at_call 10; refine (toTree_any a ca ts _ ?_ hn').mono ?_; exact hss.below hbx7.drew; rintro e w8 ⟨g8, rfl, hs8, hb8, _⟩; have x8 := cell_later (w := w7.drew) hb8 x7) | (go_at_call 13; refine (eqTree_any _ _ _ _ ts _ ?_ hs8 hn').mono ?_; exact ES.below (w := w7.drew) hX0.es hb8; rintro e w9 ⟨rfl, hb9⟩))
      all_goals
        have hb79 : Below w7.heap.size w7 w9 := ((Below.refl w7.heap.size w7).drew.trans (hb8.mono (Nat.le_refl _))).trans (hb9.mono hb8.size)
        go_wp2_with fail
        go_meet
        case rel => exact ⟨rfl, hb79⟩
    case rest =>
      obtain ⟨rfl, hb79⟩ := hcut
      obtain ⟨w9, hw9⟩ : ∃ x, x = wc := ⟨_, rfl⟩
      subst hw9
      have hbx9 := hbx7.trans (hb79.mono hbx7.size)
      replace hxa := cell_later hb79 hxa
      replace hxb := cell_later hb79 hxb
      replace hS := hS.later hb79
      replace hV := hV.later hb79
      replace hX0 := hX0.later hb79
      replace hX1 := hX1.later hb79
      clear x7 hb79 hbx7
      have x9 := hX1.cell
      go_upto_region 16 with fail
      go_cut [63] (fun v wx => v = .bool false ∧ Below w9.heap.size w9 wx)
      case first =>
        rename_i K1 ha2 J1 K2 ha1 ha0
        clear ha2
        go_region_with (first | (go_at_call 10; refine (toTree_any b cb bs _ ?_ hnb').mono ?_; exact hbs.below hbx9.drew; rintro e w10 ⟨g10, rfl, hs10, hb10, _⟩; have x10 := cell_later (w := w9.drew) hb10 x9) | (go_at_call 13; refine (eqTree_any _ _ _ _ bs _ ?_ hs10 hnb').mono ?_; exact ES.below (w := w9.drew) hX1.es hb10; rintro e w11 ⟨rfl, hb11⟩))
        all_goals
          have hb911 : Below w9.heap.size w9 w11 := ((Below.refl w9.heap.size w9).drew.trans (hb10.mono (Nat.le_refl _))).trans (hb11.mono hb10.size)
          go_wp2_with fail
          go_meet
          case rel => exact ⟨rfl, hb911⟩
      case rest =>
        obtain ⟨rfl, hb911⟩ := hcut
        obtain ⟨w11, hw11⟩ : ∃ x, x = wc := ⟨_, rfl⟩
        subst hw11
        have hbx11 := hbx9.trans (hb911.mono hbx9.size)
        replace hxa := cell_later hb911 hxa
        replace hxb := cell_later hb911 hxb
        replace hS := hS.later hb911
        replace hV := hV.later hb911
        replace hX0 := hX0.later hb911
        replace hX1 := hX1.later hb911
        clear x9 hb911 hbx9
        -- the arguments are marked
        have x0 := hX0.cell
        have hT0 := cell_lt hxa
        have hT1 := cell_lt hxb
        have hmk := markTK_any 1 (by omega) (by omega) _ ts.length ts _ _ w11 hX0.lst hX0.hi hn'
        go_wp2_with fail
        refine hmk.mono ?_
        rintro e w12 ⟨rfl, _, row, hg12, hr12⟩
        have hsep : ∀ r, row = some r → c3 ≤ r ∧ r < b4 := hr12
        have hbx12 := below_marks hbx11 hbx11.size hg12 hr12 (by have := HS.out; omega)
        replace hxa := cell_grown hxa hT0 hg12 (fun r e => by have := hsep r e; have := HS.out; omega)
        replace hxb := cell_grown hxb hT1 hg12 (fun r e => by have := hsep r e; have := HS.out; omega)
        replace hS := hS.grown hg12 (fun r e => by have := hsep r e; have := HS.out; omega)
        replace hV := hV.grown hg12 (fun r e => by have := hsep r e; have := HS.out; omega)
        replace hX1 := hX1.grown hg12 (fun r e => by have := hsep r e; have := HS.out; omega)
        clear hmk hg12 hr12 hsep hbx11 hX0 x0 hT0 hT1
        have x1 := hX1.cell
        have hT0 := cell_lt hxa
        have hT1 := cell_lt hxb
        have hk1 : 1 + 3 * ts.length ≤ 10485760 := by omega
        have hmk := markTK_any (1 + 3 * ts.length) (by omega) hk1 _ bs.length bs _ _ w12 hX1.lst hX1.hi hnb'
        go_wp2_with fail
        refine hmk.mono ?_
        rintro e w13 ⟨rfl, _, row, hg13, hr13⟩
        have hsep : ∀ r, row = some r → c4 ≤ r ∧ r < b5 := hr13
        have hbx13 := below_marks hbx12 hbx12.size hg13 hr13 (by have := HS.out; omega)
        replace hxa := cell_grown hxa hT0 hg13 (fun r e => by have := hsep r e; have := HS.out; omega)
        replace hxb := cell_grown hxb hT1 hg13 (fun r e => by have := hsep r e; have := HS.out; omega)
        replace hS := hS.grown hg13 (fun r e => by have := hsep r e; have := HS.out; omega)
        replace hV := hV.grown hg13 (fun r e => by have := hsep r e; have := HS.out; omega)
        clear hmk hg13 hr13 hsep hbx12 hX1 x1 hT0 hT1 hk1
        have hneg : ¬ ((1 + 3 * ts.length + 3 * bs.length : Nat) : Int) < 0 := by omega
        have y := hS.cell
        have v := hV.cell
        have heq := eqTree_any _ _ cap6 cap3 us w13 hV.es hS.es hul
        go_wp2_with fail
        refine heq.mono ?_
        rintro e w14 ⟨rfl, hb14⟩
        have hbx14 := hbx13.trans (hb14.mono hbx13.size)
        replace hxa := cell_later hb14 hxa
        replace hxb := cell_later hb14 hxb
        replace hS := hS.later hb14
        replace hV := hV.later hb14
        clear heq y v hb14 hbx13
        have v := hV.cell
        have hT0 := cell_lt hxa
        have hT1 := cell_lt hxb
        have hmk := markTK_any 1 (by omega) (by omega) _ cap6 us _ _ w14 hV.lst hV.hi hul
        go_wp2_with fail
        refine hmk.mono ?_
        rintro e w15 ⟨rfl, hV15, row, hg15, hr15⟩
        have hsep : ∀ r, row = some r → c5 ≤ r ∧ r < b6 := hr15
        have hbx15 := below_marks hbx14 hbx14.size hg15 hr15 (by have := HS.out; omega)
        replace hxa := cell_grown hxa hT0 hg15 (fun r e => by have := hsep r e; have := HS.out; omega)
        replace hxb := cell_grown hxb hT1 hg15 (fun r e => by have := hsep r e; have := HS.out; omega)
        replace hS := hS.grown hg15 (fun r e => by have := hsep r e; have := HS.out; omega)
        have v15 := cell_grown v (cell_lt v) hg15 (fun r e => by have := hsep r e; omega)
        have hVh : b6 ≤ w15.heap.size := Nat.le_trans hV.hi hg15.size
        clear hmk hg15 hr15 hsep hbx14 hV v hT0 hT1
        have hhd := heldTree_any _ cap6 us.length w15 hV15.es hul
        go_wp2_with fail
        refine hhd.mono ?_
        rintro e w16 ⟨rfl, hb16⟩
        have hbx16 := hbx15.trans (hb16.mono hbx15.size)
        replace hxa := cell_later hb16 hxa
        replace hxb := cell_later hb16 hxb
        replace hS := hS.later hb16
        replace v15 := cell_later hb16 v15
        replace hV15 := hV15.below hVh hb16
        replace hVh : b6 ≤ w16.heap.size := Nat.le_trans hVh hb16.size
        clear hhd hb16 hbx15
        have hneg2 : ¬ ((1 + 3 * us.length : Nat) : Int) < 0 := by omega
        have hE2 := hss.below hbx16
        have hF2 := hbs.below hbx16
        have q0 : Below w16.heap.size w16 w16.drew := (Below.refl _ _).drew
        have kq : ∀ {W W' : World}, Below w16.heap.size w16 W → Below W.heap.size W W' → Below w16.heap.size w16 W' := fun h h' => h.trans (h'.mono h.size)
        go_upto_region 31 with fail
        go_cut [15, 16] (fun p cc wx => CutR (OverR ts bs) w16 p cc wx)
        case first =>
          rename_i K1 ha2 J1 K2 ha1 ha0
          clear ha2 hss hbs hbx16 hr20 hTw hL hS v15 hV15 hVh hus HR HS hneg hneg2 h1 h2
          have hxaa := cellAl hxa
          have hxba := cellAl hxb
          go_region_with (first | (go_at_call_of 10 ([Value.agg #[.slice a ts.length ca]] : List Value); refine (toTree_any a ca ts _ ?_ hn').mono ?_; exact hE2.below (by first | with_reducible exact q | with_reducible exact belowAl q _ | with_reducible exact q0 | with_reducible exact (belowAl (Below.refl _ _) _).drew | with_reducible exact belowAl q0 _); rintro e wT ⟨gT, rfl, hES, hbT, _⟩; (try (with_reducible have hN := keep_cell nc0 ncf nlo hbT; obtain ⟨nc0, ncf, nlo, nlt⟩ := hN)); (try (with_reducible have hN := new_cell q hbT; obtain ⟨nc0, ncf, nlo, nlt⟩ := hN)); (try (with_reducible have hN := new_cell (Below.refl w16.heap.size w16) hbT; obtain ⟨nc0, ncf, nlo, nlt⟩ := hN)); (try (with_reducible have hN := new_cellD (Below.refl w16.heap.size w16) hbT; obtain ⟨nc0, ncf, nlo, nlt⟩ := hN)); have q : Below w16.heap.size w16 wT := (by first | with_reducible exact kq q hbT | with_reducible exact kq (belowAl q _) hbT | with_reducible exact kq q0 hbT | with_reducible exact kq (belowAl (Below.refl _ _) _).drew hbT | with_reducible exact kq (belowAl q0 _) hbT); have c1 := cell_later q hxb; have c1a := cellAl c1) | (go_at_call_of 10 ([Value.agg #[.slice b bs.length cb]] : List Value); refine (toTree_any b cb bs _ ?_ hnb').mono ?_; exact hF2.below (by first | with_reducible exact q | with_reducible exact belowAl q _ | with_reducible exact q0 | with_reducible exact (belowAl (Below.refl _ _) _).drew | with_reducible exact belowAl q0 _); rintro e wU ⟨gU, rfl, hEU, hbU, _⟩; (try (with_reducible have hN := keep_cell nc0 ncf nlo hbU; obtain ⟨nc0, ncf, nlo, nlt⟩ := hN)); (try (with_reducible have hN := new_cell q hbU; obtain ⟨nc0, ncf, nlo, nlt⟩ := hN)); (try (with_reducible have hN := new_cell (Below.refl w16.heap.size w16) hbU; obtain ⟨nc0, ncf, nlo, nlt⟩ := hN)); (try (with_reducible have hN := new_cellD (Below.refl w16.heap.size w16) hbU; obtain ⟨nc0, ncf, nlo, nlt⟩ := hN)); have q : Below w16.heap.size w16 wU := (by first | with_reducible exact kq q hbU | with_reducible exact kq (belowAl q _) hbU | with_reducible exact kq q0 hbU | with_reducible exact kq (belowAl (Below.refl _ _) _).drew hbU | with_reducible exact kq (belowAl q0 _) hbU); (first | (with_reducible have hES := hES.below hbU) | (with_reducible have hES := (hES.below ((Below.refl _ _).alloc (Nat.le_refl _) _)).below hbU))) | (go_at_call 19; refine (implOver_any _ _ _ _ ts bs _ ?_ ?_ hn' hnb' HZ.out.1 HZ.out.2).mono ?_; (first | with_reducible exact hES | with_reducible exact hES.below ((Below.refl _ _).alloc (Nat.le_refl _) _)); (first | with_reducible exact hEU | with_reducible exact hEU.below ((Below.refl _ _).alloc (Nat.le_refl _) _)); rintro e wP ⟨us, c, hR, ⟨ad, cp, rfl, hel⟩, hbP⟩; (try (with_reducible have hN := keep_cell nc0 ncf nlo hbP; obtain ⟨nc0, ncf, nlo, nlt⟩ := hN)); (try (with_reducible have hN := new_cell q hbP; obtain ⟨nc0, ncf, nlo, nlt⟩ := hN)); (try (with_reducible have hN := new_cell (Below.refl w16.heap.size w16) hbP; obtain ⟨nc0, ncf, nlo, nlt⟩ := hN)); (try (with_reducible have hN := new_cellD (Below.refl w16.heap.size w16) hbP; obtain ⟨nc0, ncf, nlo, nlt⟩ := hN)); have hqz := hbP.size; have hqs : w16.heap.size ≤ _ := (by first | with_reducible exact q.size | with_reducible exact (belowAl q _).size); have q : Below w16.heap.size w16 wP := (by first | with_reducible exact kq q hbP | with_reducible exact kq (belowAl q _) hbP | with_reducible exact kq q0 hbP | with_reducible exact kq (belowAl (Below.refl _ _) _).drew hbP | with_reducible exact kq (belowAl q0 _) hbP); unfold TreeV))
          all_goals
            go_wp2_with fail
            go_meet
            case rel => first | with_reducible exact cutR_mk hR hel hqs hqz q | exact cutR_mk hR hel hqs hqz q | exact cutR_mk' hR hel nlo nlt hqz q nc0
        case rest =>
          obtain ⟨us', c', ad17, cap17, k2, k3, nbh, rfl, rfl, hrem', he17, u17, _, _, hk3, _, _, _, hb17⟩ := hcut
          obtain ⟨rfl, rfl⟩ := over_one HR.out hrem'
          obtain ⟨w17, hw17⟩ : ∃ x, x = wc := ⟨_, rfl⟩
          subst hw17
          have hbx17 := hbx16.trans (hb17.mono hbx16.size)
          replace hS := hS.later hb17
          replace v15 := cell_later hb17 v15
          replace hV15 := hV15.below hVh hb17
          replace hVh : b6 ≤ w17.heap.size := Nat.le_trans hVh hb17.size
          clear hrem' q0 kq hE2 hF2 hb17 hbx16 hxa hxb
          have y := hS.cell
          have heq := eqTree_any _ _ cap17 cap3 us w17 he17.es hS.es hul
          go_wp2_with fail
          refine heq.mono ?_
          rintro e w18 ⟨rfl, hb18⟩
          have hbx18 := hbx17.trans (hb18.mono hbx17.size)
          replace v15 := cell_later hb18 v15
          replace hV15 := hV15.below hVh hb18
          clear heq y hS hb18 hbx17 u17 he17
          have hhd := heldTree_any _ cap6 us.length w18 hV15.es hul
          go_wp2_with fail
          refine hhd.mono ?_
          rintro e w19 ⟨rfl, hb19⟩
          have hbx19 := hbx18.trans (hb19.mono hbx18.size)
          clear hhd hb19 hbx18 v15 hV15
          go_wp2
          go_ret
          exact ⟨rfl, hbx19⟩

set_option maxRecDepth 100000 in
theorem lifted (os : Os) (started : os.Started) (H : Type) (enc : TypeId × Value → H) :
    ReturnsInHanded {} Try.checked os 5 .any (Rows.fnExactOverlaySpec.pre6 enc Try.prog Try.f5 Rows.fnExactOverlayRow.domain false) (Rows.fnExactOverlaySpec.post enc Try.prog Try.f5 false true false false) := by
  refine returnsInHanded_of_change (C := Try.checked) own started (by kernel_rfl) Try.func5
    (ChangeSpec.witness6 (enc := enc) (C := Try.checked) false ⟨#[], #[.agg #[.slice none 0 0], .agg #[.slice none 0 0]], []⟩ 8 (by kernel_rfl) (by kernel_rfl) (by kernel_rfl) (by kernel_rfl)) ?_
  intro W base args ds gs before hval0 hW hcnd _
  have hval : ∀ (j : Nat) t v, Try.f5.params[j]? = some t → args[j]? = some v → Value.okWide Try.prog W .any base t v := hval0
  have hW' := hW
  obtain ⟨p, q, hA0, hV, rfl, hfz, hnd⟩ := hW
  have hA : DataW.TrodAll enc Try.prog W 0 (fun _ => true) true Try.f5.params.toList args.toList ds p := hA0
  rw [Try.params5] at hA hval
  obtain ⟨v0, vs0, d0, ds0, p0, q0, hargs, rfl, rfl, h0, r0⟩ := trodAll_cons hA
  obtain ⟨v1, vs1, d1, ds1, p1, q1, rfl, rfl, rfl, h1, r1⟩ := trodAll_cons r0
  obtain ⟨rfl, rfl, rfl⟩ := trodAll_nil r1
  obtain rfl : args = #[v0, v1] := by cases args; simp_all
  obtain ⟨rfl, rfl⟩ := trodVars_none hV
  have k0 := h0
  have lt0 : ∀ x ∈ p0, x.block < W.heap.size := by obtain ⟨m, hm⟩ := k0; exact DataW.trod_lt m _ _ _ hm
  have k1 := h1
  have lt1 : ∀ x ∈ p1, x.block < W.heap.size := by obtain ⟨m, hm⟩ := k1; exact DataW.trod_lt m _ _ _ hm
  obtain ⟨a1, cap1, bs, rfl, hss1, hn1, hm1⟩ := open_tree (hval 1 24 v1 rfl rfl) h1
  obtain ⟨a0, cap0, ts, rfl, hss, hn, hm⟩ := open_tree (hval 0 24 v0 rfl rfl) h0
  clear hA0 hval0
  refine (walk a0 a1 cap0 cap1 ts bs W hss hss1 hn hn1 hm hm1).mono fun e W' ⟨he, bel⟩ => ?_
  subst he
  exact ⟨_, rfl, _, _, _, [], _, [], hW', trodAll_mk1 (shut_bool Try.underlying4 _), (trodAll_cons_mk (Below.trod laidOut (by kernel_rfl) (of_decide_eq_true (by kernel_rfl)) k0 bel lt0) (trodAll_cons_mk (Below.trod laidOut (by kernel_rfl) (of_decide_eq_true (by kernel_rfl)) k1 bel lt1) trodAll_mk0)), rfl, bel.frame _, fun h => by cases h⟩

theorem over : Rows.fnExactOverlayRow.holds Try.pinned (OpenSpec.ofChange Rows.fnExactOverlaySpec) :=
  OpenClaim.holds_of_wide 5 Try.f5 rfl rfl rfl rfl rfl rfl rfl ⟨rfl, rfl, rfl, rfl, rfl⟩ rfl rfl rfl rfl rfl (by kernel_rfl) Try.func5 (by kernel_rfl)
    (of_decide_eq_true (by kernel_rfl)) (by unfold Func.isWrapper; first | (rw [if_pos (by decide +kernel)]; kernel_rfl) | (rw [if_neg (by decide +kernel)]; exact ⟨rfl, rfl⟩))
    (fun os started H enc _ => lifted os started H enc)

theorem proved : Rows.FnExactOverlaySaid := over
end Go.Proofs.Ytmeodgcnnjkilaa.fnExactOverlay
