/-
  'FnExactPut': the walk out of the contracts; the frame.
-/
import Derived.Test.YtmeodgcnnjkilaaHeldE
import Derived.Test.YtmeodgcnnjkilaaPutI
import Derived.Test.YtmeodgcnnjkilaaEntries
import Derived.Test.YtmeodgcnnjkilaaPutS
import Derived.Test.YtmeodgcnnjkilaaTreeLaw
import Derived.Test.YtmeodgcnnjkilaaOpenTree
import Derived.Test.YtmeodgcnnjkilaaSizeL
namespace Go.Proofs.Ytmeodgcnnjkilaa.fnExactPut
open Go.ChangeShapes Go.WideShapes Go.ChangeAt Go.RowKit
set_option linter.unusedVariables false

theorem own : ownKnob Try.prog.godebug = none := by kernel_rfl
theorem laidOut : laidOutB Try.prog = true := by kernel_rfl

theorem eqi (c : Int) : (c == c) = true := by simp
theorem nei (c : Int) : (c != c) = false := by simp

set_option maxRecDepth 100000 in
set_option maxHeartbeats 8000000 in
theorem walk (a : Option Addr) (cap : Nat) (ts : List En) (en : En) (w : World) (hss : ES w a ts) (hn : ts.length ≤ maxLen) (hm : ∀ s ∈ ts, s.path.size ≤ maxLen ∧ s.text.size ≤ maxLen) (hem : en.path.size ≤ maxLen ∧ en.text.size ≤ maxLen) :
    Calls Try.prog 3 #[.agg #[.slice a ts.length cap], .agg #[.string en.path, .string en.text, .bool en.runs]] w fun e w' => e = .returned (.bool true) ∧ Below w.heap.size w w' := by
  have hb0 : Below w.heap.size w ((w.alloc (.cells #[.slice a ts.length cap] 24)).alloc (.cells #[.string en.path, .string en.text, .bool en.runs] 26)) := ((Below.refl _ _).alloc (Nat.le_refl _) _).alloc (by simp) _
  have hx0 : ((w.alloc (.cells #[.slice a ts.length cap] 24)).alloc (.cells #[.string en.path, .string en.text, .bool en.runs] 26)).cell? ⟨w.heap.size, 0, none⟩ = some (.slice a ts.length cap) := by simp [go_sem]
  have he0 : ((w.alloc (.cells #[.slice a ts.length cap] 24)).alloc (.cells #[.string en.path, .string en.text, .bool en.runs] 26)).cell? ⟨w.heap.size + 1, 0, none⟩ = some (.string en.path) := by simp [go_sem]
  have he1 : ((w.alloc (.cells #[.slice a ts.length cap] 24)).alloc (.cells #[.string en.path, .string en.text, .bool en.runs] 26)).cell? ⟨w.heap.size + 1, 1, none⟩ = some (.string en.text) := by simp [go_sem]
  have he2 : ((w.alloc (.cells #[.slice a ts.length cap] 24)).alloc (.cells #[.string en.path, .string en.text, .bool en.runs] 26)).cell? ⟨w.heap.size + 1, 2, none⟩ = some (.bool en.runs) := by simp [go_sem]
  have hz0 : w.heap.size + 1 < ((w.alloc (.cells #[.slice a ts.length cap] 24)).alloc (.cells #[.string en.path, .string en.text, .bool en.runs] 26)).heap.size := by simp [go_sem]
  go_enter Try.func3, Try.ntmps3
  go_wp2_with fail
  refine (szTreeL_any 1048576 (Nat.le_refl _) a cap ts _ (hss.below hb0) hn hm).mono ?_
  rintro e w1 ⟨r, rfl, hb1, hr⟩
  generalize (w.alloc (.cells #[.slice a ts.length cap] 24)).alloc (.cells #[.string en.path, .string en.text, .bool en.runs] 26) = w0 at *
  obtain ⟨T, hT⟩ : ∃ T, T = w.heap.size := ⟨_, rfl⟩
  obtain ⟨Te, hTe⟩ : ∃ Te, Te = w.heap.size + 1 := ⟨_, rfl⟩
  have hTw : Keep (T = w.heap.size ∧ Te = T + 1) := ⟨by omega⟩
  rw [← hTe] at he0 he1 he2 hz0 ⊢
  rw [← hT] at hx0 ⊢
  have hbx1 := hb0.trans (hb1.mono hb0.size)
  replace hx0 := cell_later hb1 hx0
  replace he0 := cell_later hb1 he0
  replace he1 := cell_later hb1 he1
  replace he2 := cell_later hb1 he2
  have hz1 : Te < w1.heap.size := Nat.lt_of_lt_of_le hz0 hb1.size
  clear hb0 hb1 hz0 hT hTe
  rcases hr with hr | ⟨hr, hr', hle⟩
  · have hr0 : r < 0 := by omega
    clear hr
    go_wp2
    go_ret
    exact ⟨rfl, hbx1⟩
  have hr0 : ¬ r < 0 := by omega
  have hn' : ts.length ≤ 1048576 := by omega
  have hz : ∀ e ∈ ts, e.path.size ≤ 1048576 ∧ e.text.size ≤ 1048576 := fun e he => by have := size_le_totalE ts e he; omega
  have hrb : 0 ≤ r ∧ r ≤ 1048576 := by omega
  clear hr
  go_wp2_with fail
  refine (szEntry_any en r w1 hrb hem).mono ?_
  rintro e w2 ⟨rfl, hb2⟩
  have hbx2 := hbx1.trans (hb2.mono hbx1.size)
  replace hx0 := cell_later hb2 hx0
  replace he0 := cell_later hb2 he0
  replace he1 := cell_later hb2 he1
  replace he2 := cell_later hb2 he2
  have hz2 : Te < w2.heap.size := Nat.lt_of_lt_of_le hz1 hb2.size
  clear hb2 hbx1 hz1
  by_cases hbig : r - (en.path.size + en.text.size) < 0
  · rw [if_pos hbig]
    go_wp2
    go_ret
    exact ⟨rfl, hbx2⟩
  rw [if_neg hbig]
  have hep : en.path.size ≤ 1048576 := by omega
  have hE2 := hss.below hbx2
  have HB : Keep (¬ r - (en.path.size + en.text.size) < 0) := ⟨hbig⟩
  generalize r - (en.path.size + en.text.size) = r2 at *
  have hz2s : w2.heap.size ≤ w2.heap.size := Nat.le_refl _
  have q0 : Below w2.heap.size w2 w2.drew := (Below.refl _ _).drew
  have kq : ∀ {W W' : World}, Below w2.heap.size w2 W → Below W.heap.size W W' → Below w2.heap.size w2 W' := fun h h' => h.trans (h'.mono h.size)
  go_upto_region 8 with fail
  go_cut [6, 7] (fun p cc wx => CutR (PutR ts en) w2 p cc wx)
  case first =>
    rename_i K1 ha2 J1 K2 ha1 ha0
    clear ha2 hss hn hm hem hbx2 hle hz hrb hr0 hbig HB hr' hz2 hz2s hep
    have hx0a := cellAl hx0
    have he0a := cellAl he0
    have he1a := cellAl he1
    have he2a := cellAl he2
    go_region_with (first | (go_at_call 10; refine (toTree_any a cap ts _ ?_ hn').mono ?_; exact hE2.below (by first | with_reducible exact q | with_reducible exact belowAl q _ | with_reducible exact q0 | with_reducible exact (belowAl (Below.refl _ _) _).drew | with_reducible exact belowAl q0 _); rintro e wT ⟨gT, rfl, hES, hbT, _⟩; (try (with_reducible have hN := keep_cell nc0 ncf nlo hbT; obtain ⟨nc0, ncf, nlo, nlt⟩ := hN)); (try (with_reducible have hN := new_cell q hbT; obtain ⟨nc0, ncf, nlo, nlt⟩ := hN)); (try (with_reducible have hN := new_cell (Below.refl w2.heap.size w2) hbT; obtain ⟨nc0, ncf, nlo, nlt⟩ := hN)); (try (with_reducible have hN := new_cellD (Below.refl w2.heap.size w2) hbT; obtain ⟨nc0, ncf, nlo, nlt⟩ := hN)); have q : Below w2.heap.size w2 wT := (by first | with_reducible exact kq q hbT | with_reducible exact kq (belowAl q _) hbT | with_reducible exact kq q0 hbT | with_reducible exact kq (belowAl (Below.refl _ _) _).drew hbT | with_reducible exact kq (belowAl q0 _) hbT); have c0 := cell_later q he0; have c1 := cell_later q he1; have c2 := cell_later q he2; have c0a := cellAl c0; have c1a := cellAl c1; have c2a := cellAl c2) | (go_at_call 11; refine (toEntry_any en _).mono ?_; rintro e wE ⟨rfl, hbE⟩; (try (with_reducible have hN := keep_cell nc0 ncf nlo hbE; obtain ⟨nc0, ncf, nlo, nlt⟩ := hN)); (try (with_reducible have hN := new_cell q hbE; obtain ⟨nc0, ncf, nlo, nlt⟩ := hN)); (try (with_reducible have hN := new_cell (Below.refl w2.heap.size w2) hbE; obtain ⟨nc0, ncf, nlo, nlt⟩ := hN)); (try (with_reducible have hN := new_cellD (Below.refl w2.heap.size w2) hbE; obtain ⟨nc0, ncf, nlo, nlt⟩ := hN)); have q : Below w2.heap.size w2 wE := (by first | with_reducible exact kq q hbE | with_reducible exact kq (belowAl q _) hbE | with_reducible exact kq q0 hbE | with_reducible exact kq (belowAl (Below.refl _ _) _).drew hbE | with_reducible exact kq (belowAl q0 _) hbE); have cT := cell_later q hx0; have cTa := cellAl cT; (first | (with_reducible have hES := hES.below hbE) | (with_reducible have hES := (hES.below ((Below.refl _ _).alloc (Nat.le_refl _) _)).below hbE))) | (go_at_call 9; refine (specPut_any _ _ ts en _ ?_ hn').mono ?_; (first | with_reducible exact hES | with_reducible exact hES.below ((Below.refl _ _).alloc (Nat.le_refl _) _)); rintro e wP ⟨us, c, hR, ⟨ad, cp, rfl, hel⟩, hbP⟩; (try (with_reducible have hN := keep_cell nc0 ncf nlo hbP; obtain ⟨nc0, ncf, nlo, nlt⟩ := hN)); (try (with_reducible have hN := new_cell q hbP; obtain ⟨nc0, ncf, nlo, nlt⟩ := hN)); (try (with_reducible have hN := new_cell (Below.refl w2.heap.size w2) hbP; obtain ⟨nc0, ncf, nlo, nlt⟩ := hN)); (try (with_reducible have hN := new_cellD (Below.refl w2.heap.size w2) hbP; obtain ⟨nc0, ncf, nlo, nlt⟩ := hN)); have hqz := hbP.size; have hqs : w2.heap.size ≤ _ := (by first | with_reducible exact q.size | with_reducible exact (belowAl q _).size); have q : Below w2.heap.size w2 wP := (by first | with_reducible exact kq q hbP | with_reducible exact kq (belowAl q _) hbP | with_reducible exact kq q0 hbP | with_reducible exact kq (belowAl (Below.refl _ _) _).drew hbP | with_reducible exact kq (belowAl q0 _) hbP); unfold TreeV))
    all_goals
      go_wp2_with fail
      go_meet
      case rel => first | with_reducible exact cutR_mk hR hel hqs hqz q | exact cutR_mk hR hel hqs hqz q | exact cutR_mk' hR hel nlo nlt hqz q nc0
  case rest =>
    obtain ⟨us, c, ad3, cap3, n2, n3, nb6, rfl, rfl, hrem, he3, y3, hn2, hn23, hn3, hnb, hnbW, hap3, hb3⟩ := hcut
    obtain ⟨w3c, hw3c⟩ : ∃ x, x = wc := ⟨_, rfl⟩
    subst hw3c
    clear q0 kq hz2s
    have hbx3 := hbx2.trans (hb3.mono hbx2.size)
    have hx3 := cell_later hb3 hx0
    have f0 := cell_later hb3 he0
    have f1 := cell_later hb3 he1
    have f2 := cell_later hb3 he2
    have hus := put_few hrem
    have HR : Keep (PutR ts en us c) := ⟨hrem⟩
    have HZ : Keep (∀ e ∈ ts, e.path.size ≤ 1048576 ∧ e.text.size ≤ 1048576) := ⟨hz⟩
    have HS3 : Keep (w.heap.size ≤ T ∧ T < w2.heap.size ∧ Te < w2.heap.size ∧ w2.heap.size ≤ n2 ∧ n2 ≤ n3 ∧ n3 ≤ w3c.heap.size ∧ w2.heap.size ≤ nb6 ∧ nb6 < w3c.heap.size) := ⟨by have := hTw.out; omega⟩
    clear hx0 he0 he1 he2 hrem hb3 hz hn2 hn23 hn3 hnb hnbW hap3 hE2 hz2 hbx2
    go_wp2_with fail
    refine (toTree_any a cap ts w3c (hss.below hbx3) hn').mono ?_
    rintro e w4 ⟨g4, rfl, hs4, hb4, hg4, hf4, hl4⟩
    have he4 := ein_of_toTree hs4 hg4 hf4 hl4
    have hbx4 := hbx3.trans (hb4.mono hbx3.size)
    have hx4 := cell_later hb4 hx3
    replace f0 := cell_later hb4 f0
    replace f1 := cell_later hb4 f1
    replace f2 := cell_later hb4 f2
    have y4 := cell_later hb4 y3
    have he34 := he3.below (by have := HS3.out; omega) hb4
    have HZ4 : Keep (w3c.heap.size ≤ w4.heap.size) := ⟨hb4.size⟩
    clear hx3 y3 hbx3 he3 hb4 hs4 hf4 hg4 hl4
    have ha4 : Below w4.heap.size w4 (w4.alloc (.cells #[.slice (some ⟨g4, 0, none⟩) ts.length ts.length] 31)) := (Below.refl _ _).alloc (Nat.le_refl _) _
    have x4 : (w4.alloc (.cells #[.slice (some ⟨g4, 0, none⟩) ts.length ts.length] 31)).cell? ⟨w4.heap.size, 0, none⟩ = some (.slice (some ⟨g4, 0, none⟩) ts.length ts.length) := by simp
    have hz4' : (w4.alloc (.cells #[.slice (some ⟨g4, 0, none⟩) ts.length ts.length] 31)).heap.size = w4.heap.size + 1 := by simp
    have hx5 := cell_later ha4 hx4
    replace f0 := cell_later ha4 f0
    replace f1 := cell_later ha4 f1
    replace f2 := cell_later ha4 f2
    have y5 := cell_later ha4 y4
    have hbx5 := hbx4.trans (ha4.mono hbx4.size)
    have he45 := he4.below (Nat.le_refl _) ha4
    have he35 := he34.below (by have := HS3.out; have := HZ4.out; omega) ha4
    go_upto_region 10 with fail
    generalize w4.alloc (.cells #[.slice (some ⟨g4, 0, none⟩) ts.length ts.length] 31) = w4p at *
    have HS4 : Keep (w.heap.size ≤ T ∧ T < w2.heap.size ∧ Te < w2.heap.size ∧ w2.heap.size ≤ n2 ∧ n2 ≤ n3 ∧ n3 ≤ w3c.heap.size ∧ w2.heap.size ≤ nb6 ∧ nb6 < w3c.heap.size ∧ w3c.heap.size ≤ w4.heap.size ∧ w4p.heap.size = w4.heap.size + 1) := ⟨by have := HS3.out; have := HZ4.out; omega⟩
    have hE4 := he45.es
    have s0 : Below w4p.heap.size w4p w4p.drew := (Below.refl _ _).drew
    have ks : ∀ {W W' : World}, Below w4p.heap.size w4p W → Below W.heap.size W W' → Below w4p.heap.size w4p W' := fun h h' => h.trans (h'.mono h.size)
    clear hz4' ha4 hx4 y4 hbx4 he4 he34 HS3 HZ4
    go_cut [9, 10] (fun p cc wx => CutR (PutR ts en) w4p p cc wx)
    case first =>
      rename_i K1 ha2 J1 K2 ha1 ha0
      clear ha2 hss hn hm hem hle hrb hr0 hbig HB hr' hx5 y5 hbx5 he45 he35 hus HR HS4
      have x4a := cellAl x4
      have f0a := cellAl f0
      have f1a := cellAl f1
      have f2a := cellAl f2
      go_region_with (first | (go_at_call 11; refine (toEntry_any en _).mono ?_; rintro e wE ⟨rfl, hbE⟩; (try (with_reducible have hN := keep_cell nc0 ncf nlo hbE; obtain ⟨nc0, ncf, nlo, nlt⟩ := hN)); (try (with_reducible have hN := new_cell q hbE; obtain ⟨nc0, ncf, nlo, nlt⟩ := hN)); (try (with_reducible have hN := new_cell (Below.refl w4p.heap.size w4p) hbE; obtain ⟨nc0, ncf, nlo, nlt⟩ := hN)); (try (with_reducible have hN := new_cellD (Below.refl w4p.heap.size w4p) hbE; obtain ⟨nc0, ncf, nlo, nlt⟩ := hN)); have q : Below w4p.heap.size w4p wE := (by first | with_reducible exact ks q hbE | with_reducible exact ks (belowAl q _) hbE | with_reducible exact ks s0 hbE | with_reducible exact ks (belowAl (Below.refl _ _) _).drew hbE | with_reducible exact ks (belowAl s0 _) hbE); have cT := cell_later q x4; have cTa := cellAl cT) | (go_at_call 12; refine (implPut_any _ _ ts en _ ?_ hn' HZ.out hep).mono ?_; exact hE4.below (by first | with_reducible exact q | with_reducible exact belowAl q _); rintro e wP ⟨us', c', hR, ⟨ad, cp, rfl, hel⟩, hbP⟩; (try (with_reducible have hN := keep_cell nc0 ncf nlo hbP; obtain ⟨nc0, ncf, nlo, nlt⟩ := hN)); (try (with_reducible have hN := new_cell q hbP; obtain ⟨nc0, ncf, nlo, nlt⟩ := hN)); (try (with_reducible have hN := new_cell (Below.refl w4p.heap.size w4p) hbP; obtain ⟨nc0, ncf, nlo, nlt⟩ := hN)); (try (with_reducible have hN := new_cellD (Below.refl w4p.heap.size w4p) hbP; obtain ⟨nc0, ncf, nlo, nlt⟩ := hN)); have hqz := hbP.size; have hqs : w4p.heap.size ≤ _ := (by first | with_reducible exact q.size | with_reducible exact (belowAl q _).size); have q : Below w4p.heap.size w4p wP := (by first | with_reducible exact ks q hbP | with_reducible exact ks (belowAl q _) hbP | with_reducible exact ks s0 hbP | with_reducible exact ks (belowAl (Below.refl _ _) _).drew hbP | with_reducible exact ks (belowAl s0 _) hbP); unfold TreeV))
      all_goals
        go_wp2_with fail
        go_meet
        case rel => first | with_reducible exact cutR_mk hR hel hqs hqz q | exact cutR_mk hR hel hqs hqz q | exact cutR_mk' hR hel nlo nlt hqz q nc0
    case rest =>
      obtain ⟨us', c', ad5, cap5, m2, m3, nb9, rfl, rfl, hrem', he5, v5, hm2, hm23, hm3, hnb9, hnbW9, hap9, hb5⟩ := hcut
      obtain ⟨rfl, rfl⟩ := put_one HR.out hrem'
      obtain ⟨w6, hw6⟩ : ∃ x, x = wc := ⟨_, rfl⟩
      subst hw6
      have hx6 := cell_later hb5 hx5
      replace f0 := cell_later hb5 f0
      replace f1 := cell_later hb5 f1
      replace f2 := cell_later hb5 f2
      have y6 := cell_later hb5 y5
      have x6 := cell_later hb5 x4
      have hbx6 := hbx5.trans (hb5.mono hbx5.size)
      have he36 := he35.below (by have := HS4.out; omega) hb5
      have he46 := he45.below (by have := HS4.out; omega) hb5
      have HS : Keep (w.heap.size ≤ T ∧ T < w2.heap.size ∧ Te < w2.heap.size ∧ w2.heap.size ≤ n2 ∧ n2 ≤ n3 ∧ n3 ≤ w3c.heap.size ∧ w2.heap.size ≤ nb6 ∧ nb6 < w3c.heap.size ∧ w3c.heap.size ≤ w4.heap.size ∧ w4.heap.size < m2 ∧ m2 ≤ m3 ∧ m3 ≤ w6.heap.size ∧ w4.heap.size < nb9 ∧ nb9 < w6.heap.size ∧ (nb9 < m2 ∨ m3 ≤ nb9)) := ⟨by have := HS4.out; omega⟩
      have hul : us.length ≤ 1048576 := by omega
      clear hx5 y5 x4 hbx5 he35 he45 hb5 hrem' hm2 hm23 hm3 hnb9 hnbW9 hap9 HS4 hE4 s0 ks
      have h1 := eqi c
      have h2 := nei c
      go_wp2_with fail
      refine (eqTree_any _ _ _ _ us w6 he5.es he36.es hul).mono ?_
      rintro e w7 ⟨rfl, hb7⟩
      have hx7 := cell_later hb7 hx6
      replace f0 := cell_later hb7 f0
      replace f1 := cell_later hb7 f1
      replace f2 := cell_later hb7 f2
      have y7 := cell_later hb7 y6
      have x7 := cell_later hb7 x6
      have v7 := cell_later hb7 v5
      have hbx7 := hbx6.trans (hb7.mono hbx6.size)
      have he37 := he36.below (by have := HS.out; omega) hb7
      have he47 := he46.below (by have := HS.out; omega) hb7
      have he57 := he5.below (by have := HS.out; omega) hb7
      have HZ7 : Keep (w6.heap.size ≤ w7.heap.size) := ⟨hb7.size⟩
      clear hx6 y6 x6 v5 hbx6 he36 he46 he5 hb7
      go_upto_region 13 with fail
      go_cut [56] (fun v wx => v = .bool false ∧ Below w7.heap.size w7 wx)
      case first =>
        rename_i K1 ha2 J1 K2 ha1 ha0
        clear ha2
        have hc : ∀ x : Later w7, x.world.cell? ⟨w4.heap.size, 0, none⟩ = some (.slice (some ⟨g4, 0, none⟩) ts.length ts.length) := fun x => cell_later x.kept x7
        go_region_with (first | (go_at_call 10; refine (toTree_any a cap ts _ ?_ hn').mono ?_; exact hss.below hbx7.drew; rintro e w8 ⟨g8, rfl, hs8, hb8, _⟩; have x8 := cell_later (w := w7.drew) hb8 x7) | (go_at_call 13; refine (eqTree_any _ _ _ _ ts _ ?_ hs8 hn').mono ?_; exact ES.below (w := w7.drew) he47.es hb8; rintro e w9 ⟨rfl, hb9⟩))
        all_goals
          have hb79 : Below w7.heap.size w7 w9 := ((Below.refl w7.heap.size w7).drew.trans (hb8.mono (Nat.le_refl _))).trans (hb9.mono hb8.size)
          go_wp2_with fail
          go_meet
          case rel => exact ⟨rfl, hb79⟩
      case rest =>
        obtain ⟨rfl, hb79⟩ := hcut
        obtain ⟨w9, hw9⟩ : ∃ x, x = wc := ⟨_, rfl⟩
        subst hw9
        have hx9 := cell_later hb79 hx7
        replace f0 := cell_later hb79 f0
        replace f1 := cell_later hb79 f1
        replace f2 := cell_later hb79 f2
        have y9 := cell_later hb79 y7
        have x9 := cell_later hb79 x7
        have v9 := cell_later hb79 v7
        have hbx9 := hbx7.trans (hb79.mono hbx7.size)
        have he39 := he37.below (by have := HS.out; have := HZ7.out; omega) hb79
        have he49 := he47.below (by have := HS.out; have := HZ7.out; omega) hb79
        have he59 := he57.below (by have := HS.out; have := HZ7.out; omega) hb79
        have HZ9 : Keep (w6.heap.size ≤ w9.heap.size) := ⟨Nat.le_trans HZ7.out hb79.size⟩
        have hneg : ¬ ((1 + 3 * ts.length : Nat) : Int) < 0 := by omega
        clear hx7 y7 x7 v7 hbx7 he37 he47 he57 hb79 HZ7
        go_wp2_with fail
        refine (markT_any _ _ ts _ _ w9 he49 (by have := HS.out; have := HZ9.out; omega) hn').mono ?_
        rintro e w10 ⟨rfl, he410, row, hg10, hr10⟩
        have hx10 := cell_grown hx9 (by have := HS.out; have := HZ9.out; omega) hg10 (fun r e => by have := hr10 r e; have := HS.out; omega)
        have F0 : w10.heap[Te]? = w9.heap[Te]? := hg10.block Te (by have := HS.out; have := HZ9.out; omega) (fun e => by have := hr10 Te e.symm; have := HS.out; omega)
        replace f0 := (World.cell?_of_block F0).trans f0
        replace f1 := (World.cell?_of_block F0).trans f1
        replace f2 := (World.cell?_of_block F0).trans f2
        have y10 := cell_grown y9 (by have := HS.out; have := HZ9.out; omega) hg10 (fun r e => by have := hr10 r e; have := HS.out; omega)
        have v10 := cell_grown v9 (by have := HS.out; have := HZ9.out; omega) hg10 (fun r e => by have := hr10 r e; have := HS.out; omega)
        have he310 := he39.grown (by have := HS.out; have := HZ9.out; omega) hg10 (fun r e => by have := hr10 r e; have := HS.out; omega)
        have he510 := he59.grown (by have := HS.out; have := HZ9.out; omega) hg10 (fun r e => by have := hr10 r e; have := HS.out; omega)
        have hbx10 := below_marks hbx9 hbx9.size hg10 hr10 (by have := HS.out; omega)
        have HZ10 : Keep (w6.heap.size ≤ w10.heap.size) := ⟨Nat.le_trans HZ9.out hg10.size⟩
        clear hx9 y9 x9 v9 he39 he49 he59 hbx9 hg10 hr10 he410 HZ9 F0
        go_wp2_with fail
        refine (eqTree_any _ _ _ _ us w10 he510.es he310.es hul).mono ?_
        rintro e w11 ⟨rfl, hb11⟩
        have hx11 := cell_later hb11 hx10
        replace f0 := cell_later hb11 f0
        replace f1 := cell_later hb11 f1
        replace f2 := cell_later hb11 f2
        have y11 := cell_later hb11 y10
        have v11 := cell_later hb11 v10
        have hbx11 := hbx10.trans (hb11.mono hbx10.size)
        have he311 := he310.below (by have := HS.out; have := HZ10.out; omega) hb11
        have he511 := he510.below (by have := HS.out; have := HZ10.out; omega) hb11
        have HZ11 : Keep (w6.heap.size ≤ w11.heap.size) := ⟨Nat.le_trans HZ10.out hb11.size⟩
        clear hx10 y10 v10 hbx10 he310 he510 hb11 HZ10
        go_wp2_with fail
        refine (markT_any _ _ us _ _ w11 he511 (by have := HS.out; have := HZ11.out; omega) hul).mono ?_
        rintro e w12 ⟨rfl, he512, row2, hg12, hr12⟩
        have hx12 := cell_grown hx11 (by have := HS.out; have := HZ11.out; omega) hg12 (fun r e => by have := hr12 r e; have := HS.out; omega)
        have F0 : w12.heap[Te]? = w11.heap[Te]? := hg12.block Te (by have := HS.out; have := HZ11.out; omega) (fun e => by have := hr12 Te e.symm; have := HS.out; omega)
        replace f0 := (World.cell?_of_block F0).trans f0
        replace f1 := (World.cell?_of_block F0).trans f1
        replace f2 := (World.cell?_of_block F0).trans f2
        have y12 := cell_grown y11 (by have := HS.out; have := HZ11.out; omega) hg12 (fun r e => by have := hr12 r e; have := HS.out; omega)
        have v12 := cell_grown v11 (by have := HS.out; have := HZ11.out; omega) hg12 (fun r e => by have := hr12 r e; have := HS.out; omega)
        have he312 := he311.grown (by have := HS.out; have := HZ11.out; omega) hg12 (fun r e => by have := hr12 r e; have := HS.out; omega)
        have hbx12 := below_marks hbx11 hbx11.size hg12 hr12 (by have := HS.out; omega)
        have HZ12 : Keep (w6.heap.size ≤ w12.heap.size) := ⟨Nat.le_trans HZ11.out hg12.size⟩
        clear hx11 y11 v11 hbx11 he311 he511 hg12 hr12 HZ11 F0
        go_wp2_with fail
        refine (heldTree_any _ _ us.length w12 he512.es hul).mono ?_
        rintro e w13 ⟨rfl, hb13⟩
        have hx13 := cell_later hb13 hx12
        replace f0 := cell_later hb13 f0
        replace f1 := cell_later hb13 f1
        replace f2 := cell_later hb13 f2
        have y13 := cell_later hb13 y12
        have v13 := cell_later hb13 v12
        have hbx13 := hbx12.trans (hb13.mono hbx12.size)
        have he313 := he312.below (by have := HS.out; have := HZ12.out; omega) hb13
        have he513 := he512.below (by have := HS.out; have := HZ12.out; omega) hb13
        have HZ13 : Keep (w6.heap.size ≤ w13.heap.size) := ⟨Nat.le_trans HZ12.out hb13.size⟩
        have hneg2 : ¬ ((1 + 3 * us.length : Nat) : Int) < 0 := by omega
        have hE13 := hss.below hbx13
        have r0 : Below w13.heap.size w13 w13.drew := (Below.refl _ _).drew
        have kr : ∀ {W W' : World}, Below w13.heap.size w13 W → Below W.heap.size W W' → Below w13.heap.size w13 W' := fun h h' => h.trans (h'.mono h.size)
        clear hx12 y12 v12 hbx12 he312 he512 hb13 HZ12
        go_upto_region 27 with fail
        go_cut [14, 15] (fun p cc wx => CutR (PutR ts en) w13 p cc wx)
        case first =>
          rename_i K1 ha2 J1 K2 ha1 ha0
          clear ha2 hss hn hm hem hle hrb hr0 hbig HB hr' y13 v13 hbx13 he313 he513 hus HR HS hneg hneg2 h1 h2
          have hx13a := cellAl hx13
          have f0a := cellAl f0
          have f1a := cellAl f1
          have f2a := cellAl f2
          go_region_with (first | (go_at_call 10; refine (toTree_any a cap ts _ ?_ hn').mono ?_; exact hE13.below (by first | with_reducible exact q | with_reducible exact belowAl q _ | with_reducible exact r0 | with_reducible exact (belowAl (Below.refl _ _) _).drew | with_reducible exact belowAl r0 _); rintro e wT ⟨gT, rfl, hES, hbT, _⟩; (try (with_reducible have hN := keep_cell nc0 ncf nlo hbT; obtain ⟨nc0, ncf, nlo, nlt⟩ := hN)); (try (with_reducible have hN := new_cell q hbT; obtain ⟨nc0, ncf, nlo, nlt⟩ := hN)); (try (with_reducible have hN := new_cell (Below.refl w13.heap.size w13) hbT; obtain ⟨nc0, ncf, nlo, nlt⟩ := hN)); (try (with_reducible have hN := new_cellD (Below.refl w13.heap.size w13) hbT; obtain ⟨nc0, ncf, nlo, nlt⟩ := hN)); have q : Below w13.heap.size w13 wT := (by first | with_reducible exact kr q hbT | with_reducible exact kr (belowAl q _) hbT | with_reducible exact kr r0 hbT | with_reducible exact kr (belowAl (Below.refl _ _) _).drew hbT | with_reducible exact kr (belowAl r0 _) hbT); have c0 := cell_later q f0; have c1 := cell_later q f1; have c2 := cell_later q f2; have c0a := cellAl c0; have c1a := cellAl c1; have c2a := cellAl c2) | (go_at_call 11; refine (toEntry_any en _).mono ?_; rintro e wE ⟨rfl, hbE⟩; (try (with_reducible have hN := keep_cell nc0 ncf nlo hbE; obtain ⟨nc0, ncf, nlo, nlt⟩ := hN)); (try (with_reducible have hN := new_cell q hbE; obtain ⟨nc0, ncf, nlo, nlt⟩ := hN)); (try (with_reducible have hN := new_cell (Below.refl w13.heap.size w13) hbE; obtain ⟨nc0, ncf, nlo, nlt⟩ := hN)); (try (with_reducible have hN := new_cellD (Below.refl w13.heap.size w13) hbE; obtain ⟨nc0, ncf, nlo, nlt⟩ := hN)); have q : Below w13.heap.size w13 wE := (by first | with_reducible exact kr q hbE | with_reducible exact kr (belowAl q _) hbE | with_reducible exact kr r0 hbE | with_reducible exact kr (belowAl (Below.refl _ _) _).drew hbE | with_reducible exact kr (belowAl r0 _) hbE); have cT := cell_later q hx13; have cTa := cellAl cT; (first | (with_reducible have hES := hES.below hbE) | (with_reducible have hES := (hES.below ((Below.refl _ _).alloc (Nat.le_refl _) _)).below hbE))) | (go_at_call 12; refine (implPut_any _ _ ts en _ ?_ hn' HZ.out hep).mono ?_; (first | with_reducible exact hES | with_reducible exact hES.below ((Below.refl _ _).alloc (Nat.le_refl _) _)); rintro e wP ⟨us, c, hR, ⟨ad, cp, rfl, hel⟩, hbP⟩; (try (with_reducible have hN := keep_cell nc0 ncf nlo hbP; obtain ⟨nc0, ncf, nlo, nlt⟩ := hN)); (try (with_reducible have hN := new_cell q hbP; obtain ⟨nc0, ncf, nlo, nlt⟩ := hN)); (try (with_reducible have hN := new_cell (Below.refl w13.heap.size w13) hbP; obtain ⟨nc0, ncf, nlo, nlt⟩ := hN)); (try (with_reducible have hN := new_cellD (Below.refl w13.heap.size w13) hbP; obtain ⟨nc0, ncf, nlo, nlt⟩ := hN)); have hqz := hbP.size; have hqs : w13.heap.size ≤ _ := (by first | with_reducible exact q.size | with_reducible exact (belowAl q _).size); have q : Below w13.heap.size w13 wP := (by first | with_reducible exact kr q hbP | with_reducible exact kr (belowAl q _) hbP | with_reducible exact kr r0 hbP | with_reducible exact kr (belowAl (Below.refl _ _) _).drew hbP | with_reducible exact kr (belowAl r0 _) hbP); unfold TreeV))
          all_goals
            go_wp2_with fail
            go_meet
            case rel => first | with_reducible exact cutR_mk hR hel hqs hqz q | exact cutR_mk hR hel hqs hqz q | exact cutR_mk' hR hel nlo nlt hqz q nc0
        case rest =>
          obtain ⟨us', c', ad15, cap15, k2, k3, nbh, rfl, rfl, hrem', he15, u15, _, _, hk3, _, _, _, hb15⟩ := hcut
          obtain ⟨rfl, rfl⟩ := put_one HR.out hrem'
          obtain ⟨w15, hw15⟩ : ∃ x, x = wc := ⟨_, rfl⟩
          subst hw15
          have y15 := cell_later hb15 y13
          have v15 := cell_later hb15 v13
          have hbx15 := hbx13.trans (hb15.mono hbx13.size)
          have he315 := he313.below (by have := HS.out; have := HZ13.out; omega) hb15
          have he515 := he513.below (by have := HS.out; have := HZ13.out; omega) hb15
          clear y13 v13 hbx13 he313 he513 hb15 hrem' r0 kr hE13
          go_wp2_with fail
          refine (eqTree_any _ _ _ _ us _ he15.es he315.es hul).mono ?_
          rintro e w17 ⟨rfl, hb17⟩
          have v17 := cell_later hb17 v15
          have hbx17 := hbx15.trans (hb17.mono hbx15.size)
          have hes17 := he515.es.below hb17
          clear y15 v15 hbx15 he315 he515 he15 hb17 u15
          go_wp2_with fail
          refine (heldTree_any _ _ us.length w17 hes17 hul).mono ?_
          rintro e w18 ⟨rfl, hb18⟩
          have hbx18 := hbx17.trans (hb18.mono hbx17.size)
          clear hb18 hbx17 v17 hes17
          go_wp2
          go_ret
          exact ⟨rfl, hbx18⟩

set_option maxRecDepth 100000 in
theorem open_en {H : Type} {enc : TypeId × Value → H} {W : World} {base : Nat} {v : Value} {d : DataW H} {p : List MemPlace} (hv : Value.okWide Try.prog W .any base 26 v) (h : DataW.Trod enc Try.prog W 0 (fun _ => true) true 26 v d p) :
    ∃ t : En, v = .agg #[.string t.path, .string t.text, .bool t.runs] ∧ t.path.size ≤ maxLen ∧ t.text.size ≤ maxLen := by
  obtain ⟨cs, rfl, hsz⟩ := okWide_struct Try.underlying26 hv
  rw [cellsEntry] at hsz
  obtain ⟨c0, c1, c2, rfl⟩ : ∃ c0 c1 c2, cs = #[c0, c1, c2] := by
    obtain ⟨l⟩ := cs
    match l, hsz with
    | [x, y, z], _ => exact ⟨x, y, z, rfl⟩
  obtain ⟨fuel, hf⟩ := h
  obtain ⟨y0, y1, y2, m, _, _, g0, g1, g2⟩ := Go.Deep.trod_struct3 Try.underlying26 hf
  simp only [cellsStr, cellsBool, Value.cells, List.drop, List.take] at g0 g1 g2
  obtain ⟨s0, e0, _, hs0⟩ := DataW.trod_string Try.underlying9 g0
  obtain ⟨s1, e1, _, hs1⟩ := DataW.trod_string Try.underlying9 g1
  obtain ⟨b2, e2, _⟩ := DataW.trod_bool Try.underlying4 g2
  simp at e0 e1 e2
  subst e0 e1 e2
  exact ⟨⟨s0, s1, b2⟩, rfl, hs0, hs1⟩

set_option maxRecDepth 100000 in
theorem lifted (os : Os) (started : os.Started) (H : Type) (enc : TypeId × Value → H) :
    ReturnsInHanded {} Try.checked os 3 .any (Rows.fnExactPutSpec.pre6 enc Try.prog Try.f3 Rows.fnExactPutRow.domain false) (Rows.fnExactPutSpec.post enc Try.prog Try.f3 false true false false) := by
  refine returnsInHanded_of_change (C := Try.checked) own started (by kernel_rfl) Try.func3
    (ChangeSpec.witness6 (enc := enc) (C := Try.checked) false ⟨#[], #[.agg #[.slice none 0 0], .agg #[.string ByteArray.empty, .string ByteArray.empty, .bool false]], []⟩ 8 (by kernel_rfl) (by kernel_rfl) (by kernel_rfl) (by kernel_rfl)) ?_
  intro W base args ds gs before hval0 hW hcnd _
  have hval : ∀ (j : Nat) t v, Try.f3.params[j]? = some t → args[j]? = some v → Value.okWide Try.prog W .any base t v := hval0
  have hW' := hW
  obtain ⟨p, q, hA0, hV, rfl, hfz, hnd⟩ := hW
  have hA : DataW.TrodAll enc Try.prog W 0 (fun _ => true) true Try.f3.params.toList args.toList ds p := hA0
  rw [Try.params3] at hA hval
  obtain ⟨v0, vs0, d0, ds0, p0, q0, hargs, rfl, rfl, h0, r0⟩ := trodAll_cons hA
  obtain ⟨v1, vs1, d1, ds1, p1, q1, rfl, rfl, rfl, h1, r1⟩ := trodAll_cons r0
  obtain ⟨rfl, rfl, rfl⟩ := trodAll_nil r1
  obtain rfl : args = #[v0, v1] := by cases args; simp_all
  obtain ⟨rfl, rfl⟩ := trodVars_none hV
  have k0 := h0
  have lt0 : ∀ x ∈ p0, x.block < W.heap.size := by obtain ⟨m, hm⟩ := k0; exact DataW.trod_lt m _ _ _ hm
  have k1 := h1
  have lt1 : ∀ x ∈ p1, x.block < W.heap.size := by obtain ⟨m, hm⟩ := k1; exact DataW.trod_lt m _ _ _ hm
  obtain ⟨en, rfl, hem⟩ := open_en (hval 1 26 v1 rfl rfl) h1
  obtain ⟨a0, cap0, ts, rfl, hss, hn, hm⟩ := open_tree (hval 0 24 v0 rfl rfl) h0
  clear hA0 hval0
  refine (walk a0 cap0 ts en W hss hn hm hem).mono fun e W' ⟨he, bel⟩ => ?_
  subst he
  exact ⟨_, rfl, _, _, _, [], _, [], hW', trodAll_mk1 (shut_bool Try.underlying4 _), (trodAll_cons_mk (Below.trod laidOut (by kernel_rfl) (of_decide_eq_true (by kernel_rfl)) k0 bel lt0) (trodAll_cons_mk (Below.trod laidOut (by kernel_rfl) (of_decide_eq_true (by kernel_rfl)) k1 bel lt1) trodAll_mk0)), rfl, bel.frame _, fun h => by cases h⟩

theorem over : Rows.fnExactPutRow.holds Try.pinned (OpenSpec.ofChange Rows.fnExactPutSpec) :=
  OpenClaim.holds_of_wide 3 Try.f3 rfl rfl rfl rfl rfl rfl rfl ⟨rfl, rfl, rfl, rfl, rfl⟩ rfl rfl rfl rfl rfl (by kernel_rfl) Try.func3 (by kernel_rfl)
    (of_decide_eq_true (by kernel_rfl)) (by unfold Func.isWrapper; first | (rw [if_pos (by decide +kernel)]; kernel_rfl) | (rw [if_neg (by decide +kernel)]; exact ⟨rfl, rfl⟩))
    (fun os started H enc _ => lifted os started H enc)

theorem proved : Rows.FnExactPutSaid := over
end Go.Proofs.Ytmeodgcnnjkilaa.fnExactPut
