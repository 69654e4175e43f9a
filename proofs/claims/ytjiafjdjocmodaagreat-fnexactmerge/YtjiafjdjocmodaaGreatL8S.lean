/-
  spec.l8Path: what comes out under a path.
-/
import Derived.Test.YtjiafjdjocmodaaGreatZba
import Derived.Test.YtjiafjdjocmodaaGreatZbb
import Derived.Test.YtjiafjdjocmodaaGreatDrawPth
namespace Go.Proofs.YtjiafjdjocmodaaGreat
open Go.RowKit

theorem fl_cases (x y : Fl) : x = y ∨ (sameF x y = false ∧ ((x.there = y.there → False) ∨ (x.there = y.there ∧ (x.text.toList = y.text.toList → False)) ∨ (x.there = y.there ∧ x.text.toList = y.text.toList ∧ (x.runs = y.runs → False)))) := by
  by_cases h : x = y
  · exact .inl h
  · refine .inr ⟨sameF_not.2 h, ?_⟩
    by_cases h1 : x.there = y.there
    · by_cases h2 : x.text.toList = y.text.toList
      · refine .inr (.inr ⟨h1, h2, fun h3 => h (sameF_iff.1 (by simp [sameF, h1, h2, h3]))⟩)
      · exact .inr (.inl ⟨h1, h2⟩)
    · exact .inl h1
def PathPost (F : MrgF) (f a b : Fl) (w : World) (e : Ending) (w' : World) : Prop :=
  e = .returned (.tuple #[flV ((pathM F f a b).getD noFl), .bool (pathM F f a b).isSome]) ∧ Below w.heap.size w w'
/-- Three files in boxes, and one for what is handed back. -/
structure L8 (w : World) (b3 b4 b5 b6 : Nat) (f a b : Fl) (W : World) : Prop where
  f0 : W.cell? ⟨b3, 0, none⟩ = some (.bool f.there)
  f1 : W.cell? ⟨b3, 1, none⟩ = some (.string f.text)
  f2 : W.cell? ⟨b3, 2, none⟩ = some (.bool f.runs)
  a0 : W.cell? ⟨b4, 0, none⟩ = some (.bool a.there)
  a1 : W.cell? ⟨b4, 1, none⟩ = some (.string a.text)
  a2 : W.cell? ⟨b4, 2, none⟩ = some (.bool a.runs)
  c0 : W.cell? ⟨b5, 0, none⟩ = some (.bool b.there)
  c1 : W.cell? ⟨b5, 1, none⟩ = some (.string b.text)
  c2 : W.cell? ⟨b5, 2, none⟩ = some (.bool b.runs)
  r0 : W.cell? ⟨b6, 0, none⟩ = some (.bool false)
  r1 : W.cell? ⟨b6, 1, none⟩ = some (.string ⟨#[]⟩)
  r2 : W.cell? ⟨b6, 2, none⟩ = some (.bool false)
  rf : ∀ j, W.frozen? ⟨b6, j, none⟩ = false
  bw : Below w.heap.size w W
  lo : w.heap.size ≤ b6
theorem L8.later {w : World} {b3 b4 b5 b6 : Nat} {f a b : Fl} {W W' : World} (h : L8 w b3 b4 b5 b6 f a b W) (hb : Below W.heap.size W W') : L8 w b3 b4 b5 b6 f a b W' :=
  ⟨cell_later hb h.f0, cell_later hb h.f1, cell_later hb h.f2, cell_later hb h.a0, cell_later hb h.a1, cell_later hb h.a2, cell_later hb h.c0, cell_later hb h.c1, cell_later hb h.c2, cell_later hb h.r0, cell_later hb h.r1, cell_later hb h.r2, fun j => (hb.frozen (p := ⟨b6, j, none⟩) (World.block_lt_of_cell? W ⟨b6, 0, none⟩ h.r0)).trans (h.rf j), h.bw.trans (hb.mono h.bw.size), h.lo⟩
/-- What is handed back. -/
theorem L8.ret {w : World} {b3 b4 b5 b6 : Nat} {f a b : Fl} {W : World} (h : L8 w b3 b4 b5 b6 f a b W) (g : Fl) :
    (((W.setCell ⟨b6, 0, none⟩ (.bool g.there)).setCell ⟨b6, 1, none⟩ (.string g.text)).setCell ⟨b6, 2, none⟩ (.bool g.runs)).cell? ⟨b6, 0, none⟩ = some (.bool g.there) ∧
    (((W.setCell ⟨b6, 0, none⟩ (.bool g.there)).setCell ⟨b6, 1, none⟩ (.string g.text)).setCell ⟨b6, 2, none⟩ (.bool g.runs)).cell? ⟨b6, 1, none⟩ = some (.string g.text) ∧
    (((W.setCell ⟨b6, 0, none⟩ (.bool g.there)).setCell ⟨b6, 1, none⟩ (.string g.text)).setCell ⟨b6, 2, none⟩ (.bool g.runs)).cell? ⟨b6, 2, none⟩ = some (.bool g.runs) ∧
    Below w.heap.size w (((W.setCell ⟨b6, 0, none⟩ (.bool g.there)).setCell ⟨b6, 1, none⟩ (.string g.text)).setCell ⟨b6, 2, none⟩ (.bool g.runs)) := by
  have q : ∀ {Y : World} {i j : Nat} {v u : Value}, i ≠ j → Y.cell? ⟨b6, j, none⟩ = some u → (Y.setCell ⟨b6, i, none⟩ v).cell? ⟨b6, j, none⟩ = some u := fun hn hc => (World.cell?_setCell_other _ _ _ _ (fun e => hn (by injection e))).trans hc
  exact ⟨q (by omega) (q (by omega) (World.cell?_setCell_same _ _ _ h.r0)), q (by omega) (World.cell?_setCell_same _ _ _ (q (by omega) h.r1)), World.cell?_setCell_same _ _ _ (q (by omega) (q (by omega) h.r2)), ((h.bw.setCell (p := ⟨b6, 0, none⟩) h.lo _).setCell (p := ⟨b6, 1, none⟩) h.lo _).setCell (p := ⟨b6, 2, none⟩) h.lo _⟩
theorem pathM_some {F : MrgF} {f a b g : Fl} (h : chs f a b = some g) : pathM F f a b = some g := by unfold pathM; rw [h]

set_option maxRecDepth 100000 in
set_option maxHeartbeats 2000000 in
theorem l8Path_any (F : MrgF) (f a b : Fl) (w : World) (hM : ∀ W, Calls Tryz.prog 68 #[.string f.text, .string a.text, .string b.text] W fun e w' => e = .returned (mrgV (F f.text a.text b.text)) ∧ Below W.heap.size W w') :
    Calls Tryz.prog 37 #[flV f, flV a, flV b] w (PathPost F f a b w) := by
  have hX : L8 w w.heap.size (w.heap.size + 1) (w.heap.size + 1 + 1) (w.heap.size + 1 + 1 + 1) f a b ((((w.alloc (.cells #[.bool f.there, .string f.text, .bool f.runs] 51)).alloc (.cells #[.bool a.there, .string a.text, .bool a.runs] 51)).alloc (.cells #[.bool b.there, .string b.text, .bool b.runs] 51)).alloc (.cells #[.bool false, .string ⟨#[]⟩, .bool false] 51)) := ⟨by simp [go_sem], by simp [go_sem], by simp [go_sem], by simp [go_sem], by simp [go_sem], by simp [go_sem], by simp [go_sem], by simp [go_sem], by simp [go_sem], by simp [go_sem], by simp [go_sem], by simp [go_sem], fun j => by simp [go_sem], (((Below.refl _ _).alloc (Nat.le_refl _) _).alloc (by simp) _).alloc (by simp; omega) _ |>.alloc (by simp; omega) _, by omega⟩
  unfold flV
  go_enter Tryz.func37, Tryz.ntmps37
  go_upto_region 1 with fail
  generalize (((w.alloc (.cells #[.bool f.there, .string f.text, .bool f.runs] 51)).alloc (.cells #[.bool a.there, .string a.text, .bool a.runs] 51)).alloc (.cells #[.bool b.there, .string b.text, .bool b.runs] 51)).alloc (.cells #[.bool false, .string ⟨#[]⟩, .bool false] 51) = W at *
  generalize w.heap.size + 1 + 1 + 1 = b6 at *
  generalize w.heap.size + 1 + 1 = b5 at *
  generalize w.heap.size + 1 = b4 at *
  obtain ⟨b3, hb3⟩ : ∃ b3, b3 = w.heap.size := ⟨_, rfl⟩
  have z0 := hX.f0; have z1 := hX.f1; have z2 := hX.f2; have z3 := hX.a0; have z4 := hX.a1; have z5 := hX.a2; have z6 := hX.c0; have z7 := hX.c1; have z8 := hX.c2; have q0 := hX.r0; have q1 := hX.r1; have q2 := hX.r2; have qf := hX.rf
  go_cut [13] (fun v wx => ∃ q : Bool, v = .bool q ∧ Keep (sameF a f = q) ∧ L8 w w.heap.size b4 b5 b6 f a b wx)
  case first =>
    have HX : Keep _ := ⟨hX⟩
    clear hX hM
    rcases fl_cases a f with rfl | ⟨hs, h1 | ⟨h1, h2⟩ | ⟨h1, h2, h3⟩⟩
    · have HS : Keep _ := ⟨sameF_iff.2 (rfl : a = a)⟩
      go_wp2_with fail
      go_meet
      case rel => exact ⟨_, rfl, HS, HX.out⟩
    · have HS : Keep _ := ⟨hs⟩
      clear hs
      go_wp2_with fail
      go_meet
      case rel => exact ⟨_, rfl, HS, HX.out⟩
    · have HS : Keep _ := ⟨hs⟩
      clear hs
      obtain ⟨a0, a1, a2⟩ := a
      obtain ⟨f0, f1, f2⟩ := f
      dsimp only at *
      subst h1
      go_wp2_with fail
      go_meet
      case rel => exact ⟨_, rfl, HS, HX.out⟩
    · have HS : Keep _ := ⟨hs⟩
      clear hs
      obtain ⟨a0, a1, a2⟩ := a
      obtain ⟨f0, f1, f2⟩ := f
      dsimp only at *
      subst h1
      obtain rfl : a1 = f1 := WideShapes.bytes_inj (by rw [← Lib.toList_data, ← Lib.toList_data]; exact h2)
      clear h2
      go_wp2_with fail
      go_meet
      case rel => exact ⟨_, rfl, HS, HX.out⟩
  case rest =>
    clear hX z0 z1 z2 z3 z4 z5 z6 z7 z8 q0 q1 q2 qf
    obtain ⟨q, rfl, HQ, hX⟩ := hcut
    have z0 := hX.f0; have z1 := hX.f1; have z2 := hX.f2; have z3 := hX.a0; have z4 := hX.a1; have z5 := hX.a2; have z6 := hX.c0; have z7 := hX.c1; have z8 := hX.c2; have q0 := hX.r0; have q1 := hX.r1; have q2 := hX.r2; have qf := hX.rf
    cases q with
    | true =>
      have h1 := HQ.out
      have HE : Keep (pathM F f a b = some b) := ⟨pathM_some (by unfold chs; rw [if_pos h1])⟩
      clear h1
      obtain ⟨k0, k1, k2, kb⟩ := hX.ret b
      have HP : Keep _ := ⟨kb⟩
      clear hX kb hM
      go_wp2
      refine bodyPost_ret (v := .tuple #[flV b, .bool true]) ?_ rfl ⟨by rw [HE.out]; rfl, HP.out⟩
      go_light
      simp [results, Tryz.results37, go_sem, flV, k0, k1, k2]
    | false =>
      have H1 := HQ
      go_upto_region 3 with fail
      go_cut [22] (fun v wx => ∃ q : Bool, v = .bool q ∧ Keep ((sameF b f || sameF b a) = q) ∧ L8 w w.heap.size b4 b5 b6 f a b wx)
      case first =>
        have HX : Keep _ := ⟨hX⟩
        clear hX hM
        obtain ⟨f0, f1, f2⟩ := f
        obtain ⟨a0, a1, a2⟩ := a
        obtain ⟨b0, b1, b2⟩ := b
        dsimp only at *
        rcases fl_cases (⟨b0, b1, b2⟩ : Fl) (⟨f0, f1, f2⟩ : Fl) with he0 | ⟨hs0, h10 | ⟨h10, h20⟩ | ⟨h10, h20, h30⟩⟩
        · injection he0 with e0 e1 e2
          subst e0; subst e1; subst e2
          have HS0 : Keep _ := ⟨sameF_iff.2 (rfl : (⟨b0, b1, b2⟩ : Fl) = (⟨b0, b1, b2⟩ : Fl))⟩
          go_wp2_with fail
          go_meet
          case rel => exact ⟨_, rfl, ⟨by rw [HS0.out]; rfl⟩, HX.out⟩
        · have HS0 : Keep _ := ⟨hs0⟩
          clear hs0
          dsimp only at h10
          rcases fl_cases (⟨b0, b1, b2⟩ : Fl) (⟨a0, a1, a2⟩ : Fl) with he1 | ⟨hs1, h11 | ⟨h11, h21⟩ | ⟨h11, h21, h31⟩⟩
          · injection he1 with e0 e1 e2
            subst e0; subst e1; subst e2
            have HS1 : Keep _ := ⟨sameF_iff.2 (rfl : (⟨b0, b1, b2⟩ : Fl) = (⟨b0, b1, b2⟩ : Fl))⟩
            go_wp2_with fail
            go_meet
            case rel => exact ⟨_, rfl, ⟨by rw [HS1.out, Bool.or_true]⟩, HX.out⟩
          · have HS1 : Keep _ := ⟨hs1⟩
            clear hs1
            dsimp only at h11
            go_wp2_with fail
            go_meet
            case rel => exact ⟨_, rfl, ⟨by rw [HS0.out, HS1.out]; rfl⟩, HX.out⟩
          · have HS1 : Keep _ := ⟨hs1⟩
            clear hs1
            dsimp only at h11 h21
            subst h11
            go_wp2_with fail
            go_meet
            case rel => exact ⟨_, rfl, ⟨by rw [HS0.out, HS1.out]; rfl⟩, HX.out⟩
          · have HS1 : Keep _ := ⟨hs1⟩
            clear hs1
            dsimp only at h11 h21
            subst h11
            obtain rfl : b1 = a1 := WideShapes.bytes_inj (by rw [← Lib.toList_data, ← Lib.toList_data]; exact h21)
            clear h21
            dsimp only at h31
            go_wp2_with fail
            go_meet
            case rel => exact ⟨_, rfl, ⟨by rw [HS0.out, HS1.out]; rfl⟩, HX.out⟩
        · have HS0 : Keep _ := ⟨hs0⟩
          clear hs0
          dsimp only at h10 h20
          subst h10
          rcases fl_cases (⟨b0, b1, b2⟩ : Fl) (⟨a0, a1, a2⟩ : Fl) with he1 | ⟨hs1, h11 | ⟨h11, h21⟩ | ⟨h11, h21, h31⟩⟩
          · injection he1 with e0 e1 e2
            subst e0; subst e1; subst e2
            have HS1 : Keep _ := ⟨sameF_iff.2 (rfl : (⟨b0, b1, b2⟩ : Fl) = (⟨b0, b1, b2⟩ : Fl))⟩
            go_wp2_with fail
            go_meet
            case rel => exact ⟨_, rfl, ⟨by rw [HS1.out, Bool.or_true]⟩, HX.out⟩
          · have HS1 : Keep _ := ⟨hs1⟩
            clear hs1
            dsimp only at h11
            go_wp2_with fail
            go_meet
            case rel => exact ⟨_, rfl, ⟨by rw [HS0.out, HS1.out]; rfl⟩, HX.out⟩
          · have HS1 : Keep _ := ⟨hs1⟩
            clear hs1
            dsimp only at h11 h21
            subst h11
            go_wp2_with fail
            go_meet
            case rel => exact ⟨_, rfl, ⟨by rw [HS0.out, HS1.out]; rfl⟩, HX.out⟩
          · have HS1 : Keep _ := ⟨hs1⟩
            clear hs1
            dsimp only at h11 h21
            subst h11
            obtain rfl : b1 = a1 := WideShapes.bytes_inj (by rw [← Lib.toList_data, ← Lib.toList_data]; exact h21)
            clear h21
            dsimp only at h31
            go_wp2_with fail
            go_meet
            case rel => exact ⟨_, rfl, ⟨by rw [HS0.out, HS1.out]; rfl⟩, HX.out⟩
        · have HS0 : Keep _ := ⟨hs0⟩
          clear hs0
          dsimp only at h10 h20
          subst h10
          obtain rfl : b1 = f1 := WideShapes.bytes_inj (by rw [← Lib.toList_data, ← Lib.toList_data]; exact h20)
          clear h20
          dsimp only at h30
          rcases fl_cases (⟨b0, b1, b2⟩ : Fl) (⟨a0, a1, a2⟩ : Fl) with he1 | ⟨hs1, h11 | ⟨h11, h21⟩ | ⟨h11, h21, h31⟩⟩
          · injection he1 with e0 e1 e2
            subst e0; subst e1; subst e2
            have HS1 : Keep _ := ⟨sameF_iff.2 (rfl : (⟨b0, b1, b2⟩ : Fl) = (⟨b0, b1, b2⟩ : Fl))⟩
            go_wp2_with fail
            go_meet
            case rel => exact ⟨_, rfl, ⟨by rw [HS1.out, Bool.or_true]⟩, HX.out⟩
          · have HS1 : Keep _ := ⟨hs1⟩
            clear hs1
            dsimp only at h11
            go_wp2_with fail
            go_meet
            case rel => exact ⟨_, rfl, ⟨by rw [HS0.out, HS1.out]; rfl⟩, HX.out⟩
          · have HS1 : Keep _ := ⟨hs1⟩
            clear hs1
            dsimp only at h11 h21
            subst h11
            go_wp2_with fail
            go_meet
            case rel => exact ⟨_, rfl, ⟨by rw [HS0.out, HS1.out]; rfl⟩, HX.out⟩
          · have HS1 : Keep _ := ⟨hs1⟩
            clear hs1
            dsimp only at h11 h21
            subst h11
            obtain rfl : b1 = a1 := WideShapes.bytes_inj (by rw [← Lib.toList_data, ← Lib.toList_data]; exact h21)
            clear h21
            dsimp only at h31
            go_wp2_with fail
            go_meet
            case rel => exact ⟨_, rfl, ⟨by rw [HS0.out, HS1.out]; rfl⟩, HX.out⟩
      case rest =>
        clear hX z0 z1 z2 z3 z4 z5 z6 z7 z8 q0 q1 q2 qf
        obtain ⟨q, rfl, H2, hX⟩ := hcut
        have z0 := hX.f0; have z1 := hX.f1; have z2 := hX.f2; have z3 := hX.a0; have z4 := hX.a1; have z5 := hX.a2; have z6 := hX.c0; have z7 := hX.c1; have z8 := hX.c2; have q0 := hX.r0; have q1 := hX.r1; have q2 := hX.r2; have qf := hX.rf
        cases q with
        | true =>
          have HE : Keep (pathM F f a b = some a) := ⟨pathM_some (by unfold chs; rw [if_neg (by rw [H1.out]; simp), if_pos H2.out])⟩
          obtain ⟨k0, k1, k2, kb⟩ := hX.ret a
          have HP : Keep _ := ⟨kb⟩
          clear hX kb hM
          go_wp2
          refine bodyPost_ret (v := .tuple #[flV a, .bool true]) ?_ rfl ⟨by rw [HE.out]; rfl, HP.out⟩
          go_light
          simp [results, Tryz.results37, go_sem, flV, k0, k1, k2]
        | false =>
          have HC : Keep (chs f a b = none) := ⟨by unfold chs; rw [if_neg (by rw [H1.out]; simp), if_neg (by rw [H2.out]; simp)]⟩
          by_cases hall : (f.there && a.there && b.there) = true
          · obtain ⟨⟨t0, t1⟩, t2⟩ : (f.there = true ∧ a.there = true) ∧ b.there = true := by simpa using hall
            rw [t0] at z0; rw [t1] at z3; rw [t2] at z6
            go_wp2_with fail
            refine (hM _).mono ?_
            rintro e w5 ⟨rfl, hb⟩
            replace hX := hX.later hb
            clear z0 z1 z2 z3 z4 z5 z6 z7 z8 q0 q1 q2 qf t0 t1 t2
            have z0 := hX.f0; have z1 := hX.f1; have z2 := hX.f2; have z3 := hX.a0; have z4 := hX.a1; have z5 := hX.a2; have z6 := hX.c0; have z7 := hX.c1; have z8 := hX.c2; have q0 := hX.r0; have q1 := hX.r1; have q2 := hX.r2; have qf := hX.rf
            cases hF : F f.text a.text b.text with
            | none =>
              unfold mrgV
              have HE : Keep (pathM F f a b = none) := ⟨by unfold pathM; rw [HC.out]; dsimp only; rw [if_pos hall, hF]⟩
              clear hall hF
              obtain ⟨k0, k1, k2, kb⟩ := hX.ret noFl
              simp only [noFl] at k0 k1 k2 kb
              have HP : Keep _ := ⟨kb⟩
              clear hX kb hM
              go_wp2
              refine bodyPost_ret (v := .tuple #[flV noFl, .bool false]) ?_ rfl ⟨by rw [HE.out]; rfl, HP.out⟩
              go_light
              simp [results, Tryz.results37, go_sem, flV, noFl, k0, k1, k2]
            | some s =>
              unfold mrgV
              have hsz : (lnB s).size = s.length := lnB_size s
              by_cases hbig : s.length ≤ 1500
              · have hb' : ((lnB s).size : Int) ≤ 1500 := by rw [hsz]; omega
                have hb'' : ¬ (1500 : Int) < (lnB s).size := by rw [hsz]; omega
                have hb3 : decide ((1500 : Int) < (lnB s).size) = false := by simp; omega
                have HE : Keep (pathM F f a b = some ⟨true, lnB s, runsM f.runs a.runs b.runs⟩) := ⟨by unfold pathM; rw [HC.out]; dsimp only; rw [if_pos hall, hF]; dsimp only; rw [if_pos hbig]; rfl⟩
                obtain ⟨r, hr⟩ : ∃ r, r = runsM f.runs a.runs b.runs := ⟨_, rfl⟩
                obtain ⟨k0, k1, k2, kb⟩ := hX.ret ⟨true, lnB s, r⟩
                dsimp only at k0 k1 k2 kb
                have HP : Keep _ := ⟨kb⟩
                have HE2 : Keep (pathM F f a b = some ⟨true, lnB s, r⟩) := ⟨by rw [HE.out, hr]⟩
                clear hX kb hM hall hF hbig hsz HC HE H1 H2
                cases hx : f.runs with
                | false =>
                  cases hy : a.runs with
                  | false =>
                    cases hz : b.runs with
                    | false =>
                      rw [hx] at z2; rw [hy] at z5; rw [hz] at z8; rw [hx, hy, hz] at hr
                      clear hx hy hz
                      obtain rfl : r = false := hr.trans (by decide)
                      clear hr
                      go_wp2
                      refine bodyPost_ret (v := .tuple #[flV ⟨true, lnB s, false⟩, .bool true]) ?_ rfl ⟨by rw [HE2.out]; rfl, HP.out⟩
                      go_light
                      simp [results, Tryz.results37, go_sem, flV, k0, k1, k2]
                    | true =>
                      rw [hx] at z2; rw [hy] at z5; rw [hz] at z8; rw [hx, hy, hz] at hr
                      clear hx hy hz
                      obtain rfl : r = true := hr.trans (by decide)
                      clear hr
                      go_wp2
                      refine bodyPost_ret (v := .tuple #[flV ⟨true, lnB s, true⟩, .bool true]) ?_ rfl ⟨by rw [HE2.out]; rfl, HP.out⟩
                      go_light
                      simp [results, Tryz.results37, go_sem, flV, k0, k1, k2]
                  | true =>
                    cases hz : b.runs with
                    | false =>
                      rw [hx] at z2; rw [hy] at z5; rw [hz] at z8; rw [hx, hy, hz] at hr
                      clear hx hy hz
                      obtain rfl : r = true := hr.trans (by decide)
                      clear hr
                      go_wp2
                      refine bodyPost_ret (v := .tuple #[flV ⟨true, lnB s, true⟩, .bool true]) ?_ rfl ⟨by rw [HE2.out]; rfl, HP.out⟩
                      go_light
                      simp [results, Tryz.results37, go_sem, flV, k0, k1, k2]
                    | true =>
                      rw [hx] at z2; rw [hy] at z5; rw [hz] at z8; rw [hx, hy, hz] at hr
                      clear hx hy hz
                      obtain rfl : r = true := hr.trans (by decide)
                      clear hr
                      go_wp2
                      refine bodyPost_ret (v := .tuple #[flV ⟨true, lnB s, true⟩, .bool true]) ?_ rfl ⟨by rw [HE2.out]; rfl, HP.out⟩
                      go_light
                      simp [results, Tryz.results37, go_sem, flV, k0, k1, k2]
                | true =>
                  cases hy : a.runs with
                  | false =>
                    cases hz : b.runs with
                    | false =>
                      rw [hx] at z2; rw [hy] at z5; rw [hz] at z8; rw [hx, hy, hz] at hr
                      clear hx hy hz
                      obtain rfl : r = false := hr.trans (by decide)
                      clear hr
                      go_wp2
                      refine bodyPost_ret (v := .tuple #[flV ⟨true, lnB s, false⟩, .bool true]) ?_ rfl ⟨by rw [HE2.out]; rfl, HP.out⟩
                      go_light
                      simp [results, Tryz.results37, go_sem, flV, k0, k1, k2]
                    | true =>
                      rw [hx] at z2; rw [hy] at z5; rw [hz] at z8; rw [hx, hy, hz] at hr
                      clear hx hy hz
                      obtain rfl : r = false := hr.trans (by decide)
                      clear hr
                      go_wp2
                      refine bodyPost_ret (v := .tuple #[flV ⟨true, lnB s, false⟩, .bool true]) ?_ rfl ⟨by rw [HE2.out]; rfl, HP.out⟩
                      go_light
                      simp [results, Tryz.results37, go_sem, flV, k0, k1, k2]
                  | true =>
                    cases hz : b.runs with
                    | false =>
                      rw [hx] at z2; rw [hy] at z5; rw [hz] at z8; rw [hx, hy, hz] at hr
                      clear hx hy hz
                      obtain rfl : r = false := hr.trans (by decide)
                      clear hr
                      go_wp2
                      refine bodyPost_ret (v := .tuple #[flV ⟨true, lnB s, false⟩, .bool true]) ?_ rfl ⟨by rw [HE2.out]; rfl, HP.out⟩
                      go_light
                      simp [results, Tryz.results37, go_sem, flV, k0, k1, k2]
                    | true =>
                      rw [hx] at z2; rw [hy] at z5; rw [hz] at z8; rw [hx, hy, hz] at hr
                      clear hx hy hz
                      obtain rfl : r = true := hr.trans (by decide)
                      clear hr
                      go_wp2
                      refine bodyPost_ret (v := .tuple #[flV ⟨true, lnB s, true⟩, .bool true]) ?_ rfl ⟨by rw [HE2.out]; rfl, HP.out⟩
                      go_light
                      simp [results, Tryz.results37, go_sem, flV, k0, k1, k2]
              · have hb' : (1500 : Int) < (lnB s).size := by rw [hsz]; omega
                have HE : Keep (pathM F f a b = none) := ⟨by unfold pathM; rw [HC.out]; dsimp only; rw [if_pos hall, hF]; dsimp only; rw [if_neg hbig]⟩
                clear hall hF hbig hsz
                obtain ⟨k0, k1, k2, kb⟩ := hX.ret noFl
                simp only [noFl] at k0 k1 k2 kb
                have HP : Keep _ := ⟨kb⟩
                clear hX kb hM
                go_wp2
                refine bodyPost_ret (v := .tuple #[flV noFl, .bool false]) ?_ rfl ⟨by rw [HE.out]; rfl, HP.out⟩
                go_light
                simp [results, Tryz.results37, go_sem, flV, noFl, k0, k1, k2]
          · have HE : Keep (pathM F f a b = none) := ⟨by unfold pathM; rw [HC.out]; dsimp only; rw [if_neg hall]⟩
            cases hx : f.there with
            | false =>
              rw [hx] at z0
              clear hall hx
              obtain ⟨k0, k1, k2, kb⟩ := hX.ret noFl
              simp only [noFl] at k0 k1 k2 kb
              have HP : Keep _ := ⟨kb⟩
              clear hX kb hM
              go_wp2
              refine bodyPost_ret (v := .tuple #[flV noFl, .bool false]) ?_ rfl ⟨by rw [HE.out]; rfl, HP.out⟩
              go_light
              simp [results, Tryz.results37, go_sem, flV, noFl, k0, k1, k2]
            | true =>
              cases hy : a.there with
              | false =>
                rw [hx] at z0; rw [hy] at z3
                clear hall hx hy
                obtain ⟨k0, k1, k2, kb⟩ := hX.ret noFl
                simp only [noFl] at k0 k1 k2 kb
                have HP : Keep _ := ⟨kb⟩
                clear hX kb hM
                go_wp2
                refine bodyPost_ret (v := .tuple #[flV noFl, .bool false]) ?_ rfl ⟨by rw [HE.out]; rfl, HP.out⟩
                go_light
                simp [results, Tryz.results37, go_sem, flV, noFl, k0, k1, k2]
              | true =>
                have hz : b.there = false := by rw [hx, hy] at hall; simpa using hall
                rw [hx] at z0; rw [hy] at z3; rw [hz] at z6
                clear hall hx hy hz
                obtain ⟨k0, k1, k2, kb⟩ := hX.ret noFl
                simp only [noFl] at k0 k1 k2 kb
                have HP : Keep _ := ⟨kb⟩
                clear hX kb hM
                go_wp2
                refine bodyPost_ret (v := .tuple #[flV noFl, .bool false]) ?_ rfl ⟨by rw [HE.out]; rfl, HP.out⟩
                go_light
                simp [results, Tryz.results37, go_sem, flV, noFl, k0, k1, k2]
end Go.Proofs.YtjiafjdjocmodaaGreat
