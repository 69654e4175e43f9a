/-
  impl.choose at files and at flags, impl.mergeFiles.
-/
import Derived.Test.YtjiafjdjocmodaaGreatL8S
namespace Go.Proofs.YtjiafjdjocmodaaGreat
open Go.RowKit

def ChsPost (f a b : Fl) (w : World) (e : Ending) (w' : World) : Prop :=
  e = .returned (.tuple #[flV ((chs f a b).getD noFl), .bool (chs f a b).isSome]) ∧ Below w.heap.size w w'

set_option maxRecDepth 100000 in
set_option maxHeartbeats 4000000 in
theorem chooseF_any (f a b : Fl) (w : World) :
    Calls Tryz.prog 60 #[flV f, flV a, flV b] w (ChsPost f a b w) := by
  have hX : L8 w w.heap.size (w.heap.size + 1) (w.heap.size + 1 + 1) (w.heap.size + 1 + 1 + 1) f a b ((((w.alloc (.cells #[.bool f.there, .string f.text, .bool f.runs] 51)).alloc (.cells #[.bool a.there, .string a.text, .bool a.runs] 51)).alloc (.cells #[.bool b.there, .string b.text, .bool b.runs] 51)).alloc (.cells #[.bool false, .string ⟨#[]⟩, .bool false] 51)) := ⟨by simp [go_sem], by simp [go_sem], by simp [go_sem], by simp [go_sem], by simp [go_sem], by simp [go_sem], by simp [go_sem], by simp [go_sem], by simp [go_sem], by simp [go_sem], by simp [go_sem], by simp [go_sem], fun j => by simp [go_sem], (((Below.refl _ _).alloc (Nat.le_refl _) _).alloc (by simp) _).alloc (by simp; omega) _ |>.alloc (by simp; omega) _, by omega⟩
  unfold flV
  go_enter Tryz.func60, Tryz.ntmps60
  go_upto_region 1 with fail
  generalize (((w.alloc (.cells #[.bool f.there, .string f.text, .bool f.runs] 51)).alloc (.cells #[.bool a.there, .string a.text, .bool a.runs] 51)).alloc (.cells #[.bool b.there, .string b.text, .bool b.runs] 51)).alloc (.cells #[.bool false, .string ⟨#[]⟩, .bool false] 51) = W at *
  generalize w.heap.size + 1 + 1 + 1 = b6 at *
  generalize w.heap.size + 1 + 1 = b5 at *
  generalize w.heap.size + 1 = b4 at *
  obtain ⟨b3, hb3⟩ : ∃ b3, b3 = w.heap.size := ⟨_, rfl⟩
  have z0 := hX.f0; have z1 := hX.f1; have z2 := hX.f2; have z3 := hX.a0; have z4 := hX.a1; have z5 := hX.a2; have z6 := hX.c0; have z7 := hX.c1; have z8 := hX.c2; have q0 := hX.r0; have q1 := hX.r1; have q2 := hX.r2; have qf := hX.rf
  go_cut [11] (fun v wx => ∃ q : Bool, v = .bool q ∧ Keep (sameF a f = q) ∧ L8 w w.heap.size b4 b5 b6 f a b wx)
  case first =>
    have HX : Keep _ := ⟨hX⟩
    clear hX
    rcases fl_cases a f with rfl | ⟨hs, h1 | ⟨h1, h2⟩ | ⟨h1, h2, h3⟩⟩
    · have HS : Keep _ := ⟨sameF_iff.2 (rfl : a = a)⟩
      go_wp2_with fail
      go_meet
      case rel => exact ⟨_, rfl, HS, HX.out⟩
    · have HS : Keep _ := ⟨hs⟩
      clear hs
      go_wp2_with fail
      go_meet
      case rel => exact ⟨_, rfl, HS, HX.out⟩
    · have HS : Keep _ := ⟨hs⟩
      clear hs
      obtain ⟨a0, a1, a2⟩ := a
      obtain ⟨f0, f1, f2⟩ := f
      dsimp only at *
      subst h1
      go_wp2_with fail
      go_meet
      case rel => exact ⟨_, rfl, HS, HX.out⟩
    · have HS : Keep _ := ⟨hs⟩
      clear hs
      obtain ⟨a0, a1, a2⟩ := a
      obtain ⟨f0, f1, f2⟩ := f
      dsimp only at *
      subst h1
      obtain rfl : a1 = f1 := WideShapes.bytes_inj (by rw [← Lib.toList_data, ← Lib.toList_data]; exact h2)
      clear h2
      go_wp2_with fail
      go_meet
      case rel => exact ⟨_, rfl, HS, HX.out⟩
  case rest =>
    clear hX z0 z1 z2 z3 z4 z5 z6 z7 z8 q0 q1 q2 qf
    obtain ⟨q, rfl, HQ, hX⟩ := hcut
    have z0 := hX.f0; have z1 := hX.f1; have z2 := hX.f2; have z3 := hX.a0; have z4 := hX.a1; have z5 := hX.a2; have z6 := hX.c0; have z7 := hX.c1; have z8 := hX.c2; have q0 := hX.r0; have q1 := hX.r1; have q2 := hX.r2; have qf := hX.rf
    cases q with
    | true =>
      have h1 := HQ.out
      have HE : Keep (chs f a b = some b) := ⟨by unfold chs; rw [if_pos h1]⟩
      clear h1
      obtain ⟨k0, k1, k2, kb⟩ := hX.ret b
      have HP : Keep _ := ⟨kb⟩
      clear hX kb
      go_wp2
      refine bodyPost_ret (v := .tuple #[flV b, .bool true]) ?_ rfl ⟨by rw [HE.out]; rfl, HP.out⟩
      go_light
      simp [results, Tryz.results60, go_sem, flV, k0, k1, k2]
    | false =>
      have H1 := HQ
      go_upto_region 3 with fail
      go_cut [20] (fun v wx => ∃ q : Bool, v = .bool q ∧ Keep ((sameF b f || sameF b a) = q) ∧ L8 w w.heap.size b4 b5 b6 f a b wx)
      case first =>
        have HX : Keep _ := ⟨hX⟩
        clear hX
        obtain ⟨f0, f1, f2⟩ := f
        obtain ⟨a0, a1, a2⟩ := a
        obtain ⟨b0, b1, b2⟩ := b
        dsimp only at *
        rcases fl_cases (⟨b0, b1, b2⟩ : Fl) (⟨f0, f1, f2⟩ : Fl) with he0 | ⟨hs0, h10 | ⟨h10, h20⟩ | ⟨h10, h20, h30⟩⟩
        · injection he0 with e0 e1 e2
          subst e0; subst e1; subst e2
          have HS0 : Keep _ := ⟨sameF_iff.2 (rfl : (⟨b0, b1, b2⟩ : Fl) = (⟨b0, b1, b2⟩ : Fl))⟩
          go_wp2_with fail
          go_meet
          case rel => exact ⟨_, rfl, ⟨by rw [HS0.out]; rfl⟩, HX.out⟩
        · have HS0 : Keep _ := ⟨hs0⟩
          clear hs0
          dsimp only at h10
          rcases fl_cases (⟨b0, b1, b2⟩ : Fl) (⟨a0, a1, a2⟩ : Fl) with he1 | ⟨hs1, h11 | ⟨h11, h21⟩ | ⟨h11, h21, h31⟩⟩
          · injection he1 with e0 e1 e2
            subst e0; subst e1; subst e2
            have HS1 : Keep _ := ⟨sameF_iff.2 (rfl : (⟨b0, b1, b2⟩ : Fl) = (⟨b0, b1, b2⟩ : Fl))⟩
            go_wp2_with fail
            go_meet
            case rel => exact ⟨_, rfl, ⟨by rw [HS1.out, Bool.or_true]⟩, HX.out⟩
          · have HS1 : Keep _ := ⟨hs1⟩
            clear hs1
            dsimp only at h11
            go_wp2_with fail
            go_meet
            case rel => exact ⟨_, rfl, ⟨by rw [HS0.out, HS1.out]; rfl⟩, HX.out⟩
          · have HS1 : Keep _ := ⟨hs1⟩
            clear hs1
            dsimp only at h11 h21
            subst h11
            go_wp2_with fail
            go_meet
            case rel => exact ⟨_, rfl, ⟨by rw [HS0.out, HS1.out]; rfl⟩, HX.out⟩
          · have HS1 : Keep _ := ⟨hs1⟩
            clear hs1
            dsimp only at h11 h21
            subst h11
            obtain rfl : b1 = a1 := WideShapes.bytes_inj (by rw [← Lib.toList_data, ← Lib.toList_data]; exact h21)
            clear h21
            dsimp only at h31
            go_wp2_with fail
            go_meet
            case rel => exact ⟨_, rfl, ⟨by rw [HS0.out, HS1.out]; rfl⟩, HX.out⟩
        · have HS0 : Keep _ := ⟨hs0⟩
          clear hs0
          dsimp only at h10 h20
          subst h10
          rcases fl_cases (⟨b0, b1, b2⟩ : Fl) (⟨a0, a1, a2⟩ : Fl) with he1 | ⟨hs1, h11 | ⟨h11, h21⟩ | ⟨h11, h21, h31⟩⟩
          · injection he1 with e0 e1 e2
            subst e0; subst e1; subst e2
            have HS1 : Keep _ := ⟨sameF_iff.2 (rfl : (⟨b0, b1, b2⟩ : Fl) = (⟨b0, b1, b2⟩ : Fl))⟩
            go_wp2_with fail
            go_meet
            case rel => exact ⟨_, rfl, ⟨by rw [HS1.out, Bool.or_true]⟩, HX.out⟩
          · have HS1 : Keep _ := ⟨hs1⟩
            clear hs1
            dsimp only at h11
            go_wp2_with fail
            go_meet
            case rel => exact ⟨_, rfl, ⟨by rw [HS0.out, HS1.out]; rfl⟩, HX.out⟩
          · have HS1 : Keep _ := ⟨hs1⟩
            clear hs1
            dsimp only at h11 h21
            subst h11
            go_wp2_with fail
            go_meet
            case rel => exact ⟨_, rfl, ⟨by rw [HS0.out, HS1.out]; rfl⟩, HX.out⟩
          · have HS1 : Keep _ := ⟨hs1⟩
            clear hs1
            dsimp only at h11 h21
            subst h11
            obtain rfl : b1 = a1 := WideShapes.bytes_inj (by rw [← Lib.toList_data, ← Lib.toList_data]; exact h21)
            clear h21
            dsimp only at h31
            go_wp2_with fail
            go_meet
            case rel => exact ⟨_, rfl, ⟨by rw [HS0.out, HS1.out]; rfl⟩, HX.out⟩
        · have HS0 : Keep _ := ⟨hs0⟩
          clear hs0
          dsimp only at h10 h20
          subst h10
          obtain rfl : b1 = f1 := WideShapes.bytes_inj (by rw [← Lib.toList_data, ← Lib.toList_data]; exact h20)
          clear h20
          dsimp only at h30
          rcases fl_cases (⟨b0, b1, b2⟩ : Fl) (⟨a0, a1, a2⟩ : Fl) with he1 | ⟨hs1, h11 | ⟨h11, h21⟩ | ⟨h11, h21, h31⟩⟩
          · injection he1 with e0 e1 e2
            subst e0; subst e1; subst e2
            have HS1 : Keep _ := ⟨sameF_iff.2 (rfl : (⟨b0, b1, b2⟩ : Fl) = (⟨b0, b1, b2⟩ : Fl))⟩
            go_wp2_with fail
            go_meet
            case rel => exact ⟨_, rfl, ⟨by rw [HS1.out, Bool.or_true]⟩, HX.out⟩
          · have HS1 : Keep _ := ⟨hs1⟩
            clear hs1
            dsimp only at h11
            go_wp2_with fail
            go_meet
            case rel => exact ⟨_, rfl, ⟨by rw [HS0.out, HS1.out]; rfl⟩, HX.out⟩
          · have HS1 : Keep _ := ⟨hs1⟩
            clear hs1
            dsimp only at h11 h21
            subst h11
            go_wp2_with fail
            go_meet
            case rel => exact ⟨_, rfl, ⟨by rw [HS0.out, HS1.out]; rfl⟩, HX.out⟩
          · have HS1 : Keep _ := ⟨hs1⟩
            clear hs1
            dsimp only at h11 h21
            subst h11
            obtain rfl : b1 = a1 := WideShapes.bytes_inj (by rw [← Lib.toList_data, ← Lib.toList_data]; exact h21)
            clear h21
            dsimp only at h31
            go_wp2_with fail
            go_meet
            case rel => exact ⟨_, rfl, ⟨by rw [HS0.out, HS1.out]; rfl⟩, HX.out⟩
      case rest =>
        clear hX z0 z1 z2 z3 z4 z5 z6 z7 z8 q0 q1 q2 qf
        obtain ⟨q, rfl, H2, hX⟩ := hcut
        have z0 := hX.f0; have z1 := hX.f1; have z2 := hX.f2; have z3 := hX.a0; have z4 := hX.a1; have z5 := hX.a2; have z6 := hX.c0; have z7 := hX.c1; have z8 := hX.c2; have q0 := hX.r0; have q1 := hX.r1; have q2 := hX.r2; have qf := hX.rf
        cases q with
        | true =>
          have HE : Keep (chs f a b = some a) := ⟨by unfold chs; rw [if_neg (by rw [H1.out]; simp), if_pos H2.out]⟩
          obtain ⟨k0, k1, k2, kb⟩ := hX.ret a
          have HP : Keep _ := ⟨kb⟩
          clear hX kb
          go_wp2
          refine bodyPost_ret (v := .tuple #[flV a, .bool true]) ?_ rfl ⟨by rw [HE.out]; rfl, HP.out⟩
          go_light
          simp [results, Tryz.results60, go_sem, flV, k0, k1, k2]
        | false =>
          have HC : Keep (chs f a b = none) := ⟨by unfold chs; rw [if_neg (by rw [H1.out]; simp), if_neg (by rw [H2.out]; simp)]⟩
          replace hX := hX.later (below_oneD wc (.cells #[.bool false, .string ⟨#[]⟩, .bool false] 51))
          have HE := HC
          have qf2 := hX.rf
          have q02 := hX.r0; have q12 := hX.r1; have q22 := hX.r2
          obtain ⟨k0, k1, k2, kb⟩ := hX.ret noFl
          simp only [noFl] at k0 k1 k2 kb
          have HP : Keep _ := ⟨kb⟩
          clear hX kb
          go_wp2
          refine bodyPost_ret (v := .tuple #[flV noFl, .bool false]) ?_ rfl ⟨by rw [HE.out]; rfl, HP.out⟩
          go_light
          simp [results, Tryz.results60, go_sem, flV, noFl, k0, k1, k2]
set_option maxHeartbeats 1000000 in
theorem chooseB_any (x y z : Bool) (w : World) :
    Calls Tryz.prog 62 #[.bool x, .bool y, .bool z] w fun e w' => ∃ q : Bool, e = .returned (.tuple #[.bool (runsM x y z), .bool q]) ∧ w' = w := by
  cases x <;> cases y <;> cases z <;> (go_enter Tryz.func62, Tryz.ntmps62; go_wp2; go_ret2; exact ⟨_, rfl, rfl⟩)

set_option maxRecDepth 100000 in
set_option maxHeartbeats 4000000 in
theorem mergeFiles_any (F : MrgF) (f a b : Fl) (w : World) (hM : ∀ W, Calls Tryz.prog 61 #[.string f.text, .string a.text, .string b.text] W fun e w' => e = .returned (mrgV (F f.text a.text b.text)) ∧ Below W.heap.size W w') :
    Calls Tryz.prog 30 #[flV f, flV a, flV b] w (PathPost F f a b w) := by
  have hX : L8 w w.heap.size (w.heap.size + 1) (w.heap.size + 1 + 1) (w.heap.size + 1 + 1 + 1) f a b ((((w.alloc (.cells #[.bool f.there, .string f.text, .bool f.runs] 51)).alloc (.cells #[.bool a.there, .string a.text, .bool a.runs] 51)).alloc (.cells #[.bool b.there, .string b.text, .bool b.runs] 51)).alloc (.cells #[.bool false, .string ⟨#[]⟩, .bool false] 51)) := ⟨by simp [go_sem], by simp [go_sem], by simp [go_sem], by simp [go_sem], by simp [go_sem], by simp [go_sem], by simp [go_sem], by simp [go_sem], by simp [go_sem], by simp [go_sem], by simp [go_sem], by simp [go_sem], fun j => by simp [go_sem], (((Below.refl _ _).alloc (Nat.le_refl _) _).alloc (by simp) _).alloc (by simp; omega) _ |>.alloc (by simp; omega) _, by omega⟩
  have hCh := chooseF_any f a b
  unfold flV at hCh ⊢
  go_enter Tryz.func30, Tryz.ntmps30
  go_upto_region 1 with fail
  generalize (((w.alloc (.cells #[.bool f.there, .string f.text, .bool f.runs] 51)).alloc (.cells #[.bool a.there, .string a.text, .bool a.runs] 51)).alloc (.cells #[.bool b.there, .string b.text, .bool b.runs] 51)).alloc (.cells #[.bool false, .string ⟨#[]⟩, .bool false] 51) = W at *
  generalize w.heap.size + 1 + 1 + 1 = b6 at *
  generalize w.heap.size + 1 + 1 = b5 at *
  generalize w.heap.size + 1 = b4 at *
  have z0 := hX.f0; have z1 := hX.f1; have z2 := hX.f2; have z3 := hX.a0; have z4 := hX.a1; have z5 := hX.a2; have z6 := hX.c0; have z7 := hX.c1; have z8 := hX.c2; have q0 := hX.r0; have q1 := hX.r1; have q2 := hX.r2; have qf := hX.rf
  go_wp2_with fail
  refine (hCh _).mono ?_
  rintro e w2 ⟨rfl, hb2⟩
  cases hch : chs f a b with
  | some g =>
    have HE : Keep (pathM F f a b = some g) := ⟨pathM_some hch⟩
    dsimp only [Option.getD_some, Option.isSome_some]
    unfold flV
    have hb3 := below_oneD w2 (.cells #[.bool g.there, .string g.text, .bool g.runs] 51)
    replace hX := (hX.later hb2).later hb3
    clear z0 z1 z2 z3 z4 z5 z6 z7 z8 q0 q1 q2 qf hb2 hb3 hch hCh
    have qf := hX.rf; have q0 := hX.r0; have q1 := hX.r1; have q2 := hX.r2
    obtain ⟨k0, k1, k2, kb⟩ := hX.ret g
    have HP : Keep _ := ⟨kb⟩
    clear hX kb hM
    go_wp2
    refine bodyPost_ret (v := .tuple #[flV g, .bool true]) ?_ rfl ⟨by rw [HE.out]; rfl, HP.out⟩
    go_light
    simp [results, Tryz.results30, go_sem, flV, k0, k1, k2]
  | none =>
    have HC : Keep (chs f a b = none) := ⟨hch⟩
    dsimp only [Option.getD_none, Option.isSome_none]
    unfold flV noFl
    have hb3 := below_oneD w2 (.cells #[.bool false, .string ⟨#[]⟩, .bool false] 51)
    replace hX := (hX.later hb2).later hb3
    clear z0 z1 z2 z3 z4 z5 z6 z7 z8 q0 q1 q2 qf hb2 hb3 hch hCh
    go_upto_region 4 with fail
    generalize w2.alloc (.cells #[.bool false, .string ⟨#[]⟩, .bool false] 51) = w3 at *
    have z0 := hX.f0; have z1 := hX.f1; have z2 := hX.f2; have z3 := hX.a0; have z4 := hX.a1; have z5 := hX.a2; have z6 := hX.c0; have z7 := hX.c1; have z8 := hX.c2; have q0 := hX.r0; have q1 := hX.r1; have q2 := hX.r2; have qf := hX.rf
    by_cases hall : (f.there && a.there && b.there) = true
    · obtain ⟨⟨t0, t1⟩, t2⟩ : (f.there = true ∧ a.there = true) ∧ b.there = true := by simpa using hall
      rw [t0] at z0; rw [t1] at z3; rw [t2] at z6
      go_wp2_with fail
      refine (hM _).mono ?_
      rintro e w5 ⟨rfl, hb⟩
      replace hX := hX.later hb
      clear z0 z1 z2 z3 z4 z5 z6 z7 z8 q0 q1 q2 qf t0 t1 t2
      have z0 := hX.f0; have z1 := hX.f1; have z2 := hX.f2; have z3 := hX.a0; have z4 := hX.a1; have z5 := hX.a2; have z6 := hX.c0; have z7 := hX.c1; have z8 := hX.c2; have q0 := hX.r0; have q1 := hX.r1; have q2 := hX.r2; have qf := hX.rf
      cases hF : F f.text a.text b.text with
      | none =>
        unfold mrgV
        have HE : Keep (pathM F f a b = none) := ⟨by unfold pathM; rw [HC.out]; dsimp only; rw [if_pos hall, hF]⟩
        clear hall hF
        obtain ⟨k0, k1, k2, kb⟩ := hX.ret noFl
        simp only [noFl] at k0 k1 k2 kb
        have HP : Keep _ := ⟨kb⟩
        clear hX kb hM
        go_wp2
        refine bodyPost_ret (v := .tuple #[flV noFl, .bool false]) ?_ rfl ⟨by rw [HE.out]; rfl, HP.out⟩
        go_light
        simp [results, Tryz.results30, go_sem, flV, noFl, k0, k1, k2]
      | some s =>
        unfold mrgV
        have hsz : (lnB s).size = s.length := lnB_size s
        by_cases hbig : s.length ≤ 1500
        · have hb' : ((lnB s).size : Int) ≤ 1500 := by rw [hsz]; omega
          have hb'' : ¬ (1500 : Int) < (lnB s).size := by rw [hsz]; omega
          have HE : Keep (pathM F f a b = some ⟨true, lnB s, runsM f.runs a.runs b.runs⟩) := ⟨by unfold pathM; rw [HC.out]; dsimp only; rw [if_pos hall, hF]; dsimp only; rw [if_pos hbig]; rfl⟩
          have hcb := chooseB_any f.runs a.runs b.runs w5
          obtain ⟨r, hr⟩ : ∃ r, r = runsM f.runs a.runs b.runs := ⟨_, rfl⟩
          rw [← hr] at hcb
          have HE2 : Keep (pathM F f a b = some ⟨true, lnB s, r⟩) := ⟨by rw [HE.out, hr]⟩
          clear hr hall hF hbig hsz HC HE
          go_wp2_with fail
          refine hcb.mono ?_
          rintro e w6 ⟨q, rfl, rfl⟩
          obtain ⟨k0, k1, k2, kb⟩ := hX.ret ⟨true, lnB s, r⟩
          dsimp only at k0 k1 k2 kb
          have HP : Keep _ := ⟨kb⟩
          clear hX kb hM hcb
          go_wp2
          refine bodyPost_ret (v := .tuple #[flV ⟨true, lnB s, r⟩, .bool true]) ?_ rfl ⟨by rw [HE2.out]; rfl, HP.out⟩
          go_light
          simp [results, Tryz.results30, go_sem, flV, k0, k1, k2]
        · have hb' : (1500 : Int) < (lnB s).size := by rw [hsz]; omega
          have HE : Keep (pathM F f a b = none) := ⟨by unfold pathM; rw [HC.out]; dsimp only; rw [if_pos hall, hF]; dsimp only; rw [if_neg hbig]⟩
          clear hall hF hbig hsz
          obtain ⟨k0, k1, k2, kb⟩ := hX.ret noFl
          simp only [noFl] at k0 k1 k2 kb
          have HP : Keep _ := ⟨kb⟩
          clear hX kb hM
          go_wp2
          refine bodyPost_ret (v := .tuple #[flV noFl, .bool false]) ?_ rfl ⟨by rw [HE.out]; rfl, HP.out⟩
          go_light
          simp [results, Tryz.results30, go_sem, flV, noFl, k0, k1, k2]
    · have HE : Keep (pathM F f a b = none) := ⟨by unfold pathM; rw [HC.out]; dsimp only; rw [if_neg hall]⟩
      cases hx : f.there with
      | false =>
        rw [hx] at z0
        clear hall hx
        obtain ⟨k0, k1, k2, kb⟩ := hX.ret noFl
        simp only [noFl] at k0 k1 k2 kb
        have HP : Keep _ := ⟨kb⟩
        clear hX kb hM
        go_wp2
        refine bodyPost_ret (v := .tuple #[flV noFl, .bool false]) ?_ rfl ⟨by rw [HE.out]; rfl, HP.out⟩
        go_light
        simp [results, Tryz.results30, go_sem, flV, noFl, k0, k1, k2]
      | true =>
        cases hy : a.there with
        | false =>
          rw [hx] at z0; rw [hy] at z3
          clear hall hx hy
          obtain ⟨k0, k1, k2, kb⟩ := hX.ret noFl
          simp only [noFl] at k0 k1 k2 kb
          have HP : Keep _ := ⟨kb⟩
          clear hX kb hM
          go_wp2
          refine bodyPost_ret (v := .tuple #[flV noFl, .bool false]) ?_ rfl ⟨by rw [HE.out]; rfl, HP.out⟩
          go_light
          simp [results, Tryz.results30, go_sem, flV, noFl, k0, k1, k2]
        | true =>
          have hz : b.there = false := by rw [hx, hy] at hall; simpa using hall
          rw [hx] at z0; rw [hy] at z3; rw [hz] at z6
          clear hall hx hy hz
          obtain ⟨k0, k1, k2, kb⟩ := hX.ret noFl
          simp only [noFl] at k0 k1 k2 kb
          have HP : Keep _ := ⟨kb⟩
          clear hX kb hM
          go_wp2
          refine bodyPost_ret (v := .tuple #[flV noFl, .bool false]) ?_ rfl ⟨by rw [HE.out]; rfl, HP.out⟩
          go_light
          simp [results, Tryz.results30, go_sem, flV, noFl, k0, k1, k2]
end Go.Proofs.YtjiafjdjocmodaaGreat
