/-
  LeastI, CommI, LinesP, MergeP, PairB, LinesB, TxtL, MergeS, LinesS, TabS, CommS, MergeSW: laid as one text.
-/
import Derived.Test.YtjiafjdjocmodaaGreatZba
import Derived.Deep.LoopGhost
import Derived.WalkMore
import Derived.Test.YtjiafjdjocmodaaGreatRows
import Derived.WalkKit
import Derived.Lib.CutLaws
import Derived.Lib.IndexLaws
import Derived.Test.YtjiafjdjocmodaaGreatBase
import Derived.Test.YtjiafjdjocmodaaGreatStrsB
namespace Go.Proofs.YtjiafjdjocmodaaGreat
open Go.RowKit

/-- Pairs as cells. -/
def pairC (ps : List (Nat × Nat)) : List Value := ps.flatMap fun p => [Value.int .i64 (p.1 : Int), Value.int .i64 (p.2 : Int)]
theorem pairC_snoc (ps : List (Nat × Nat)) (x y : Nat) : pairC (ps ++ [(x, y)]) = pairC ps ++ [Value.int .i64 (x : Int), Value.int .i64 (y : Int)] := by simp [pairC]
theorem Tryz.infoPair : (Tryz.prog.info? 146).map (fun i => (i.zero, i.size, i.bytes)) = some (some (.agg #[.int .i64 0, .int .i64 0]), 2, 16) := by kernel_rfl

def PairsPost (ps : List (Nat × Nat)) (w : World) (e : Ending) (w' : World) : Prop :=
  ∃ ad cp, e = .returned (.slice ad ps.length cp) ∧ w'.ownsRow w.heap.size 146 2 (.slice ad ps.length cp) ps.length (pairC ps) ∧ Below w.heap.size w w'

/-- Where the search stands: behind the pairs that are done, at row k, column j. -/
structure Seek (m n : Nat) (E : Nat → Nat → Bool) (ps done rest : List (Nat × Nat)) (i0 j0 k j : Nat) : Prop where
  all : ps = done ++ rest
  comm : Comm m n E i0 j0 rest
  ik : i0 ≤ k
  jj : j0 ≤ j
  row : ∀ x y r, rest = (x, y) :: r → k ≤ x ∧ (x = k → j ≤ y)

theorem Seek.start {m n : Nat} {E : Nat → Nat → Bool} {ps : List (Nat × Nat)} (h : Comm m n E 0 0 ps) : Seek m n E ps [] ps 0 0 0 0 :=
  ⟨by simp, h, Nat.le_refl _, Nat.le_refl _, fun x y r _ => ⟨Nat.zero_le _, fun _ => Nat.zero_le _⟩⟩
theorem Seek.none {m n : Nat} {E : Nat → Nat → Bool} {ps done rest : List (Nat × Nat)} {i0 j0 k j : Nat} (h : Seek m n E ps done rest i0 j0 k j) (h0 : lcs m n E i0 j0 = 0) : ps = done := by
  rw [h.all, h.comm.zero h0]; simp
theorem Seek.over {m n : Nat} {E : Nat → Nat → Bool} {ps done rest : List (Nat × Nat)} {i0 j0 j : Nat} (h : Seek m n E ps done rest i0 j0 m j) : ps = done := by
  have : rest = [] := by
    cases rest with
    | nil => rfl
    | cons p r =>
      have h1 := h.row p.1 p.2 r rfl
      have h2 := h.comm.2.2.2.1.xm
      omega
  rw [h.all, this]; simp
theorem Seek.down {m n : Nat} {E : Nat → Nat → Bool} {ps done rest : List (Nat × Nat)} {i0 j0 k : Nat} (h : Seek m n E ps done rest i0 j0 k n) : Seek m n E ps done rest i0 j0 (k + 1) j0 := by
  refine ⟨h.all, h.comm, by have := h.ik; omega, Nat.le_refl _, fun x y r e => ?_⟩
  have h1 := h.row x y r e
  have hf : Fst m n E i0 j0 x y := by have := h.comm; rw [e] at this; exact this.2.2.2.1
  refine ⟨?_, fun _ => hf.jy⟩
  rcases Nat.lt_or_ge k x with h2 | h2
  · omega
  · have := h1.2 (by omega)
    have := hf.yn
    omega
theorem Seek.on {m n : Nat} {E : Nat → Nat → Bool} {ps done rest : List (Nat × Nat)} {i0 j0 k j : Nat} (h : Seek m n E ps done rest i0 j0 k j) (hn : ¬ Fits m n E (lcs m n E i0 j0) k j) : Seek m n E ps done rest i0 j0 k (j + 1) := by
  refine ⟨h.all, h.comm, h.ik, by have := h.jj; omega, fun x y r e => ?_⟩
  have h1 := h.row x y r e
  have hf : Fst m n E i0 j0 x y := by have := h.comm; rw [e] at this; exact this.2.2.2.1
  refine ⟨h1.1, fun hx => ?_⟩
  have h2 := h1.2 hx
  rcases Nat.lt_or_ge j y with h3 | h3
  · omega
  · obtain rfl : j = y := by omega
    subst hx
    exact absurd hf.fits hn
theorem Seek.take {m n : Nat} {E : Nat → Nat → Bool} {ps done rest : List (Nat × Nat)} {i0 j0 k j : Nat} (h : Seek m n E ps done rest i0 j0 k j) (hj : j < n) (h0 : 0 < lcs m n E i0 j0) (hn : Fits m n E (lcs m n E i0 j0) k j) : ∃ r, Seek m n E ps (done ++ [(k, j)]) r (k + 1) (j + 1) (k + 1) (j + 1) := by
  obtain ⟨x, y, r, rfl, hf, hc⟩ := h.comm.pos h0
  have h1 := h.row x y r rfl
  have ex : k = x := by
    rcases Nat.lt_or_ge k x with h2 | h2
    · exact absurd hn (hf.row k j h.ik h2 h.jj hj)
    · omega
  subst ex
  have ey : j = y := by
    have := h1.2 rfl
    rcases Nat.lt_or_ge j y with h2 | h2
    · exact absurd hn (hf.col j h.jj h2)
    · omega
  subst ey
  refine ⟨r, by rw [h.all]; simp, hc, Nat.le_refl _, Nat.le_refl _, fun x2 y2 r2 e => ?_⟩
  have hf2 : Fst m n E (k + 1) (j + 1) x2 y2 := by rw [e] at hc; exact hc.2.2.2.1
  exact ⟨hf2.ix, fun _ => hf2.jy⟩

theorem owns_low2 {w : World} {b b' : Nat} {e : TypeId} {size : Nat} {v : Value} {n : Nat} {xs : List Value} (h : w.ownsRow b e size v n xs) (hb : b' ≤ b) : w.ownsRow b' e size v n xs := by
  refine ⟨h.1, ?_⟩
  rcases h.2 with h' | ⟨g, cap, cur, hv, k1, k2, k3⟩
  · exact .inl h'
  · exact .inr ⟨g, cap, cur, hv, Nat.le_trans hb k1, k2, k3⟩

set_option maxRecDepth 20000 in
set_option maxHeartbeats 8000000 in
theorem leastPairs_any (a1 a2 : Option Addr) (c1 c2 : Nat) (A B : List Nat) (E : Nat → Nat → Bool) (g : Nat) (ps : List (Nat × Nat)) (w : World) (hA : IS w a1 A) (hB : IS w a2 B) (hm : A.length ≤ 1500) (hn : B.length ≤ 1500)
    (hE : ∀ i j (hi : i < A.length) (hj : j < B.length), E i j = true ↔ A[i] = B[j]) (hT : TabM A.length B.length E g 0 w) (hps : Comm A.length B.length E 0 0 ps) :
    Calls Tryz.prog 109 #[.slice a1 A.length c1, .slice a2 B.length c2, lenV (B.length + 1) g ((A.length + 1) * (B.length + 1))] w fun e w' => PairsPost ps w e w' := by
  obtain ⟨ti, hti, hz0, hz1, hz2⟩ := info_parts Tryz.infoPair
  obtain ⟨N, hN⟩ : ∃ N, N = (A.length + 1) * (B.length + 1) := ⟨_, rfl⟩
  have hNl : N ≤ 2253001 := by
    rw [hN]
    exact Nat.le_trans (Nat.mul_le_mul (show A.length + 1 ≤ 1501 by omega) (show B.length + 1 ≤ 1501 by omega)) (by decide)
  have HN : NKeep (N = (A.length + 1) * (B.length + 1)) := ⟨hN⟩
  have hrw : ∀ (i : Nat) (W : World), i ≤ A.length → Calls Tryz.prog 127 #[.agg #[.int .i64 ((B.length : Int) + 1), .slice (some ⟨g, 0, none⟩) N N], .int .i64 (i : Int)] W fun e w' => e = .returned (.slice (some ⟨g, i * (B.length + 1), none⟩) (B.length + 1) (N - i * (B.length + 1))) ∧ Below W.heap.size W w' := fun i W hi =>
    row_any (B.length + 1) g N i W (by omega) (by rw [HN.out]; exact Nat.mul_le_mul_right _ (by omega)) (by omega)
  rw [← hN]
  clear hN
  unfold lenV
  rw [show ((B.length + 1 : Nat) : Int) = (B.length : Int) + 1 by omega]
  have hr0 := hrw 0
  rw [Nat.zero_mul] at hr0
  have q0 : ∀ W, Below w.heap.size w W → W.cell? ⟨g, 0, none⟩ = some (.int .u16 ((lcs A.length B.length E 0 0 : Nat) : Int)) := fun W hb => by
    have := (TabM.cell (owns_below hT hb) (i := 0) (j := 0) (Nat.zero_le _) (Nat.zero_le _) (Nat.zero_le _))
    simpa using this
  go_enter Tryz.func109, Tryz.ntmps109
  go_wp2
  go_step3
  go_wp2_with (go_at_call 127; refine (hr0 _ (by omega)).mono ?_; rintro e w1 ⟨rfl, hb1⟩; have hb2 := ((Below.refl _ w).alloc (Nat.le_refl _) _).trans (hb1.mono (by simp)); have q1 := q0 w1 hb2)
  go_step3
  go_wp2
  have hbx : w1.heap[w.heap.size]? = some (.cells #[.int .i64 ((B.length : Int) + 1), .slice (some ⟨g, 0, none⟩) N N] 153) := (hb1.block w.heap.size (by simp)).trans (heap_alloc_new w _)
  have hs1 : w.heap.size + 1 ≤ w1.heap.size := by have := hb1.size; simpa using this
  clear hb1 q1
  go_loopg [7, 8, 9, 19] A.length (fun gk v lf fr ix wr => ∃ (k i0 j0 : Nat) (done rest : List (Nat × Nat)), k + gk = A.length ∧ ix = .int .i64 k ∧ fr = .int .i64 j0 ∧ lf = .int .u16 ((lcs A.length B.length E i0 j0 : Nat) : Int) ∧ NKeep (Seek A.length B.length E ps done rest i0 j0 k j0) ∧ done.length ≤ k ∧ j0 ≤ B.length ∧
    wr.ownsRow (w.heap.size + 1) 146 2 v done.length (pairC done) ∧ Below (w.heap.size + 1) w1 wr)
  case atStart => exact ⟨0, 0, 0, [], ps, by omega, rfl, rfl, rfl, ⟨Seek.start hps⟩, Nat.le_refl _, Nat.zero_le _, World.ownsRow_nil _ _ _ _, Below.refl _ _⟩
  case round =>
    obtain ⟨k, i0, j0, done, rest, hkg, rfl, rfl, rfl, HS, hdl, hj0, hrow, hB1⟩ := hrel
    have hBw : Below w.heap.size w wr := hb2.trans (hB1.mono (by omega))
    cases gk with
    | zero =>
      obtain rfl : k = A.length := by omega
      have HP : NKeep (ps = done) := ⟨HS.out.over⟩
      obtain ⟨ad, cp, rfl⟩ := owns_slice hrow
      go_wp2
      rw [Exit.noGoto_ret]
      go_ret
      rw [HP.out]
      exact ⟨ad, cp, rfl, owns_low2 hrow (by omega), hBw⟩
    | succ gq =>
      have hk : k < A.length := by omega
      have hk' : (k : Int) < A.length := by omega
      obtain ⟨P2, hP2⟩ : ∃ P2, P2 = (k + 1) * (B.length + 1) := ⟨_, rfl⟩
      have hrk := hrw (k + 1) wr (by omega)
      rw [← hP2, show ((k + 1 : Nat) : Int) = (k : Int) + 1 by omega] at hrk
      have HP2 : NKeep (P2 = (k + 1) * (B.length + 1)) := ⟨hP2⟩
      have hPN : P2 + (B.length + 1) ≤ N := by
        rw [HN.out, hP2]
        have : (k + 1 + 1) * (B.length + 1) ≤ (A.length + 1) * (B.length + 1) := Nat.mul_le_mul_right _ (by omega)
        rw [Nat.add_mul (k + 1), Nat.one_mul] at this
        omega
      have hbxr := (hB1.block w.heap.size (by omega)).trans hbx
      have x0 : wr.cell? ⟨w.heap.size, 0, none⟩ = some (.int .i64 ((B.length : Int) + 1)) := by simp [World.cell?, hbxr]
      have x1 : wr.cell? ⟨w.heap.size, 1, none⟩ = some (.slice (some ⟨g, 0, none⟩) N N) := by simp [World.cell?, hbxr]
      clear hP2
      go_wp2_with (go_at_call 127; refine hrk.mono ?_; rintro e w3 ⟨rfl, hb3⟩)
      clear hrk x0 x1 hbxr
      have hB3 : Below (w.heap.size + 1) w1 w3 := hB1.trans (hb3.mono (by have := hB1.size; omega))
      have hrow3 := owns_below hrow hb3
      clear hrow hB1 hBw hb3
      go_loopg [7, 8, 9, 12] (B.length - j0) (fun g2 v lf fr jx wr => ∃ j : Nat, j + g2 = B.length ∧ jx = .int .i64 j ∧ fr = .int .i64 j0 ∧ lf = .int .u16 ((lcs A.length B.length E i0 j0 : Nat) : Int) ∧ NKeep (Seek A.length B.length E ps done rest i0 j0 k j) ∧
        wr.ownsRow (w.heap.size + 1) 146 2 v done.length (pairC done) ∧ Below (w.heap.size + 1) w1 wr)
      case atStart => exact ⟨j0, by omega, rfl, rfl, rfl, HS, hrow3, hB3⟩
      case round =>
        obtain ⟨j, hjg, rfl, rfl, rfl, HSj, hrowj, hBj⟩ := hrel
        have hBwj : Below w.heap.size w wr := hb2.trans (hBj.mono (by omega))
        have hsj := hBj.size
        cases gk with
        | zero =>
          obtain rfl : j = B.length := by omega
          have HD : NKeep (Seek A.length B.length E ps done rest i0 j0 (k + 1) j0) := ⟨HSj.out.down⟩
          go_wp2
          go_roundg gq
          case measure => omega
          case rel => exact ⟨k + 1, i0, j0, done, rest, by omega, by go_num, rfl, rfl, HD, by omega, hj0, hrowj, hBj⟩
        | succ g2 =>
          have hj : j < B.length := by omega
          have hj' : (j : Int) < B.length := by omega
          by_cases hl0 : lcs A.length B.length E i0 j0 = 0
          · have HP : NKeep (ps = done) := ⟨HSj.out.none hl0⟩
            obtain ⟨ad, cp, rfl⟩ := owns_slice hrowj
            rw [hl0]
            go_wp2
            rw [Exit.noGoto_ret]
            go_ret
            rw [HP.out]
            exact ⟨ad, cp, rfl, owns_low2 hrowj (by omega), hBwj⟩
          · obtain ⟨b1, o1, rfl, d1⟩ := hA.at hk
            obtain ⟨b2, o2, rfl, d2⟩ := hB.at hj
            have y1 := cell_later hBwj (d1 k hk)
            have y2 := cell_later hBwj (d2 j hj)
            have t1 : wr.cell? ⟨g, P2 + (j + 1), none⟩ = some (.int .u16 ((lcs A.length B.length E (k + 1) (j + 1) : Nat) : Int)) := by
              have := TabM.cell (owns_below hT hBwj) (i := k + 1) (j := j + 1) (by omega) (by omega) (Nat.zero_le _)
              rwa [← HP2.out] at this
            have l1 := lcs_le1 A.length B.length E (k + 1) (j + 1)
            have l2 := lcs_le1 A.length B.length E i0 j0
            have HE := hE k j hk hj
            have HFit : NKeep (Fits A.length B.length E (lcs A.length B.length E i0 j0) k j ↔ (E k j = true ∧ lcs A.length B.length E (k + 1) (j + 1) + 1 = lcs A.length B.length E i0 j0)) := ⟨Iff.rfl⟩
            have HL0 : NKeep (0 < lcs A.length B.length E i0 j0) := ⟨by omega⟩
            have HLX : NKeep (∀ r, Seek A.length B.length E ps (done ++ [(k, j)]) r (k + 1) (j + 1) (k + 1) (j + 1) → lcs A.length B.length E (k + 1) (j + 1) + 1 = lcs A.length B.length E i0 j0 → True) := ⟨fun _ _ _ => trivial⟩
            obtain ⟨Lx, hLx⟩ : ∃ Lx, Lx = lcs A.length B.length E i0 j0 := ⟨_, rfl⟩
            obtain ⟨Ly, hLy⟩ : ∃ Ly, Ly = lcs A.length B.length E (k + 1) (j + 1) := ⟨_, rfl⟩
            rw [← hLy] at t1 l1
            rw [← hLx] at hl0 l2 ⊢
            have HLL : NKeep (Lx = lcs A.length B.length E i0 j0 ∧ Ly = lcs A.length B.length E (k + 1) (j + 1)) := ⟨hLx, hLy⟩
            have hl0' : ((Lx : Int) == 0) = false := by simp; omega
            have hw1 : IntKind.u16.wrap ((Ly : Int) + 1) = (Ly : Int) + 1 := by rw [show ∀ z, IntKind.u16.wrap z = z % 65536 from fun _ => rfl]; omega
            clear hLx hLy d1 d2 hl0 HLX
            by_cases he : E k j = true
            · have hab := HE.1 he
              have habI : ((A[k] : Nat) : Int) = ((B[j] : Nat) : Int) := by rw [hab]
              by_cases hf : Ly + 1 = Lx
              · have HF : NKeep (Fits A.length B.length E (lcs A.length B.length E i0 j0) k j) := ⟨HFit.out.2 ⟨he, by rw [← HLL.out.1, ← HLL.out.2]; exact hf⟩⟩
                have hfI : ((Ly : Int) + 1) = (Lx : Int) := by omega
                clear HFit HE hab he
                obtain ⟨r, hr⟩ := HSj.out.take hj HL0.out HF.out
                have HR : NKeep (Seek A.length B.length E ps (done ++ [(k, j)]) r (k + 1) (j + 1) (k + 1) (j + 1)) := ⟨hr⟩
                clear hr
                have hbs := owns_base hrowj
                go_wp2
                go_region
                all_goals go_wp2_with (at_builtin; refine wpList_append_own _ rfl _ _ 109 rfl (w.heap.size + 1) 146 ti _ 2 16 Tryz.underlying109 hti hz0 hz1 hz2 rfl (by decide) _ _ _ rfl (hrowj.alloc _) ⟨wr.heap.size, 0, none⟩ 1 1 [.int .i64 (k : Int), .int .i64 (j : Int)] rfl rfl (fun j' u h => (World.news_of_block (w := wr.alloc _) (heap_alloc_new _ _) j' u h)) (by simp [Value.oneCell']) (by unfold maxLen; omega) (by omega) (by simp; omega) ?_; intro v4 w4 ho4 hg4 _)
                go_roundg gq
                case measure => omega
                case rel =>
                  refine ⟨k + 1, k + 1, j + 1, done ++ [(k, j)], r, by omega, by go_num, by go_num, ?_, HR, by simp; omega, by omega, ?_, ?_⟩
                  · rw [← HLL.out.2]
                    go_num
                  · rw [List.length_append, pairC_snoc]
                    exact ho4
                  · exact ((hBj.drew.alloc (by show _ ≤ wr.heap.size; omega) _).grown hg4 (by simp; omega) hbs)
              · have HD : NKeep (Seek A.length B.length E ps done rest i0 j0 k (j + 1)) := ⟨HSj.out.on (fun hx => hf (by have := (HFit.out.1 hx).2; rw [← HLL.out.1, ← HLL.out.2] at this; exact this))⟩
                have hfI : (((Ly : Int) + 1) == (Lx : Int)) = false := by simp; omega
                clear HFit HE hab he
                go_wp2
                go_region
                all_goals (try go_wp2)
                go_roundg g2
                case measure => omega
                case rel => exact ⟨j + 1, by omega, by go_num, rfl, by rw [← HLL.out.1], HD, hrowj, hBj.drew⟩
            · have HD : NKeep (Seek A.length B.length E ps done rest i0 j0 k (j + 1)) := ⟨HSj.out.on (fun hx => he (HFit.out.1 hx).1)⟩
              have habI : (((A[k] : Nat) : Int) == ((B[j] : Nat) : Int)) = false := by
                have : ¬ A[k] = B[j] := fun h => he (HE.2 h)
                simp
                omega
              clear HFit HE he
              go_wp2
              go_region
              all_goals (try go_wp2)
              go_roundg g2
              case measure => omega
              case rel => exact ⟨j + 1, by omega, by go_num, rfl, by rw [← HLL.out.1], HD, hrowj, hBj.drew⟩
end Go.Proofs.YtjiafjdjocmodaaGreat

namespace Go.Proofs.YtjiafjdjocmodaaGreat
open Go.RowKit

/-- Which lines are equal. -/
def eqL (ss tt : List ByteArray) (i j : Nat) : Bool := decide (ss[i]? = tt[j]?)
theorem eqL_iff {ss tt : List ByteArray} {i j : Nat} (hi : i < ss.length) (hj : j < tt.length) : eqL ss tt i j = true ↔ ss[i] = tt[j] := by
  unfold eqL
  rw [List.getElem?_eq_getElem hi, List.getElem?_eq_getElem hj]
  simp

/-- What Common gives. -/
def CommT (ss tt : List ByteArray) (ps : List (Nat × Nat)) : Prop :=
  (ss.length ≤ 1500 ∧ tt.length ≤ 1500 ∧ Comm ss.length tt.length (eqL ss tt) 0 0 ps) ∨ ((1500 < ss.length ∨ 1500 < tt.length) ∧ ps = [])
theorem exists_commT (ss tt : List ByteArray) : ∃ ps, CommT ss tt ps := by
  by_cases h : ss.length ≤ 1500 ∧ tt.length ≤ 1500
  · obtain ⟨ps, hp⟩ := exists_comm (m := ss.length) (n := tt.length) (eqL ss tt) _ 0 0 rfl (Nat.zero_le _) (Nat.zero_le _)
    exact ⟨ps, .inl ⟨h.1, h.2, hp⟩⟩
  · exact ⟨[], .inr ⟨by omega, rfl⟩⟩
theorem CommT.len {ss tt : List ByteArray} {ps : List (Nat × Nat)} (h : CommT ss tt ps) : ps.length ≤ 1500 := by
  rcases h with ⟨h1, h2, h3⟩ | ⟨_, rfl⟩
  · rw [h3.len]
    have := lcs_le1 ss.length tt.length (eqL ss tt) 0 0
    omega
  · simp

theorem blk_lt {w : World} {b o : Nat} {v : Value} (h : w.cell? ⟨b, o, none⟩ = some v) : b < w.heap.size := by
  rcases Nat.lt_or_ge b w.heap.size with h' | h'
  · exact h'
  · simp [World.cell?, Array.getElem?_eq_none h'] at h
theorem SS.blk {w : World} {a : Option Addr} {ss : List ByteArray} (h : SS w a ss) : ∀ ad, a = some ad → 0 < ss.length → ad.block < w.heap.size := by
  rintro ad rfl h0
  obtain ⟨b, off, e, hc⟩ := h.at h0
  cases e
  exact blk_lt (hc 0 h0)
theorem SS.grown {w w' : World} {a : Option Addr} {ss : List ByteArray} {row : Option Nat} (h : SS w a ss) (hg : w.grownBy w' row) (hne : ∀ ad, a = some ad → 0 < ss.length → some ad.block ≠ row) : SS w' a ss := by
  rcases h with h | ⟨b, off, rfl, hc⟩
  · exact .inl h
  · refine .inr ⟨b, off, rfl, fun i hi => ?_⟩
    exact (hg.cell_far ⟨b, off + i, none⟩ (blk_lt (hc i hi)) (hne ⟨b, off, none⟩ rfl (by omega))).trans (hc i hi)

set_option maxRecDepth 20000 in
set_option maxHeartbeats 4000000 in
theorem implCommon_any (a1 a2 : Option Addr) (c1 c2 : Nat) (ss tt : List ByteArray) (ps : List (Nat × Nat)) (w : World) (h1 : SS w a1 ss) (h2 : SS w a2 tt) (hp : CommT ss tt ps)
    (hs : ∀ s ∈ ss, s.size ≤ 1099511627776) (ht : ∀ s ∈ tt, s.size ≤ 1099511627776) :
    Calls Tryz.prog 82 #[.slice a1 ss.length c1, .slice a2 tt.length c2] w fun e w' => PairsPost ps w e w' := by
  rcases hp with ⟨hm, hn, hc⟩ | ⟨hbig, rfl⟩
  · have e1 : decide ((1500 : Int) < ss.length) = false := by simp; omega
    have e2 : decide ((1500 : Int) < tt.length) = false := by simp; omega
    have hmm := @run_makeMap Tryz.prog
    go_enter Tryz.func82, Tryz.ntmps82
    go_wp2_with fail
    clear hmm
    have hM0 : (w.alloc (.map #[] 0)).ownsMap Tryz.prog 9 (plainElem Tryz.prog 3) w.heap.size 0 (.map [] : DataW Unit) := World.ownsMap_made _ _ _ _
    have hb0 : Below w.heap.size w (w.alloc (.map #[] 0)) := (Below.refl _ _).alloc (Nat.le_refl _) _
    refine (numberLines_any w.heap.size [] _ a1 c1 ss _ (by simp) (h1.below hb0) (fun ad e h => ⟨by have := h1.blk ad e h; omega, by have := h1.blk ad e h; simp; omega⟩) hm (by simp) hs hM0 keyD_nil).mono ?_
    rintro e w1 ⟨k1, D1, xs, ad1, cp1, rfl, _, hk1, hN1, hM1, hK1, hr1, hg1⟩
    have hb1 : Below w.heap.size w w1 := hb0.grown hg1 (by simp) (fun k e => by cases e; exact Nat.le_refl _)
    have hz1 : w.heap.size + 1 ≤ w1.heap.size := by have := hg1.size; simpa using this
    go_wp2_with fail
    refine (numberLines_any w.heap.size k1 D1 a2 c2 tt w1 (by omega) (h2.below hb1) (fun ad e h => ⟨by have := h2.blk ad e h; omega, by have := h2.blk ad e h; omega⟩) hn (by simp at hk1; omega) ht hM1 hK1).mono ?_
    rintro e w2 ⟨k2, D2, ys, ad2, cp2, rfl, hpre, hk2, hN2, hM2, hK2, hr2, hg2⟩
    have hb2 : Below w.heap.size w w2 := hb1.grown hg2 (by omega) (fun k e => by cases e; exact Nat.le_refl _)
    have hr1' := hr1.kept hg2 (.inr (fun e => by have := owns_base hr1 _ e; rw [World.size_alloc] at this; omega))
    have hN1' := hN1.mono hpre
    have hxl : xs.length = ss.length := hN1.1
    have hyl : ys.length = tt.length := hN2.1
    have i1 : IS w2 ad1 xs := is_of_row hxl hr1'
    have i2 : IS w2 ad2 ys := is_of_row hyl hr2
    have hE : ∀ i j (hi : i < xs.length) (hj : j < ys.length), eqL ss tt i j = true ↔ xs[i] = ys[j] := fun i j hi hj => by
      rw [eqL_iff (by omega) (by omega)]
      exact (Numbered.same hK2.nodup hN1' hN2 (by omega) (by omega) hi hj).symm
    have hme := measure_any ad1 ad2 cp1 cp2 xs ys (eqL ss tt) w2 i1 i2 (by omega) (by omega) hE
    rw [hxl, hyl] at hme
    go_wp2_with fail
    refine hme.mono ?_
    rintro e w3 ⟨g, hg, rfl, hT, hb3⟩
    have hle := leastPairs_any ad1 ad2 cp1 cp2 xs ys (eqL ss tt) g ps w3 (i1.below hb3) (i2.below hb3) (by omega) (by omega) hE (by rw [hxl, hyl]; exact hT) (by rw [hxl, hyl]; exact hc)
    rw [hxl, hyl] at hle
    go_wp2_with fail
    refine hle.mono ?_
    rintro e w4 ⟨ad, cp, rfl, hr4, hb4⟩
    go_wp2
    go_ret
    exact ⟨ad, cp, rfl, owns_low2 hr4 (Nat.le_trans hb2.size hb3.size), (hb2.trans (hb3.mono hb2.size)).trans (hb4.mono (Nat.le_trans hb2.size hb3.size))⟩
  · by_cases e1 : 1500 < ss.length
    · have e1' : decide ((1500 : Int) < ss.length) = true := by simp; omega
      go_enter Tryz.func82, Tryz.ntmps82
      go_wp2
      go_ret
      exact ⟨none, 0, rfl, World.ownsRow_nil _ _ _ _, Below.refl _ _⟩
    · have e1' : decide ((1500 : Int) < ss.length) = false := by simp; omega
      have e2' : decide ((1500 : Int) < tt.length) = true := by simp; omega
      go_enter Tryz.func82, Tryz.ntmps82
      go_wp2
      go_ret
      exact ⟨none, 0, rfl, World.ownsRow_nil _ _ _ _, Below.refl _ _⟩
end Go.Proofs.YtjiafjdjocmodaaGreat

namespace Go.Proofs.YtjiafjdjocmodaaGreat
open Go.RowKit Go.Lib

/-- A fact that the walk does not read. -/
structure LKeep (p : Prop) : Prop where
  out : p

def linesL : List UInt8 → List (List UInt8)
  | [] => []
  | c :: cs => if c = 10 then [c] :: linesL cs else match linesL cs with
    | [] => [[c]]
    | p :: ps => (c :: p) :: ps

theorem linesL_nil {l : List UInt8} (h : linesL l = []) : l = [] := by
  cases l with
  | nil => rfl
  | cons c cs =>
    unfold linesL at h
    split at h
    · simp at h
    · split at h <;> simp at h

theorem linesL_none : ∀ (l : List UInt8), l ≠ [] → (∀ k : Nat, l[k]? ≠ some 10) → linesL l = [l]
  | [], h, _ => absurd rfl h
  | c :: cs, _, h => by
    have hc : c ≠ 10 := fun e => h 0 (by simp [e])
    rw [linesL, if_neg hc]
    cases cs with
    | nil => rfl
    | cons d ds =>
      rw [linesL_none (d :: ds) (by simp) (fun k => by have := h (k + 1); simpa using this)]

theorem linesL_at : ∀ (l : List UInt8) (o : Nat), l[o]? = some 10 → (∀ k, k < o → l[k]? ≠ some 10) → linesL l = l.take (o + 1) :: linesL (l.drop (o + 1))
  | [], o, h, _ => by simp at h
  | c :: cs, 0, h, _ => by
    have hc : c = 10 := by simpa using h
    rw [linesL, if_pos hc]
    simp
  | c :: cs, o + 1, h, hk => by
    have hc : c ≠ 10 := fun e => hk 0 (by omega) (by simp [e])
    have ih := linesL_at cs o (by simpa using h) (fun k hlt => by have := hk (k + 1) (by omega); simpa using this)
    rw [linesL]
    rw [if_neg hc, ih]
    simp

theorem linesL_flat : ∀ (l : List UInt8), (linesL l).flatten = l
  | [] => rfl
  | c :: cs => by
    have ih := linesL_flat cs
    unfold linesL
    split
    · simp [ih]
    · split
      · rename_i h; rw [h] at ih; simp at ih ⊢; exact ih
      · rename_i p ps h; rw [h] at ih; simp at ih ⊢; exact ih

theorem linesL_le : ∀ (l : List UInt8), (linesL l).length ≤ l.length
  | [] => Nat.le_refl _
  | c :: cs => by
    have ih := linesL_le cs
    unfold linesL
    split
    · simp; omega
    · split
      · simp
      · rename_i p ps h; rw [h] at ih; simp at ih ⊢; omega

def lnB (l : List UInt8) : ByteArray := ⟨l.toArray⟩
theorem lnB_data (s : ByteArray) : lnB s.data.toList = s := by cases s; simp [lnB]
theorem lnB_list (l : List UInt8) : (lnB l).data.toList = l := by simp [lnB]
theorem lnB_size (l : List UInt8) : (lnB l).size = l.length := by simp [lnB, ByteArray.size]
theorem lnB_inj {x y : List UInt8} (h : lnB x = lnB y) : x = y := by rw [← lnB_list x, h, lnB_list]

def linesB (s : ByteArray) : List ByteArray := (linesL s.data.toList).map lnB
theorem linesB_le (s : ByteArray) : (linesB s).length ≤ s.size := by
  have := linesL_le s.data.toList
  rw [linesB, List.length_map]
  rw [← Lib.size_eq] at this
  exact this

theorem extract_lnB (s : ByteArray) (i j : Nat) : s.extract i j = lnB ((s.data.toList.drop i).take (j - i)) := by
  rw [Lib.extract_eq]
  rfl

theorem nl_cases (s : ByteArray) : Lib.indexByte s.data.toList 10 = -1 ∨ ∃ i : Nat, Lib.indexByte s.data.toList 10 = i ∧ i + 1 ≤ s.size := by
  have h := Lib.indexB_cases s ⟨#[10]⟩
  have e : Lib.indexB s ⟨#[10]⟩ = Lib.indexByte s.data.toList 10 := Lib.index_one s.data.toList 10
  rw [e] at h
  exact h

theorem linesB_last {s : ByteArray} (h : Lib.indexByte s.data.toList 10 = -1) (hs : 0 < s.size) : linesB s = [s] := by
  have hn := Lib.indexByte_none h
  rw [linesB, linesL_none _ (fun e => by rw [Lib.size_eq, e] at hs; simp at hs) hn]
  simp [lnB_data]
theorem linesB_none : linesB ⟨#[]⟩ = [] := rfl
theorem linesB_cut {s : ByteArray} {i : Nat} (h : Lib.indexByte s.data.toList 10 = i) : linesB s = s.extract 0 (i + 1) :: linesB (s.extract (i + 1) s.size) := by
  obtain ⟨h1, h2⟩ := Lib.indexByte_some h
  have e4 : (lnB ((s.data.toList.drop (i + 1)).take (s.size - (i + 1)))).data.toList = s.data.toList.drop (i + 1) := by
    rw [lnB_list]
    exact List.take_of_length_le (by rw [List.length_drop, ← Lib.size_eq]; exact Nat.le_refl _)
  rw [linesB, linesL_at _ i h1 h2, extract_lnB, extract_lnB, linesB, e4]
  simp
theorem line_size {s x : ByteArray} (h : x ∈ linesB s) : x.size ≤ s.size := by
  obtain ⟨q, hq, rfl⟩ := List.mem_map.1 h
  rw [lnB_size, Lib.size_eq]
  have := linesL_flat s.data.toList
  have hs := List.sublist_flatten_of_mem hq
  rw [this] at hs
  exact hs.length_le
theorem sub_flat {l1 l2 : List (List UInt8)} (h : List.Sublist l1 l2) : l1.flatten.length ≤ l2.flatten.length := by
  induction h with
  | slnil => exact Nat.le_refl _
  | cons a _ ih => simp only [List.flatten_cons, List.length_append]; omega
  | cons_cons a _ ih => simp only [List.flatten_cons, List.length_append]; omega
end Go.Proofs.YtjiafjdjocmodaaGreat

namespace Go.Proofs.YtjiafjdjocmodaaGreat
open Go.RowKit

abbrev Pl := Nat × Nat × Nat

/-- A stretch of lines, as one text. -/
def seg (ls : List ByteArray) (i j : Nat) : List UInt8 := (((ls.take j).drop i).map (fun l => l.data.toList)).flatten
def three (x y z : List UInt8) : Option (List UInt8) := if y = x then some z else if z = x ∨ z = y then some y else none
theorem three_pre (p x y z : List UInt8) : three (p ++ x) (p ++ y) (p ++ z) = (three x y z).map (p ++ ·) := by
  unfold three
  simp only [List.append_cancel_left_eq]
  split
  · rfl
  · split <;> rfl
theorem seg_cons {ls : List ByteArray} {i j : Nat} (h : i < j) (hj : j ≤ ls.length) : seg ls i j = (ls[i]'(by omega)).data.toList ++ seg ls (i + 1) j := by
  unfold seg
  rw [List.drop_eq_getElem_cons (by simp; omega)]
  simp
theorem seg_le (ls : List ByteArray) (i j : Nat) : (seg ls i j).length ≤ ((ls.map (fun l => l.data.toList)).flatten).length :=
  sub_flat (((List.drop_sublist i _).trans (List.take_sublist j ls)).map _)

/-- As the program goes: from place to place, the line that stands in front with each stretch. -/
def runI (lb la lc : List ByteArray) : Pl → List Pl → Option (List UInt8)
  | _, [] => some []
  | f, t :: ts => match three (seg lb f.1 t.1) (seg la f.2.1 t.2.1) (seg lc f.2.2 t.2.2) with
    | none => none
    | some s => (runI lb la lc t ts).map (s ++ ·)
/-- As the specification goes: a stretch, then the line that stands. -/
def runS (lb la lc : List ByteArray) : Pl → List Pl → Pl → Option (List UInt8)
  | f, [], z => three (seg lb f.1 z.1) (seg la f.2.1 z.2.1) (seg lc f.2.2 z.2.2)
  | f, t :: ts, z => match three (seg lb f.1 t.1) (seg la f.2.1 t.2.1) (seg lc f.2.2 t.2.2) with
    | none => none
    | some s => (runS lb la lc (t.1 + 1, t.2.1 + 1, t.2.2 + 1) ts z).map ((s ++ ((lb[t.1]?).getD ⟨#[]⟩).data.toList) ++ ·)

/-- Places of lines that stand: ascending, in bounds, one line. -/
def Stands (lb la lc : List ByteArray) : Pl → List Pl → Prop
  | _, [] => True
  | f, t :: ts => f.1 ≤ t.1 ∧ f.2.1 ≤ t.2.1 ∧ f.2.2 ≤ t.2.2 ∧ t.1 < lb.length ∧ t.2.1 < la.length ∧ t.2.2 < lc.length ∧ lb[t.1]? = la[t.2.1]? ∧ lb[t.1]? = lc[t.2.2]? ∧ Stands lb la lc (t.1 + 1, t.2.1 + 1, t.2.2 + 1) ts

theorem three_lines {lb la lc : List ByteArray} {f t : Pl} (h1 : f.1 < t.1) (h2 : f.2.1 < t.2.1) (h3 : f.2.2 < t.2.2) (k1 : t.1 ≤ lb.length) (k2 : t.2.1 ≤ la.length) (k3 : t.2.2 ≤ lc.length) (e1 : lb[f.1]? = la[f.2.1]?) (e2 : lb[f.1]? = lc[f.2.2]?) :
    three (seg lb f.1 t.1) (seg la f.2.1 t.2.1) (seg lc f.2.2 t.2.2) = (three (seg lb (f.1 + 1) t.1) (seg la (f.2.1 + 1) t.2.1) (seg lc (f.2.2 + 1) t.2.2)).map (((lb[f.1]?).getD ⟨#[]⟩).data.toList ++ ·) := by
  rw [seg_cons h1 k1, seg_cons h2 k2, seg_cons h3 k3]
  have l1 : f.1 < lb.length := by omega
  have l2 : f.2.1 < la.length := by omega
  have l3 : f.2.2 < lc.length := by omega
  rw [List.getElem?_eq_getElem l1, List.getElem?_eq_getElem l2] at e1
  rw [List.getElem?_eq_getElem l1, List.getElem?_eq_getElem l3] at e2
  rw [← Option.some.inj e1, ← Option.some.inj e2, three_pre, List.getElem?_eq_getElem l1]
  rfl

/-- Both ways come to one text, with the line in front. -/
theorem run_same {lb la lc : List ByteArray} : ∀ (ts : List Pl) (f : Pl), f.1 < lb.length → f.2.1 < la.length → f.2.2 < lc.length → lb[f.1]? = la[f.2.1]? → lb[f.1]? = lc[f.2.2]? → Stands lb la lc (f.1 + 1, f.2.1 + 1, f.2.2 + 1) ts →
    runI lb la lc f (ts ++ [(lb.length, la.length, lc.length)]) = (runS lb la lc (f.1 + 1, f.2.1 + 1, f.2.2 + 1) ts (lb.length, la.length, lc.length)).map (((lb[f.1]?).getD ⟨#[]⟩).data.toList ++ ·)
  | [], f, h1, h2, h3, e1, e2, _ => by
    simp only [List.nil_append, runI, runS]
    rw [three_lines (t := (lb.length, la.length, lc.length)) h1 h2 h3 (Nat.le_refl _) (Nat.le_refl _) (Nat.le_refl _) e1 e2]
    cases three (seg lb (f.1 + 1) lb.length) (seg la (f.2.1 + 1) la.length) (seg lc (f.2.2 + 1) lc.length) <;> simp
  | t :: ts, f, h1, h2, h3, e1, e2, hs => by
    obtain ⟨s1, s2, s3, k1, k2, k3, g1, g2, hr⟩ := hs
    simp only at s1 s2 s3
    have ih := run_same ts t k1 k2 k3 g1 g2 hr
    rw [List.cons_append, runI, runS, three_lines (t := t) (by omega) (by omega) (by omega) (by omega) (by omega) (by omega) e1 e2, ih]
    simp only
    cases three (seg lb (f.1 + 1) t.1) (seg la (f.2.1 + 1) t.2.1) (seg lc (f.2.2 + 1) t.2.2) with
    | none => rfl
    | some s =>
      simp only [Option.map_some]
      cases runS lb la lc (t.1 + 1, t.2.1 + 1, t.2.2 + 1) ts (lb.length, la.length, lc.length) <;> simp
theorem run_start {lb la lc : List ByteArray} (ts : List Pl) (hs : Stands lb la lc (0, 0, 0) ts) :
    runI lb la lc (0, 0, 0) (ts ++ [(lb.length, la.length, lc.length)]) = runS lb la lc (0, 0, 0) ts (lb.length, la.length, lc.length) := by
  cases ts with
  | nil =>
    simp only [List.nil_append, runI, runS]
    cases three (seg lb 0 lb.length) (seg la 0 la.length) (seg lc 0 lc.length) <;> simp
  | cons t ts =>
    obtain ⟨s1, s2, s3, k1, k2, k3, g1, g2, hr⟩ := hs
    have ih := run_same ts t k1 k2 k3 g1 g2 hr
    rw [List.cons_append, runI, runS, ih]
    cases three (seg lb 0 t.1) (seg la 0 t.2.1) (seg lc 0 t.2.2) with
    | none => rfl
    | some s =>
      simp only
      cases runS lb la lc (t.1 + 1, t.2.1 + 1, t.2.2 + 1) ts (lb.length, la.length, lc.length) <;> simp

/-- Pairs of equal lines, ascending from two places on. -/
def Asc2 (ss tt : List ByteArray) : Nat → Nat → List (Nat × Nat) → Prop
  | _, _, [] => True
  | i, j, p :: ps => i ≤ p.1 ∧ j ≤ p.2 ∧ p.1 < ss.length ∧ p.2 < tt.length ∧ ss[p.1]? = tt[p.2]? ∧ Asc2 ss tt (p.1 + 1) (p.2 + 1) ps
theorem Comm.asc {ss tt : List ByteArray} : ∀ {ps : List (Nat × Nat)} {i j : Nat}, Comm ss.length tt.length (eqL ss tt) i j ps → Asc2 ss tt i j ps
  | [], _, _, _ => trivial
  | p :: ps, i, j, h => by
    have hf := h.2.2.2.1
    refine ⟨hf.ix, hf.jy, hf.xm, hf.yn, ?_, Comm.asc h.2.2.2.2⟩
    have := hf.fits.1
    unfold eqL at this
    simpa using this
theorem CommT.asc {ss tt : List ByteArray} {ps : List (Nat × Nat)} (h : CommT ss tt ps) : Asc2 ss tt 0 0 ps := by
  rcases h with ⟨_, _, h⟩ | ⟨_, rfl⟩
  · exact h.asc
  · trivial

/-- The place that a place has in the other list. -/
def withP : List (Nat × Nat) → Nat → Option Nat
  | [], _ => none
  | p :: ps, i => if p.1 = i then some p.2 else withP ps i
/-- The places of the lines that are in both lists. -/
def placesP (pa pb : List (Nat × Nat)) : List Pl := pa.filterMap fun p => (withP pb p.1).map fun y => (p.1, p.2, y)

theorem withP_lt {ss tt : List ByteArray} : ∀ {ps : List (Nat × Nat)} {i j n : Nat}, Asc2 ss tt i j ps → n < i → withP ps n = none
  | [], _, _, _, _, _ => rfl
  | p :: ps, i, j, n, h, hn => by
    have h1 := h.1
    rw [withP, if_neg (by omega)]
    exact withP_lt h.2.2.2.2.2 (by omega)
theorem withP_some {ss tt : List ByteArray} : ∀ {ps : List (Nat × Nat)} {i j n y : Nat}, Asc2 ss tt i j ps → withP ps n = some y → j ≤ y ∧ y < tt.length ∧ n < ss.length ∧ ss[n]? = tt[y]? 
  | [], _, _, _, _, _, h => by simp [withP] at h
  | p :: ps, i, j, n, y, h, hw => by
    rw [withP] at hw
    obtain ⟨h1, h2, h3, h4, h5, h6⟩ := h
    split at hw
    · rename_i e
      cases hw
      subst e
      exact ⟨h2, h4, h3, h5⟩
    · obtain ⟨k1, k2, k3, k4⟩ := withP_some h6 hw
      exact ⟨by omega, k2, k3, k4⟩
theorem withP_mono {ss tt : List ByteArray} : ∀ {ps : List (Nat × Nat)} {i j n n' y y' : Nat}, Asc2 ss tt i j ps → withP ps n = some y → withP ps n' = some y' → n < n' → y < y'
  | [], _, _, _, _, _, _, _, h, _, _ => by simp [withP] at h
  | p :: ps, i, j, n, n', y, y', h, hw, hw', hlt => by
    rw [withP] at hw hw'
    have hr := h.2.2.2.2.2
    split at hw
    · rename_i e
      cases hw
      rw [if_neg (by omega)] at hw'
      have := (withP_some hr hw').1
      omega
    · split at hw'
      · rename_i e'
        rw [withP_lt hr (by omega)] at hw
        cases hw
      · exact withP_mono hr hw hw' hlt
theorem Stands.mono {lb la lc : List ByteArray} : ∀ {ts : List Pl} {f f' : Pl}, Stands lb la lc f' ts → f.1 ≤ f'.1 → f.2.1 ≤ f'.2.1 → f.2.2 ≤ f'.2.2 → Stands lb la lc f ts
  | [], _, _, _, _, _, _ => trivial
  | _ :: _, _, _, h, h1, h2, h3 => ⟨Nat.le_trans h1 h.1, Nat.le_trans h2 h.2.1, Nat.le_trans h3 h.2.2.1, h.2.2.2⟩
theorem stands_of {lb la lc : List ByteArray} {pb : List (Nat × Nat)} (hb : Asc2 lb lc 0 0 pb) : ∀ {pa : List (Nat × Nat)} {i j k : Nat}, Asc2 lb la i j pa → (∀ n y, i ≤ n → withP pb n = some y → k ≤ y) → Stands lb la lc (i, j, k) (placesP pa pb)
  | [], _, _, _, _, _ => trivial
  | p :: ps, i, j, k, h, H => by
    obtain ⟨h1, h2, h3, h4, h5, h6⟩ := h
    unfold placesP
    rw [List.filterMap_cons]
    cases hw : withP pb p.1 with
    | none =>
      simp only [Option.map_none]
      have ih := stands_of hb (k := k) h6 (fun n y hn hy => H n y (by omega) hy)
      exact ih.mono (by simp; omega) (by simp; omega) (Nat.le_refl _)
    | some y =>
      simp only [Option.map_some]
      obtain ⟨k1, k2, k3, k4⟩ := withP_some hb hw
      have ih := stands_of hb (k := y + 1) h6 (fun n y' hn hy => withP_mono hb hw hy (by omega))
      exact ⟨h1, h2, H p.1 y h1 hw, h3, h4, k2, h5, k4, ih⟩
theorem stands_all {lb la lc : List ByteArray} {pa pb : List (Nat × Nat)} (ha : CommT lb la pa) (hb : CommT lb lc pb) : Stands lb la lc (0, 0, 0) (placesP pa pb) :=
  stands_of hb.asc ha.asc (fun _ _ _ _ => Nat.zero_le _)

/-- What merging gives. -/
def mergeL (lb la lc : List ByteArray) (pa pb : List (Nat × Nat)) : Option (List UInt8) := runI lb la lc (0, 0, 0) (placesP pa pb ++ [(lb.length, la.length, lc.length)])
theorem mergeL_spec {lb la lc : List ByteArray} {pa pb : List (Nat × Nat)} (ha : CommT lb la pa) (hb : CommT lb lc pb) : mergeL lb la lc pa pb = runS lb la lc (0, 0, 0) (placesP pa pb) (lb.length, la.length, lc.length) :=
  run_start _ (stands_all ha hb)
theorem placesP_len (pa pb : List (Nat × Nat)) : (placesP pa pb).length ≤ pa.length := List.length_filterMap_le _ _
end Go.Proofs.YtjiafjdjocmodaaGreat

namespace Go.Proofs.YtjiafjdjocmodaaGreat
open Go.RowKit

/-- A slice of pairs that is read. -/
def PAt (w : World) (g o : Nat) (p : Nat × Nat) : Prop := w.cell? ⟨g, o, none⟩ = some (.int .i64 (p.1 : Int)) ∧ w.cell? ⟨g, o + 1, none⟩ = some (.int .i64 (p.2 : Int))
def PS (w : World) (a : Option Addr) (ps : List (Nat × Nat)) : Prop :=
  ps = [] ∨ ∃ b off, a = some ⟨b, off, none⟩ ∧ ∀ i (h : i < ps.length), PAt w b (off + i * 2) ps[i]
theorem PS.below {w w' : World} {a : Option Addr} {ps : List (Nat × Nat)} (h : PS w a ps) (hb : Below w.heap.size w w') : PS w' a ps := by
  rcases h with h | ⟨b, off, ha, hc⟩
  · exact .inl h
  · exact .inr ⟨b, off, ha, fun i hi => ⟨cell_later hb (hc i hi).1, cell_later hb (hc i hi).2⟩⟩
theorem PS.at {w : World} {a : Option Addr} {ps : List (Nat × Nat)} (h : PS w a ps) {k : Nat} (hk : k < ps.length) :
    ∃ b off, a = some ⟨b, off, none⟩ ∧ ∀ i (h : i < ps.length), PAt w b (off + i * 2) ps[i] := by
  rcases h with h | h
  · subst h; simp at hk
  · exact h
theorem pairC_get : ∀ (ps : List (Nat × Nat)) (i : Nat) (h : i < ps.length), (pairC ps)[i * 2]? = some (.int .i64 (ps[i].1 : Int)) ∧ (pairC ps)[i * 2 + 1]? = some (.int .i64 (ps[i].2 : Int))
  | [], i, h => by simp at h
  | p :: ps, 0, h => by simp [pairC]
  | p :: ps, i + 1, h => by
    have ih := pairC_get ps i (by simpa using h)
    have e : pairC (p :: ps) = .int .i64 (p.1 : Int) :: .int .i64 (p.2 : Int) :: pairC ps := by simp [pairC]
    rw [e, show (i + 1) * 2 = i * 2 + 1 + 1 by omega]
    simpa using ih
theorem ps_of_row {w : World} {base : Nat} {ad : Option Addr} {cp : Nat} {ps : List (Nat × Nat)} (h : w.ownsRow base 146 2 (.slice ad ps.length cp) ps.length (pairC ps)) : PS w ad ps := by
  rcases h.2 with ⟨_, h0⟩ | ⟨g, c, cur, hv, _⟩
  · exact .inl (List.eq_nil_of_length_eq_zero h0)
  · cases hv
    refine .inr ⟨g, 0, rfl, fun i hi => ⟨?_, ?_⟩⟩
    · rw [Nat.zero_add, h.cellAt (i * 2) (by omega)]; exact (pairC_get ps i hi).1
    · rw [Nat.zero_add, h.cellAt (i * 2 + 1) (by omega)]; exact (pairC_get ps i hi).2

end Go.Proofs.YtjiafjdjocmodaaGreat

namespace Go.Proofs.YtjiafjdjocmodaaGreat
open Go.RowKit

def LinesPost (ss : List ByteArray) (w : World) (e : Ending) (w' : World) : Prop :=
  ∃ ad cp, e = .returned (.slice ad ss.length cp) ∧ w'.ownsRow w.heap.size 9 1 (.slice ad ss.length cp) ss.length (ss.map .string) ∧ Below w.heap.size w w'

theorem owns_low {w : World} {b b' : Nat} {e : TypeId} {size : Nat} {v : Value} {n : Nat} {xs : List Value} (h : w.ownsRow b e size v n xs) (hb : b' ≤ b) : w.ownsRow b' e size v n xs := by
  refine ⟨h.1, ?_⟩
  rcases h.2 with h' | ⟨g, cap, cur, hv, k1, k2, k3⟩
  · exact .inl h'
  · exact .inr ⟨g, cap, cur, hv, Nat.le_trans hb k1, k2, k3⟩
def linesT (s : ByteArray) : List ByteArray := if s.size ≤ 1500 then linesB s else []
theorem linesT_le (s : ByteArray) : (linesT s).length ≤ 1500 := by
  unfold linesT
  split
  · have := linesB_le s; omega
  · simp
end Go.Proofs.YtjiafjdjocmodaaGreat

namespace Go.Proofs.YtjiafjdjocmodaaGreat
open Go.RowKit

/-- A slice of lines that is read. -/
structure RdL (w : World) (v : Value) (ls : List ByteArray) : Prop where
  at_ : ∃ a cap, v = .slice a ls.length cap ∧ ls.length ≤ cap ∧ SS w a ls
theorem RdL.below {w w' : World} {v : Value} {ls : List ByteArray} (h : RdL w v ls) (hb : Below w.heap.size w w') : RdL w' v ls := by
  obtain ⟨a, cap, e, hc, hp⟩ := h.at_
  exact ⟨a, cap, e, hc, hp.below hb⟩

set_option maxRecDepth 100000 in
/-- A stretch of a slice of lines. -/
theorem mid_at {w : World} {a : Option Addr} {cap : Nat} {ls : List ByteArray} {i j : Nat} (hc : ls.length ≤ cap) (h : SS w a ls) (hij : i ≤ j) (hj : j ≤ ls.length) :
    ∃ v, (∀ w1, (Instr.sliceAt 28 (.slice a ls.length cap) (some (.int .i64 (i : Int))) (some (.int .i64 (j : Int))) none).run Tryz.prog w1 = .ok v w1) ∧ RdL w v ((ls.take j).drop i) := by
  refine ⟨sliced a i j cap 1, fun w1 => ?_, ⟨?_⟩⟩
  · rw [run_sliceAt_slice w1 _ _ _ _ _ Tryz.underlying28, run_slice_lh w1 _ _ _ _ Tryz.underlying28 .i64 .i64 i j (by omega) (by omega) (by omega)]
    have hz : (sizeOf (Tryz.prog.elem 28)).run Tryz.prog w1 = .ok 1 w1 := by kernel_rfl
    rw [hz]
    rfl
  · have hl : ((ls.take j).drop i).length = j - i := by simp; omega
    refine ⟨if cap = i then a else a.map (·.add (i * 1)), cap - i, ?_, by rw [hl]; omega, ?_⟩
    · unfold sliced
      rw [hl]
    · by_cases h0 : j - i = 0
      · left
        exact List.eq_nil_of_length_eq_zero (by omega)
      · obtain ⟨b, o, rfl, hcell⟩ := h.at (k := 0) (by omega)
        right
        refine ⟨b, o + i, ?_, fun k hk => ?_⟩
        · rw [if_neg (by omega)]
          simp [Addr.add]
        · rw [hl] at hk
          have := hcell (i + k) (by omega)
          rw [show o + i + k = o + (i + k) by omega, this]
          simp

theorem Tryz.infoByteM : (Tryz.prog.info? 5).map (fun i => (i.zero, i.size, i.bytes)) = some (some (.int .u8 0), 1, 1) := by kernel_rfl

theorem conv_bk {w : World} {base : Nat} {v : Value} {l : List UInt8} {n : Nat} {xs : List Value} (hn : n = l.length) (hx : xs = bc l) (h : w.ownsRow base 5 1 v n xs) : (convert 22 9 v).run Tryz.prog w = .ok (.string (lnB l)) w := by
  subst hn hx
  rcases h.2 with ⟨hv, h0⟩ | ⟨g, cap, cur, hv, _⟩
  · obtain rfl : l = [] := List.eq_nil_of_length_eq_zero h0
    subst hv
    exact run_convert_bytes_nil (P := Tryz.prog) w 22 5 Tryz.underlying22 Tryz.underlying5 0 0 9 Tryz.underlying9
  · subst hv
    exact run_convert_bytes_back (P := Tryz.prog) w 22 9 5 ⟨g, 0, none⟩ cap l Tryz.underlying22 Tryz.underlying5 Tryz.underlying9 (fun j hj => by
      rw [Go.WideShapes.add_plain, Nat.zero_add, h.cellAt j (by omega)]
      simp [bc, hj])

/-- Lines, one behind the other. -/
def catL (ls : List ByteArray) : List UInt8 := (ls.map (fun l => l.data.toList)).flatten
theorem catL_take {ls : List ByteArray} {k : Nat} (h : k < ls.length) : catL (ls.take (k + 1)) = catL (ls.take k) ++ ls[k].data.toList := by
  unfold catL
  rw [List.take_succ_eq_append_getElem h, List.map_append, List.flatten_append]
  simp only [List.map_cons, List.map_nil, List.flatten_cons, List.flatten_nil, List.append_nil]
theorem catL_le (ls : List ByteArray) (k : Nat) : (catL (ls.take k)).length ≤ (catL ls).length := sub_flat ((List.take_sublist k ls).map _)

set_option maxRecDepth 20000 in
set_option maxHeartbeats 2000000 in
theorem l7Text_any (v : Value) (ls : List ByteArray) (w : World) (h : RdL w v ls) (hl : ls.length ≤ 100000) (hs : (catL ls).length ≤ 1000000) :
    Calls Tryz.prog 53 #[v] w fun e w' => e = .returned (.string (lnB (catL ls))) ∧ Below w.heap.size w w' := by
  obtain ⟨ti, hti, hz0, hz1, hz2⟩ := info_parts Tryz.infoByteM
  obtain ⟨a, cap, rfl, hc, hss⟩ := h.at_
  have hnil : (w.alloc (.cells #[] 5)).ownsRow w.heap.size 5 1 (.slice (some ⟨w.heap.size, 0, none⟩) 0 0) 0 [] := ⟨by simp, .inr ⟨w.heap.size, 0, #[], rfl, Nat.le_refl _, heap_alloc_new w _, Nat.le_refl _, by unfold maxLen; omega, rfl, by simp⟩⟩
  go_enter Tryz.func53, Tryz.ntmps53
  go_wp2
  go_loopw [3, 4] (fun v i wr => ∃ k : Nat, k ≤ ls.length ∧ i = .int .i64 (k : Int) ∧ wr.ownsRow w.heap.size 5 1 v (catL (ls.take k)).length (bc (catL (ls.take k))) ∧ Below w.heap.size w wr) (fun _ i _ => ls.length - (intOf i).toNat)
  case atStart => exact ⟨0, Nat.zero_le _, rfl, by rw [List.take_zero]; exact hnil, (Below.refl _ _).alloc (Nat.le_refl _) _⟩
  case round =>
    obtain ⟨k, hk, rfl, hown, hb⟩ := hrel
    have hbs := hb.size
    by_cases hlt : k < ls.length
    · obtain ⟨b, off, rfl, hcl⟩ := (hss.below hb).at hlt
      have hck := hcl k hlt
      have HT : LKeep (catL (ls.take (k + 1)) = catL (ls.take k) ++ ls[k].data.toList) := ⟨catL_take hlt⟩
      have h1 := catL_le ls k
      have h2 := catL_le ls (k + 1)
      rw [HT.out, List.length_append, ← Lib.size_eq] at h2
      clear hcl
      go_wp2_with (at_builtin; refine Go.Lib.wpList_append_own_string _ rfl _ _ 22 9 rfl w.heap.size 5 ti Tryz.underlying22 Tryz.underlying9 hti hz0 hz1 hz2 _ _ _ rfl hown ls[k] rfl (by unfold maxLen; omega) (by omega) (by omega) ?_; intro v2 w2 hown2 hgrow2 _)
      go_roundw
      case rel =>
        refine ⟨k + 1, by omega, by go_num, ?_, hb.grown hgrow2 hbs (owns_base hown)⟩
        rw [HT.out, List.length_append, bc_append, ← Lib.size_eq]
        exact hown2
      case measure => simp [intOf]; omega
    · obtain rfl : k = ls.length := by omega
      rw [List.take_length] at hown
      have hcv := conv_bk rfl rfl hown
      go_wp2
      go_ret
      exact ⟨rfl, hb⟩
theorem catL_lines (s : ByteArray) : catL (linesB s) = s.data.toList := by
  unfold catL linesB
  rw [List.map_map]
  have : ((fun l : ByteArray => l.data.toList) ∘ lnB) = id := by funext l; exact lnB_list l
  rw [this, List.map_id, linesL_flat]
end Go.Proofs.YtjiafjdjocmodaaGreat

namespace Go.Proofs.YtjiafjdjocmodaaGreat
open Go.RowKit

def withV (o : Option Nat) : Value := match o with
  | none => .int .i64 (-1)
  | some y => .int .i64 (y : Int)

theorem withP_take {ps : List (Nat × Nat)} {n k : Nat} (h : ∀ i (hi : i < ps.length), i < k → ps[i].1 ≠ n) : withP ps n = withP (ps.drop k) n := by
  induction ps generalizing k with
  | nil => simp
  | cons p ps ih =>
    cases k with
    | zero => rfl
    | succ k =>
      have h0 := h 0 (by simp) (by omega)
      simp only [List.getElem_cons_zero] at h0
      rw [withP, if_neg h0, List.drop_succ_cons]
      exact ih (fun i hi hk => by have := h (i + 1) (by simpa using hi) (by omega); simpa using this)

set_option maxRecDepth 20000 in
set_option maxHeartbeats 2000000 in
theorem l7With_any (a : Option Addr) (cap : Nat) (ps : List (Nat × Nat)) (n : Nat) (w : World) (h : PS w a ps) (hl : ps.length ≤ 1500) :
    Calls Tryz.prog 90 #[.slice a ps.length cap, .int .i64 (n : Int)] w fun e w' => e = .returned (withV (withP ps n)) ∧ w = w' := by
  go_enter Tryz.func90, Tryz.ntmps90
  go_wp2
  go_loopw [5] (fun i wr => ∃ k : Nat, k ≤ ps.length ∧ i = .int .i64 (k : Int) ∧ NKeep (∀ i (hi : i < ps.length), i < k → ps[i].1 ≠ n) ∧ w = wr) (fun i _ => ps.length - (intOf i).toNat)
  case atStart => exact ⟨0, Nat.zero_le _, rfl, ⟨fun _ _ h => by omega⟩, rfl⟩
  case round =>
    obtain ⟨k, hk, rfl, HK, rfl⟩ := hrel
    by_cases hlt : k < ps.length
    · obtain ⟨b, off, rfl, hc⟩ := h.at hlt
      obtain ⟨x0, x1⟩ := hc k hlt
      have HW : NKeep (withP ps n = withP (ps.drop k) n) := ⟨withP_take HK.out⟩
      have HD : NKeep (ps.drop k = ps[k] :: ps.drop (k + 1)) := ⟨List.drop_eq_getElem_cons hlt⟩
      obtain ⟨pi, hpi⟩ : ∃ pi, ps[k].1 = pi := ⟨_, rfl⟩
      obtain ⟨pj, hpj⟩ : ∃ pj, ps[k].2 = pj := ⟨_, rfl⟩
      rw [hpi] at x0
      rw [hpj] at x1
      have HP : NKeep (ps[k].1 = pi ∧ ps[k].2 = pj) := ⟨hpi, hpj⟩
      clear hc hpi hpj
      by_cases he : pi = n
      · have heI : (pi : Int) = (n : Int) := by omega
        have HF : NKeep (withP ps n = some pj) := ⟨by rw [HW.out, HD.out, withP, if_pos (by rw [HP.out.1]; exact he), HP.out.2]⟩
        go_wp2
        go_ret
        rw [HF.out]
        exact ⟨rfl, rfl⟩
      · have heB : ((pi : Int) == (n : Int)) = false := by simp; omega
        go_wp2
        go_roundw
        case rel =>
          refine ⟨k + 1, by omega, by go_num, ⟨fun i hi hik => ?_⟩, ?_⟩
          rotate_left
          · first | trivial | rfl
          by_cases e : i = k
          · subst e; rw [HP.out.1]; exact he
          · exact HK.out i hi (by omega)
        case measure => simp [intOf]; omega
    · obtain rfl : k = ps.length := by omega
      have HF : NKeep (withP ps n = none) := ⟨by rw [withP_take HK.out, List.drop_length]; rfl⟩
      go_wp2
      go_ret
      rw [HF.out]
      exact ⟨rfl, rfl⟩

set_option maxHeartbeats 2000000 in
theorem l7Three_any (v1 v2 v3 : Value) (l1 l2 l3 : List ByteArray) (w : World) (h1 : RdL w v1 l1) (h2 : RdL w v2 l2) (h3 : RdL w v3 l3) (k1 : l1.length ≤ 100000) (k2 : l2.length ≤ 100000) (k3 : l3.length ≤ 100000) (s1 : (catL l1).length ≤ 1000000) (s2 : (catL l2).length ≤ 1000000) (s3 : (catL l3).length ≤ 1000000) :
    Calls Tryz.prog 91 #[v1, v2, v3] w fun e w' => e = .returned (match three (catL l1) (catL l2) (catL l3) with
      | none => .tuple #[.string ⟨#[]⟩, .bool false]
      | some s => .tuple #[.string (lnB s), .bool true]) ∧ Below w.heap.size w w' := by
  have c1 := fun W (hb : Below w.heap.size w W) => l7Text_any v1 l1 W (h1.below hb) k1 s1
  have c2 := fun W (hb : Below w.heap.size w W) => l7Text_any v2 l2 W (h2.below hb) k2 s2
  have c3 := fun W (hb : Below w.heap.size w W) => l7Text_any v3 l3 W (h3.below hb) k3 s3
  have hne : ∀ {x y : List UInt8}, ¬ x = y → ((lnB x).toList == (lnB y).toList) = false := fun h => bs_diff (fun e => h (lnB_inj e))
  have hqe : ∀ {x y : List UInt8}, x = y → ((lnB x).toList == (lnB y).toList) = true := fun h => bs_same (by rw [h])
  generalize catL l1 = x at *
  generalize catL l2 = y at *
  generalize catL l3 = z at *
  clear h1 h2 h3 k1 k2 k3 s1 s2 s3
  have run : ∀ (Q : Ending → World → Prop), True := fun _ => trivial
  clear run
  unfold three
  by_cases e1 : y = x
  · have b1 := hqe e1
    rw [if_pos e1]
    clear e1 hne hqe
    go_enter Tryz.func91, Tryz.ntmps91
    go_wp2_with fail
    refine (c1 _ (Below.refl _ _)).mono ?_
    rintro e w1 ⟨rfl, hb1⟩
    go_wp2_with fail
    refine (c2 _ hb1).mono ?_
    rintro e w2 ⟨rfl, hb2⟩
    have hx2 := hb1.trans (hb2.mono hb1.size)
    go_wp2_with fail
    refine (c3 _ hx2).mono ?_
    rintro e w3 ⟨rfl, hb3⟩
    have hx3 := hx2.trans (hb3.mono hx2.size)
    go_wp2
    go_ret2
    exact ⟨rfl, hx3⟩
  · have b1 := hne e1
    rw [if_neg e1]
    by_cases e2 : z = x
    · have b2 := hqe e2
      rw [if_pos (.inl e2)]
      clear e1 e2 hne hqe
      go_enter Tryz.func91, Tryz.ntmps91
      go_wp2_with fail
      refine (c1 _ (Below.refl _ _)).mono ?_
      rintro e w1 ⟨rfl, hb1⟩
      go_wp2_with fail
      refine (c2 _ hb1).mono ?_
      rintro e w2 ⟨rfl, hb2⟩
      have hx2 := hb1.trans (hb2.mono hb1.size)
      go_wp2_with fail
      refine (c3 _ hx2).mono ?_
      rintro e w3 ⟨rfl, hb3⟩
      have hx3 := hx2.trans (hb3.mono hx2.size)
      go_wp2
      go_ret2
      exact ⟨rfl, hx3⟩
    · have b2 := hne e2
      by_cases e3 : z = y
      · have b3 := hqe e3
        rw [if_pos (.inr e3)]
        clear e1 e2 e3 hne hqe
        go_enter Tryz.func91, Tryz.ntmps91
        go_wp2_with fail
        refine (c1 _ (Below.refl _ _)).mono ?_
        rintro e w1 ⟨rfl, hb1⟩
        go_wp2_with fail
        refine (c2 _ hb1).mono ?_
        rintro e w2 ⟨rfl, hb2⟩
        have hx2 := hb1.trans (hb2.mono hb1.size)
        go_wp2_with fail
        refine (c3 _ hx2).mono ?_
        rintro e w3 ⟨rfl, hb3⟩
        have hx3 := hx2.trans (hb3.mono hx2.size)
        go_wp2
        go_ret2
        exact ⟨rfl, hx3⟩
      · have b3 := hne e3
        rw [if_neg (by rintro (h | h) <;> contradiction)]
        clear e1 e2 e3 hne hqe
        go_enter Tryz.func91, Tryz.ntmps91
        go_wp2_with fail
        refine (c1 _ (Below.refl _ _)).mono ?_
        rintro e w1 ⟨rfl, hb1⟩
        go_wp2_with fail
        refine (c2 _ hb1).mono ?_
        rintro e w2 ⟨rfl, hb2⟩
        have hx2 := hb1.trans (hb2.mono hb1.size)
        go_wp2_with fail
        refine (c3 _ hx2).mono ?_
        rintro e w3 ⟨rfl, hb3⟩
        have hx3 := hx2.trans (hb3.mono hx2.size)
        go_wp2
        go_ret2
        exact ⟨rfl, hx3⟩
end Go.Proofs.YtjiafjdjocmodaaGreat

namespace Go.Proofs.YtjiafjdjocmodaaGreat
open Go.RowKit

theorem lines_hit (l : List UInt8) (f i : Nat) (hfi : f ≤ i) (hi : l[i]? = some 10) (hn : ∀ k, f ≤ k → k < i → l[k]? ≠ some 10) :
    linesL (l.drop f) = (l.drop f).take (i + 1 - f) :: linesL (l.drop (i + 1)) := by
  have h := linesL_at (l.drop f) (i - f) (by rw [List.getElem?_drop]; rw [show f + (i - f) = i by omega]; exact hi) (fun k hk => by rw [List.getElem?_drop]; exact hn _ (by omega) (by omega))
  rw [h, List.drop_drop, show f + (i - f + 1) = i + 1 by omega, show i - f + 1 = i + 1 - f by omega]

theorem lines_end (l : List UInt8) (f : Nat) (hf : f < l.length) (hn : ∀ k, f ≤ k → l[k]? ≠ some 10) : linesL (l.drop f) = [l.drop f] :=
  linesL_none _ (fun e => by have := congrArg List.length e; simp at this; omega) (fun k => by rw [List.getElem?_drop]; exact hn _ (by omega))

set_option maxRecDepth 20000 in
set_option maxHeartbeats 4000000 in
theorem specLines_any (s : ByteArray) (w : World) :
    Calls Tryz.prog 52 #[.string s] w fun e w' => LinesPost (linesT s) w e w' := by
  obtain ⟨i0, hi, hz0, hz1, hz2⟩ := info_parts Tryz.infoStr
  have hl : s.data.toList.length = s.size := (Lib.size_eq s).symm
  have hnil : (w.alloc (.cells #[] 9)).ownsRow w.heap.size 9 1 (.slice (some ⟨w.heap.size, 0, none⟩) 0 0) 0 [] := ⟨by simp, .inr ⟨w.heap.size, 0, #[], rfl, Nat.le_refl _, heap_alloc_new w _, Nat.le_refl _, by unfold maxLen; omega, rfl, by simp⟩⟩
  by_cases hbig : s.size ≤ 1500
  · have hsm : ¬ (1500 : Int) < s.size := by omega
    rw [linesT, if_pos hbig]
    go_enter Tryz.func52, Tryz.ntmps52
    go_wp2
    go_loopw [3, 4, 5] (fun v f i wr => ∃ (ss : List (List UInt8)) (f' i' : Nat), f = .int .i64 f' ∧ i = .int .i64 i' ∧ f' ≤ i' ∧ i' ≤ s.size ∧ LKeep (linesL s.data.toList = ss ++ linesL (s.data.toList.drop f') ∧ (∀ k, f' ≤ k → k < i' → s.data.toList[k]? ≠ some 10)) ∧ ss.length ≤ f' ∧ wr.ownsRow w.heap.size 9 1 v (ss.map lnB).length ((ss.map lnB).map .string) ∧ Below w.heap.size w wr) (fun _ _ i _ => s.size - (intOf i).toNat)
    case atStart => exact ⟨[], 0, 0, rfl, rfl, Nat.le_refl _, Nat.zero_le _, ⟨by simp, fun k h1 h2 => by omega⟩, Nat.le_refl _, hnil, (Below.refl _ _).alloc (Nat.le_refl _) _⟩
    case round =>
      obtain ⟨ss, f, i, rfl, rfl, hfi, his, HK, hlen, hown, hB⟩ := hrel
      have hBs := hB.size
      have hm : (ss.map lnB).length ≤ 1500 := by simp; omega
      by_cases hlt : i < s.size
      · have hlt' : (i : Int) < s.size := by omega
        have hget : s.data.toList[i]? = some s[i] := by
          rw [List.getElem?_eq_getElem (by rw [hl]; exact hlt)]
          rfl
        by_cases hc : s[i] = 10
        · have HH : LKeep (s.data.toList[i]? = some 10) := ⟨by rw [hget, hc]⟩
          clear hget
          have c1 : (f : Int) ≤ i + 1 := by omega
          have c2 : (i + 1 : Int) ≤ s.size := by omega
          go_wp2_with (at_builtin; refine wpList_append_own _ rfl _ _ 28 rfl w.heap.size 9 i0 _ 1 16 Tryz.underlying28 hi hz0 hz1 hz2 rfl (by decide) _ _ _ rfl (hown.alloc _) ⟨wr.heap.size, 0, none⟩ 1 1 [.string (s.extract f (i + 1))] rfl rfl (cell_one_new _ _ _) (by simp [Value.oneCell']) (by unfold maxLen; omega) (by omega) (by simp; omega) ?_; intro v4 w4 ho4 hg4 _)
          have hx := lines_hit s.data.toList f i hfi HH.out HK.out.2
          refine ⟨⟨ss ++ [(s.data.toList.drop f).take (i + 1 - f)], i + 1, i + 1, by congr 1, by congr 1, Nat.le_refl _, by omega, ⟨?_, fun k h1 h2 => by omega⟩, by simp; omega, ?_, ?_⟩, by simp only [intOf]; omega⟩
          · rw [HK.out.1, hx]; simp
          · rw [List.map_append, List.length_append, List.map_append]
            rw [extract_lnB] at ho4
            exact ho4
          · exact (hB.alloc hBs _).grown hg4 (by simp; omega) (owns_base hown)
        · have hcb : ((s[i].toNat : Int) == 10) = false := by
            have : s[i].toNat ≠ 10 := fun h => hc (UInt8.toNat_inj.1 h)
            simp; omega
          have HH : LKeep (s.data.toList[i]? ≠ some 10) := ⟨by rw [hget]; simp; exact hc⟩
          clear hget hc
          go_wp2
          refine ⟨⟨ss, f, i + 1, rfl, by congr 1, by omega, by omega, ⟨HK.out.1, fun k h1 h2 => ?_⟩, hlen, hown, hB⟩, by simp only [intOf]; omega⟩
          by_cases hk : k = i
          · rw [hk]; exact HH.out
          · exact HK.out.2 k h1 (by omega)
      · obtain rfl : i = s.size := by omega
        by_cases hf : f < s.size
        · have hf' : (f : Int) < s.size := by omega
          have hx := lines_end s.data.toList f (by omega) (fun k hk => by
            by_cases h : k < s.size
            · exact HK.out.2 k hk h
            · rw [List.getElem?_eq_none (by omega)]; simp)
          have HX : LKeep (linesL (s.data.toList.drop f) = [s.data.toList.drop f]) := ⟨hx⟩
          clear hx
          go_wp2_with (at_builtin; refine wpList_append_own _ rfl _ _ 28 rfl w.heap.size 9 i0 _ 1 16 Tryz.underlying28 hi hz0 hz1 hz2 rfl (by decide) _ _ _ rfl (hown.alloc _) ⟨wr.heap.size, 0, none⟩ 1 1 [.string (s.extract f s.size)] rfl rfl (cell_one_new _ _ _) (by simp [Value.oneCell']) (by unfold maxLen; omega) (by omega) (by simp; omega) ?_; intro v4 w4 ho4 hg4 _)
          have hp : linesB s = ss.map lnB ++ [s.extract f s.size] := by
            rw [linesB, HK.out.1, HX.out, extract_lnB, List.take_of_length_le (by rw [List.length_drop, hl]; exact Nat.le_refl _)]
            simp
          obtain ⟨ad, cp, rfl⟩ := owns_slice ho4
          go_ret
          rw [hp]
          refine ⟨ad, cp, ?_, ?_, (hB.alloc hBs _).grown hg4 (by simp; omega) (owns_base hown)⟩
          · rw [List.length_append]; rfl
          · rw [List.length_append, List.map_append]; exact ho4
        · obtain rfl : f = s.size := by omega
          have hp : linesB s = ss.map lnB := by
            rw [linesB, HK.out.1, List.drop_of_length_le (by omega)]
            simp [linesL]
          have HPL : LKeep (linesB s = ss.map lnB) := ⟨hp⟩
          clear hp
          obtain ⟨ad, cp, rfl⟩ := owns_slice hown
          go_wp2
          go_ret
          rw [HPL.out]
          exact ⟨ad, cp, rfl, hown, hB⟩
  · have hsm : (1500 : Int) < s.size := by omega
    rw [linesT, if_neg hbig]
    go_enter Tryz.func52, Tryz.ntmps52
    go_wp2
    go_ret
    exact ⟨_, _, rfl, hnil, (Below.refl _ _).alloc (Nat.le_refl _) _⟩
end Go.Proofs.YtjiafjdjocmodaaGreat

namespace Go.Proofs.YtjiafjdjocmodaaGreat
open Go.RowKit

/-- A row's cells, those from K on filled. -/
def rowC (f : Nat → Nat) (N K : Nat) : List Value := (List.range N).map fun k => Value.int .i64 ((if K ≤ k then f k else 0 : Nat) : Int)
theorem rowC_len (fl : Nat → Nat) (N K : Nat) : (rowC fl N K).length = N := by simp [rowC]
theorem rowC_get (fl : Nat → Nat) {N K k : Nat} (h : k < N) : (rowC fl N K)[k]? = some (.int .i64 ((if K ≤ k then fl k else 0 : Nat) : Int)) := by simp [rowC, h]
theorem rowC_set (fl : Nat → Nat) (N k : Nat) : (rowC fl N (k + 1)).set k (.int .i64 ((fl k : Nat) : Int)) = rowC fl N k := by
  apply List.ext_getElem?
  intro i
  by_cases hi : i < N
  · rw [List.getElem?_set, rowC_get fl hi, rowC_get fl hi, rowC_len]
    by_cases e : k = i
    · subst e; simp [hi]
    · rw [if_neg e]
      by_cases h2 : k + 1 ≤ i
      · rw [if_pos h2, if_pos (by omega)]
      · rw [if_neg h2, if_neg (by omega)]
  · rw [List.getElem?_eq_none (by simp [rowC]; omega), List.getElem?_eq_none (by simp [rowC]; omega)]
theorem rowC_zero (fl : Nat → Nat) (N K : Nat) (h : ∀ k, K ≤ k → k < N → fl k = 0) : List.replicate N (Value.int .i64 0) = rowC fl N K := by
  apply List.ext_getElem?
  intro i
  by_cases hi : i < N
  · rw [rowC_get fl hi, List.getElem?_replicate, if_pos hi]
    by_cases h2 : K ≤ i
    · rw [if_pos h2, h i h2 hi]; rfl
    · rw [if_neg h2]; rfl
  · rw [List.getElem?_eq_none (by simp; omega), List.getElem?_eq_none (by simp [rowC]; omega)]

def rowS (b n : Nat) : Value := .slice (some ⟨b, 0, none⟩) n n
/-- The rows of a table, those from K on made. -/
def topC (ρ : Nat → Nat) (n N K : Nat) : List Value := (List.range N).map fun k => if K ≤ k then rowS (ρ k) n else .slice none 0 0
theorem topC_len (ρ : Nat → Nat) (n N K : Nat) : (topC ρ n N K).length = N := by simp [topC]
theorem topC_get (ρ : Nat → Nat) {n N K k : Nat} (h : k < N) : (topC ρ n N K)[k]? = some (if K ≤ k then rowS (ρ k) n else .slice none 0 0) := by simp [topC, h]
theorem topC_set (ρ : Nat → Nat) (n N k b : Nat) : (topC ρ n N (k + 1)).set k (rowS b n) = topC (fun i => if i = k then b else ρ i) n N k := by
  apply List.ext_getElem?
  intro i
  by_cases hi : i < N
  · rw [List.getElem?_set, topC_get _ hi, topC_get _ hi, topC_len]
    by_cases e : k = i
    · subst e; simp [hi]
    · rw [if_neg e]
      by_cases h2 : k + 1 ≤ i
      · rw [if_pos h2, if_pos (by omega), if_neg (fun h => e h.symm)]
      · rw [if_neg h2, if_neg (by omega)]
  · rw [List.getElem?_eq_none (by simp [topC]; omega), List.getElem?_eq_none (by simp [topC]; omega)]

/-- The table in memory, rows from q on. -/
structure TabQ (m n : Nat) (E : Nat → Nat → Bool) (g q : Nat) (ρ : Nat → Nat) (w : World) : Prop where
  top : w.ownsRow g 148 1 (rowS g (m + 1)) (m + 1) (topC ρ (n + 1) (m + 1) q)
  rows : ∀ i, q ≤ i → i ≤ m → w.ownsRow g 3 1 (rowS (ρ i) (n + 1)) (n + 1) (rowC (lcs m n E i) (n + 1) 0)
  apart : ∀ i, q ≤ i → i ≤ m → g < ρ i ∧ ρ i < w.heap.size

theorem TabQ.size {m n : Nat} {E : Nat → Nat → Bool} {g q : Nat} {ρ : Nat → Nat} {w : World} (h : TabQ m n E g q ρ w) : g < w.heap.size := own_lt h.top rfl
theorem TabQ.cellT {m n : Nat} {E : Nat → Nat → Bool} {g q : Nat} {ρ : Nat → Nat} {w : World} (h : TabQ m n E g q ρ w) {i : Nat} (h1 : q ≤ i) (h2 : i ≤ m) : w.cell? ⟨g, i, none⟩ = some (rowS (ρ i) (n + 1)) := by
  rw [World.ownsRow.cellAt h.top i (by omega), topC_get _ (by omega), if_pos h1]
theorem TabQ.cellR {m n : Nat} {E : Nat → Nat → Bool} {g q : Nat} {ρ : Nat → Nat} {w : World} (h : TabQ m n E g q ρ w) {i j : Nat} (h1 : q ≤ i) (h2 : i ≤ m) (h3 : j ≤ n) : w.cell? ⟨ρ i, j, none⟩ = some (.int .i64 ((lcs m n E i j : Nat) : Int)) := by
  rw [World.ownsRow.cellAt (h.rows i h1 h2) j (by omega), rowC_get _ (by omega), if_pos (Nat.zero_le _)]
/-- A table that is read. -/
def TabR (m n : Nat) (E : Nat → Nat → Bool) (g : Nat) (ρ : Nat → Nat) (w : World) : Prop :=
  ∀ i, i ≤ m → w.cell? ⟨g, i, none⟩ = some (rowS (ρ i) (n + 1)) ∧ ∀ j, j ≤ n → w.cell? ⟨ρ i, j, none⟩ = some (.int .i64 ((lcs m n E i j : Nat) : Int))
theorem TabR.below {m n : Nat} {E : Nat → Nat → Bool} {g : Nat} {ρ : Nat → Nat} {w w' : World} (h : TabR m n E g ρ w) (hb : Below w.heap.size w w') : TabR m n E g ρ w' :=
  fun i hi => ⟨cell_later hb (h i hi).1, fun j hj => cell_later hb ((h i hi).2 j hj)⟩

def TabPost (m n : Nat) (E : Nat → Nat → Bool) (w : World) (e : Ending) (w' : World) : Prop :=
  ∃ g ρ, w.heap.size ≤ g ∧ (∀ i, i ≤ m → w.heap.size ≤ ρ i) ∧ e = .returned (rowS g (m + 1)) ∧ TabR m n E g ρ w' ∧ Below w.heap.size w w'

theorem Tryz.infoRow : (Tryz.prog.info? 148).map (fun i => (i.zero, i.size, i.bytes)) = some (some (.slice none 0 0), 1, 24) := by kernel_rfl

theorem row_else2 {w w' : World} {base : Nat} {e : TypeId} {size : Nat} {n c b r : Nat} {xs : List Value} (h : w.ownsRow base e size (.slice (some ⟨b, 0, none⟩) n c) n xs) (hg : w.grownBy w' (some r)) (hne : b ≠ r) : w'.ownsRow base e size (.slice (some ⟨b, 0, none⟩) n c) n xs :=
  h.kept hg (.inr (fun e => hne (by simpa [Value.ownBlock] using e)))

set_option maxRecDepth 20000 in
set_option maxHeartbeats 8000000 in
theorem l7Table_any (a1 a2 : Option Addr) (c1 c2 : Nat) (ss tt : List ByteArray) (w : World) (h1 : SS w a1 ss) (h2 : SS w a2 tt) (hm : ss.length ≤ 1500) (hn : tt.length ≤ 1500) :
    Calls Tryz.prog 113 #[.slice a1 ss.length c1, .slice a2 tt.length c2] w fun e w' => TabPost ss.length tt.length (eqL ss tt) w e w' := by
  obtain ⟨ti, hti, hz0, hz1, hz2⟩ := info_parts Tryz.infoInt
  obtain ⟨tj, htj, hy0, hy1, hy2⟩ := info_parts Tryz.infoRow
  obtain ⟨M, hM⟩ : ∃ M, M = ss.length + 1 := ⟨_, rfl⟩
  obtain ⟨C, hC⟩ : ∃ C, C = tt.length + 1 := ⟨_, rfl⟩
  have hMI : (ss.length : Int) + 1 = (M : Int) := by omega
  have hCI : (tt.length : Int) + 1 = (C : Int) := by omega
  have HM : NKeep (M = ss.length + 1) := ⟨hM⟩
  have HC : NKeep (C = tt.length + 1) := ⟨hC⟩
  have hM1 : ss.length < M := by omega
  have hM2 : M ≤ 1501 := by omega
  have hC1 : tt.length < C := by omega
  have hC2 : C ≤ 1501 := by omega
  clear hM hC
  have ez : ∀ N, (madeCells (Value.int .i64 0).cells (N * 1)).toList = List.replicate N (Value.int .i64 0) := fun N => by rw [Nat.mul_one]; exact toList_madeCells_one _ _
  have ey : ∀ N, (madeCells (Value.slice none 0 0).cells (N * 1)).toList = List.replicate N (Value.slice none 0 0) := fun N => by rw [Nat.mul_one]; exact toList_madeCells_one _ _
  go_enter Tryz.func113, Tryz.ntmps113
  have tok1 : True := trivial
  go_wp2_with (first
    | (at_make; have _t := tok1; refine wpList_make_full _ rfl _ _ 156 rfl w.heap.size 148 tj _ 1 Tryz.underlying156 htj hy0 hy1 .i64 .i64 _ _ M rfl rfl rfl rfl (by rw [hy2]; omega) (by unfold maxLen; omega) (Nat.le_refl _) ?_; intro w1 hown1 hgrow1; clear tok1; have hs1 := hgrow1.size)
    | (at_make; refine wpList_make_full _ rfl _ _ 148 rfl w.heap.size 3 ti _ 1 Tryz.underlying148 hti hz0 hz1 .i64 .i64 _ _ C rfl rfl rfl rfl (by rw [hz2]; omega) (by unfold maxLen; omega) hs1 ?_; intro w2 hown2 hgrow2
       have ho1 := hown1.kept hgrow2 (.inr (by simp [Value.ownBlock]))
       have hf1 := ho1.frozenAt ss.length
       obtain ⟨u1, hu1⟩ : ∃ u, w2.cell? ⟨w.heap.size, ss.length, none⟩ = some u := ⟨_, (ho1.cellAt ss.length (by omega)).trans (List.getElem?_eq_getElem (by rw [ho1.1]; omega))⟩))
  have hB2 : Below w.heap.size w w2 := ((Below.refl _ _).grown hgrow1 (Nat.le_refl _) (fun k e => by cases e)).grown hgrow2 hs1 (fun k e => by cases e)
  have hs2 := own_lt hown2 (g := w1.heap.size) rfl
  have hlt1 : w.heap.size < w1.heap.size := own_lt hown1 rfl
  have hQ0 : TabQ ss.length tt.length (eqL ss tt) w.heap.size ss.length (fun _ => w1.heap.size) (w2.setCell ⟨w.heap.size, ss.length, none⟩ (.slice (some ⟨w1.heap.size, 0, none⟩) C C)) := by
    rw [ey] at ho1
    rw [ez] at hown2
    rw [HM.out] at ho1
    rw [HC.out] at hown2 ⊢
    refine ⟨?_, fun i hi1 hi2 => ?_, fun i hi1 hi2 => ⟨hlt1, by simp; exact hs2⟩⟩
    · have h := (ho1.stored ss.length (rowS w1.heap.size (tt.length + 1))).1
      have e : List.replicate (ss.length + 1) (Value.slice none 0 0) = topC (fun _ => w1.heap.size) (tt.length + 1) (ss.length + 1) (ss.length + 1) := by
        apply List.ext_getElem?
        intro k
        by_cases hk : k < ss.length + 1
        · rw [topC_get _ hk, List.getElem?_replicate, if_pos hk, if_neg (by omega)]
        · rw [List.getElem?_eq_none (by simp; omega), List.getElem?_eq_none (by simp [topC]; omega)]
      rw [e, topC_set] at h
      have e2 : (fun i : Nat => if i = ss.length then w1.heap.size else w1.heap.size) = fun _ => w1.heap.size := by funext i; split <;> rfl
      rw [e2] at h
      exact h
    · obtain rfl : i = ss.length := by omega
      rw [rowC_zero (lcs ss.length tt.length (eqL ss tt) ss.length) _ 0 (fun k _ _ => lcs_m _ _ _ _)] at hown2
      exact row_else2 (r := w.heap.size) hown2 ⟨rfl, rfl, rfl, by simp, fun k _ hne => Below.heap_setCell w2 _ _ k fun e => hne (by rw [e])⟩ (by omega)
  have hBW : Below w.heap.size w (w2.setCell ⟨w.heap.size, ss.length, none⟩ (.slice (some ⟨w1.heap.size, 0, none⟩) C C)) := hB2.setCell (p := ⟨w.heap.size, ss.length, none⟩) (Nat.le_refl _) _
  generalize w2.setCell ⟨w.heap.size, ss.length, none⟩ (.slice (some ⟨w1.heap.size, 0, none⟩) C C) = W0 at *
  generalize w1.heap.size = r0 at *
  clear hown1 hgrow1 ho1 hf1 hu1 hs1 hown2 hgrow2 hs2 hB2 hlt1
  go_loopw [6] (fun i wr => ∃ (q : Nat) (ρ : Nat → Nat), q ≤ ss.length ∧ i = .int .i64 ((q : Int) - 1) ∧ NKeep (TabQ ss.length tt.length (eqL ss tt) w.heap.size q ρ wr) ∧ NKeep (Below w.heap.size w wr)) (fun i _ => (intOf i + 1).toNat)
  case atStart => exact ⟨ss.length, _, Nat.le_refl _, rfl, ⟨hQ0⟩, ⟨hBW⟩⟩
  case round =>
    obtain ⟨q, ρ, hq, rfl, HQ, HB⟩ := hrel
    rcases Nat.eq_zero_or_pos q with h0 | h0
    · subst h0
      go_wp2
      go_ret
      refine ⟨w.heap.size, ρ, Nat.le_refl _, fun i hi => by have := (HQ.out.apart i (Nat.zero_le _) hi).1; omega, by rw [HM.out]; rfl, fun i hi => ⟨HQ.out.cellT (Nat.zero_le _) hi, fun j hj => HQ.out.cellR (Nat.zero_le _) hi hj⟩, HB.out⟩
    · obtain ⟨p, rfl⟩ : ∃ p, q = p + 1 := ⟨q - 1, by omega⟩
      rw [show (((p + 1 : Nat) : Int) - 1) = (p : Int) by omega]
      have hgs := HQ.out.size
      have hpM : p < M := by omega
      go_wp2_with (at_make; refine wpList_make_full _ rfl _ _ 148 rfl w.heap.size 3 ti _ 1 Tryz.underlying148 hti hz0 hz1 .i64 .i64 _ _ C rfl rfl rfl rfl (by rw [hz2]; omega) (by unfold maxLen; omega) (by omega) ?_; intro w4 hown4 hgrow4
                   have ht4 := HQ.out.top.kept hgrow4 (.inr (by simp [rowS, Value.ownBlock]))
                   have hf4 : w4.frozen? ⟨w.heap.size, p, none⟩ = false := World.ownsRow.frozenAt ht4 p
                   obtain ⟨u4, hu4⟩ : ∃ u, w4.cell? ⟨w.heap.size, p, none⟩ = some u := ⟨_, (World.ownsRow.cellAt ht4 p (by omega)).trans (List.getElem?_eq_getElem (by rw [ht4.1]; omega))⟩)
      obtain ⟨rb, hrb⟩ : ∃ rb, wr.heap.size = rb := ⟨_, rfl⟩
      rw [hrb] at hown4
      rw [hrb]
      have hrb4 : rb < w4.heap.size := own_lt hown4 rfl
      have hgrb : w.heap.size < rb := by omega
      obtain ⟨W1, hW1⟩ : ∃ W1, w4.setCell ⟨w.heap.size, p, none⟩ (.slice (some ⟨rb, 0, none⟩) C C) = W1 := ⟨_, rfl⟩
      have hgS : w4.grownBy W1 (some w.heap.size) := by rw [← hW1]; exact ⟨rfl, rfl, rfl, by simp, fun k _ hne => Below.heap_setCell w4 _ _ k fun e => hne (by rw [e])⟩
      have hQ1 : TabQ ss.length tt.length (eqL ss tt) w.heap.size (p + 1) ρ w4 := ⟨ht4, fun i h1 h2 => (HQ.out.rows i h1 h2).kept hgrow4 (.inr (by simp [rowS, Value.ownBlock])), fun i h1 h2 => ⟨(HQ.out.apart i h1 h2).1, by have := (HQ.out.apart i h1 h2).2; have := hgrow4.size; omega⟩⟩
      have HTop : NKeep (W1.ownsRow w.heap.size 148 1 (rowS w.heap.size (ss.length + 1)) (ss.length + 1) (topC (fun i => if i = p then rb else ρ i) (tt.length + 1) (ss.length + 1) p)) := ⟨by
        have h := (World.ownsRow.stored ht4 p (rowS rb (tt.length + 1))).1
        rw [topC_set] at h
        rw [← hW1, HC.out]
        exact h⟩
      have HRows : NKeep (∀ i, p + 1 ≤ i → i ≤ ss.length → W1.ownsRow w.heap.size 3 1 (rowS (ρ i) (tt.length + 1)) (tt.length + 1) (rowC (lcs ss.length tt.length (eqL ss tt) i) (tt.length + 1) 0) ∧ w.heap.size < ρ i ∧ ρ i < rb) := ⟨fun i h1 h2 => by
        have ha := HQ.out.apart i h1 h2
        exact ⟨row_else2 (hQ1.rows i h1 h2) hgS (by omega), ha.1, by omega⟩⟩
      have HNew : NKeep (W1.ownsRow w.heap.size 3 1 (rowS rb (tt.length + 1)) (tt.length + 1) (rowC (lcs ss.length tt.length (eqL ss tt) p) (tt.length + 1) tt.length)) := ⟨by
        have h := hown4
        rw [ez, HC.out, rowC_zero (lcs ss.length tt.length (eqL ss tt) p) _ tt.length (fun k k1 k2 => by rw [show k = tt.length by omega]; exact lcs_n _ _ _ _)] at h
        exact row_else2 h hgS (by omega)⟩
      have HB1 : NKeep (Below w.heap.size w W1) := ⟨by rw [← hW1]; exact (HB.out.grown hgrow4 (by omega) (fun k e => by cases e)).setCell (p := ⟨w.heap.size, p, none⟩) (Nat.le_refl _) _⟩
      have hW1s : rb < W1.heap.size := by rw [← hW1]; simpa using hrb4
      rw [hW1]
      clear hown4 hgrow4 ht4 hf4 hu4 hQ1 HQ HB hW1 hgS hrb4 hgs
      go_loopw [7] (fun j wr => ∃ r : Nat, r ≤ tt.length ∧ j = .int .i64 ((r : Int) - 1) ∧ NKeep (W1.grownBy wr (some rb)) ∧ NKeep (wr.ownsRow w.heap.size 3 1 (rowS rb (tt.length + 1)) (tt.length + 1) (rowC (lcs ss.length tt.length (eqL ss tt) p) (tt.length + 1) r))) (fun j _ => (intOf j + 1).toNat)
      case atStart => exact ⟨tt.length, Nat.le_refl _, rfl, ⟨⟨rfl, rfl, rfl, Nat.le_refl _, fun _ _ _ => rfl⟩⟩, HNew⟩
      case round =>
        obtain ⟨r, hr, rfl, HG, HR⟩ := hrel
        rcases Nat.eq_zero_or_pos r with h0 | h0
        · subst h0
          have HQ2 : NKeep (TabQ ss.length tt.length (eqL ss tt) w.heap.size p (fun i => if i = p then rb else ρ i) wr) := ⟨by
            refine ⟨row_else2 HTop.out HG.out (by omega), fun i h1 h2 => ?_, fun i h1 h2 => ?_⟩
            · by_cases e : i = p
              · subst e; simp only [if_true]; exact HR.out
              · rw [if_neg e]
                obtain ⟨k1, k2, k3⟩ := HRows.out i (by omega) h2
                exact row_else2 k1 HG.out (by omega)
            · have := HG.out.size
              by_cases e : i = p
              · subst e; simp only [if_true]; omega
              · rw [if_neg e]
                obtain ⟨k1, k2, k3⟩ := HRows.out i (by omega) h2
                omega⟩
          have HB2 : NKeep (Below w.heap.size w wr) := ⟨HB1.out.grown HG.out HB1.out.size (fun k e => by cases e; omega)⟩
          go_wp2
          go_roundw
          case rel => exact ⟨p, _, by omega, by go_num, HQ2, HB2⟩
          case measure => simp [intOf]
        · obtain ⟨s, rfl⟩ : ∃ s, r = s + 1 := ⟨r - 1, by omega⟩
          rw [show (((s + 1 : Nat) : Int) - 1) = (s : Int) by omega]
          have hbl : Below w.heap.size w wr := HB1.out.grown HG.out HB1.out.size (fun k e => by cases e; omega)
          obtain ⟨b1, o1, rfl, d1⟩ := h1.at (k := p) (by omega)
          obtain ⟨b2, o2, rfl, d2⟩ := h2.at (k := s) (by omega)
          have y1 := cell_later hbl (d1 p (by omega))
          have y2 := cell_later hbl (d2 s (by omega))
          obtain ⟨k1, k2, k3⟩ := HRows.out (p + 1) (Nat.le_refl _) (by omega)
          have hR1 := row_else2 k1 HG.out (by omega)
          have hT1 := row_else2 HTop.out HG.out (by omega)
          obtain ⟨r1, hr1⟩ : ∃ r1, ρ (p + 1) = r1 := ⟨_, rfl⟩
          have g1 : wr.cell? ⟨w.heap.size, p + 1, none⟩ = some (.slice (some ⟨r1, 0, none⟩) C C) := by
            rw [World.ownsRow.cellAt hT1 (p + 1) (by omega), topC_get _ (by omega), if_pos (by omega), if_neg (by omega), hr1, HC.out]; rfl
          have g2 : wr.cell? ⟨w.heap.size, p, none⟩ = some (.slice (some ⟨rb, 0, none⟩) C C) := by
            rw [World.ownsRow.cellAt hT1 p (by omega), topC_get _ (by omega), if_pos (by omega), if_pos rfl, HC.out]; rfl
          have x1 : wr.cell? ⟨r1, s, none⟩ = some (.int .i64 ((lcs ss.length tt.length (eqL ss tt) (p + 1) s : Nat) : Int)) := by
            rw [← hr1, World.ownsRow.cellAt hR1 s (by omega), rowC_get _ (by omega), if_pos (Nat.zero_le _)]
          have x2 : wr.cell? ⟨r1, s + 1, none⟩ = some (.int .i64 ((lcs ss.length tt.length (eqL ss tt) (p + 1) (s + 1) : Nat) : Int)) := by
            rw [← hr1, World.ownsRow.cellAt hR1 (s + 1) (by omega), rowC_get _ (by omega), if_pos (Nat.zero_le _)]
          have x3 : wr.cell? ⟨rb, s + 1, none⟩ = some (.int .i64 ((lcs ss.length tt.length (eqL ss tt) p (s + 1) : Nat) : Int)) := by
            rw [World.ownsRow.cellAt HR.out (s + 1) (by omega), rowC_get _ (by omega), if_pos (Nat.le_refl _)]
          have f0 : wr.frozen? ⟨rb, s, none⟩ = false := World.ownsRow.frozenAt HR.out s
          obtain ⟨u0, t0⟩ : ∃ u, wr.cell? ⟨rb, s, none⟩ = some u := ⟨_, (World.ownsRow.cellAt HR.out s (by omega)).trans (rowC_get _ (by omega))⟩
          have hsC : (s : Int) < C := by omega
          have hsC1 : (s : Int) + 1 < C := by omega
          have hpM1 : (p : Int) + 1 < M := by omega
          have HST : NKeep (∀ v, v = Value.int .i64 ((lcs ss.length tt.length (eqL ss tt) p s : Nat) : Int) → (wr.setCell ⟨rb, s, none⟩ v).ownsRow w.heap.size 3 1 (rowS rb (tt.length + 1)) (tt.length + 1) (rowC (lcs ss.length tt.length (eqL ss tt) p) (tt.length + 1) s)) := ⟨fun v hv => by
            have := (World.ownsRow.stored HR.out s v).1
            rw [hv, rowC_set] at this
            rw [hv]
            exact this⟩
          have HGs : NKeep (∀ v, W1.grownBy (wr.setCell ⟨rb, s, none⟩ v) (some rb)) := ⟨fun v => grown_then HG.out (⟨rfl, rfl, rfl, by simp, fun k _ hne => Below.heap_setCell wr _ v k fun e => hne (by rw [e])⟩ : wr.grownBy (wr.setCell ⟨rb, s, none⟩ v) (some rb)) (fun g e => .inl e)⟩
          have HE := eqL_iff (ss := ss) (tt := tt) (i := p) (j := s) (by omega) (by omega)
          have HLS := lcs_step (eqL ss tt) (show p < ss.length by omega) (show s < tt.length by omega)
          have HLM := lcs_max (eqL ss tt) (show p < ss.length by omega) (show s < tt.length by omega)
          have l1 := lcs_le1 ss.length tt.length (eqL ss tt) (p + 1) (s + 1)
          have l2 := lcs_le1 ss.length tt.length (eqL ss tt) (p + 1) s
          have l3 := lcs_le1 ss.length tt.length (eqL ss tt) p (s + 1)
          have hdif : ss[p] ≠ tt[s] → (ss[p].toList == tt[s].toList) = false := bs_diff
          have hsam : ss[p] = tt[s] → (ss[p].toList == tt[s].toList) = true := bs_same
          clear hR1 hT1 k1 k2 k3 d1 d2 h1 h2
          generalize lcs ss.length tt.length (eqL ss tt) (p + 1) s = X at *
          generalize lcs ss.length tt.length (eqL ss tt) (p + 1) (s + 1) = Z at *
          generalize lcs ss.length tt.length (eqL ss tt) p (s + 1) = Y at *
          obtain ⟨T, hT⟩ : ∃ T, T = lcs ss.length tt.length (eqL ss tt) p s := ⟨_, rfl⟩
          have HT : NKeep (T = lcs ss.length tt.length (eqL ss tt) p s) := ⟨hT⟩
          rw [← hT] at HLS HLM
          clear hT
          by_cases he : eqL ss tt p s = true
          · have hbe := hsam (HE.1 he)
            rw [if_pos he] at HLS
            obtain ⟨m1, m2, m3⟩ := HLM he
            clear HE he HLM hdif hsam
            by_cases hxy : X < Y
            · by_cases hz : Y < Z + 1
              · go_wp2
                go_region
                all_goals (try go_wp2)
                go_roundw
                case rel => exact ⟨s, by omega, by go_num, ⟨(HGs.out _).draw⟩, ⟨HST.out _ (by rw [← HT.out, m1]; rfl)⟩⟩
                case measure => simp [intOf]
              · go_wp2
                go_region
                all_goals (try go_wp2)
                go_roundw
                case rel => exact ⟨s, by omega, by go_num, ⟨(HGs.out _).draw⟩, ⟨HST.out _ (by rw [← HT.out]; congr 1; omega)⟩⟩
                case measure => simp [intOf]
            · by_cases hz : X < Z + 1
              · go_wp2
                go_region
                all_goals (try go_wp2)
                go_roundw
                case rel => exact ⟨s, by omega, by go_num, ⟨(HGs.out _).draw⟩, ⟨HST.out _ (by rw [← HT.out]; rw [m1]; rfl)⟩⟩
                case measure => simp [intOf]
              · go_wp2
                go_region
                all_goals (try go_wp2)
                go_roundw
                case rel => exact ⟨s, by omega, by go_num, ⟨(HGs.out _).draw⟩, ⟨HST.out _ (by rw [← HT.out]; congr 1; omega)⟩⟩
                case measure => simp [intOf]
          · have hbe := hdif (fun h => he (HE.2 h))
            rw [if_neg he] at HLS
            clear HE he HLM hdif hsam
            by_cases hxy : X < Y
            · go_wp2
              go_region
              all_goals (try go_wp2)
              go_roundw
              case rel => exact ⟨s, by omega, by go_num, ⟨(HGs.out _).draw⟩, ⟨HST.out _ (by rw [← HT.out]; congr 1; omega)⟩⟩
              case measure => simp [intOf]
            · go_wp2
              go_region
              all_goals (try go_wp2)
              go_roundw
              case rel => exact ⟨s, by omega, by go_num, ⟨(HGs.out _).draw⟩, ⟨HST.out _ (by rw [← HT.out]; congr 1; omega)⟩⟩
              case measure => simp [intOf]
end Go.Proofs.YtjiafjdjocmodaaGreat

namespace Go.Proofs.YtjiafjdjocmodaaGreat
open Go.RowKit

theorem heap_alloc2 (w : World) (o o' : Obj) : ((w.alloc o).alloc o').heap[w.heap.size + 1]? = some o' := by
  have := heap_alloc_new (w.alloc o) o'
  rwa [World.size_alloc] at this

theorem fits_not {m n : Nat} {E : Nat → Nat → Bool} {i j x y k l : Nat} (h : Fst m n E i j x y) (h1 : i ≤ k) (h2 : k ≤ x) (h3 : j ≤ l) (h4 : l < n) (h5 : k = x → l ≤ y) (hne : ¬ (k = x ∧ l = y)) : ¬ Fits m n E (lcs m n E i j) k l := by
  rcases Nat.lt_or_ge k x with h6 | h6
  · exact h.row k l h1 h6 h3 h4
  · obtain rfl : k = x := by omega
    exact h.col l h3 (by have := h5 rfl; omega)

set_option maxRecDepth 20000 in
set_option maxHeartbeats 8000000 in
theorem l7First_any (a1 a2 : Option Addr) (c1 c2 : Nat) (ss tt : List ByteArray) (g : Nat) (ρ : Nat → Nat) (i j x y : Nat) (w : World) (h1 : SS w a1 ss) (h2 : SS w a2 tt) (hm : ss.length ≤ 1500) (hn : tt.length ≤ 1500)
    (hT : TabR ss.length tt.length (eqL ss tt) g ρ w) (hf : Fst ss.length tt.length (eqL ss tt) i j x y) :
    Calls Tryz.prog 114 #[.slice a1 ss.length c1, .slice a2 tt.length c2, rowS g (ss.length + 1), .int .i64 (i : Int), .int .i64 (j : Int)] w fun e w' => e = .returned (.agg #[.int .i64 (x : Int), .int .i64 (y : Int)]) ∧ Below w.heap.size w w' := by
  have hxm := hf.xm
  have hyn := hf.yn
  have hix := hf.ix
  have hjy := hf.jy
  have HF : NKeep (Fst ss.length tt.length (eqL ss tt) i j x y) := ⟨hf⟩
  obtain ⟨M, hM⟩ : ∃ M, M = ss.length + 1 := ⟨_, rfl⟩
  obtain ⟨C, hC⟩ : ∃ C, C = tt.length + 1 := ⟨_, rfl⟩
  have hM1 : ss.length < M := by omega
  have hM2 : M ≤ 1501 := by omega
  have hC1 : tt.length < C := by omega
  have hC2 : C ≤ 1501 := by omega
  rw [← hM]
  have HC : NKeep (C = tt.length + 1) := ⟨hC⟩
  clear hM hC hf
  unfold rowS
  go_enter Tryz.func114, Tryz.ntmps114
  go_wp2
  obtain ⟨W0, hW0⟩ : ∃ W0, w.alloc (.cells #[.int .i64 0, .int .i64 0] 146) = W0 := ⟨_, rfl⟩
  have hR0 : W0.heap[w.heap.size]? = some (.cells #[.int .i64 0, .int .i64 0] 146) := by rw [← hW0]; exact heap_alloc_new w _
  have hB0 : Below w.heap.size w W0 := by rw [← hW0]; exact (Below.refl _ _).alloc (Nat.le_refl _) _
  have hs0 : w.heap.size < W0.heap.size := (Array.getElem?_eq_some_iff.1 hR0).1
  rw [hW0]
  clear hW0
  go_loopg [11] (ss.length - i) (fun gk s11 wr => ∃ k : Nat, k + gk = ss.length ∧ s11 = .int .i64 (k : Int) ∧ i ≤ k ∧ k ≤ x ∧ Below W0.heap.size W0 wr)
  case atStart => exact ⟨i, by omega, rfl, Nat.le_refl _, hix, Below.refl _ _⟩
  case round =>
    obtain ⟨k, hkg, rfl, hik, hkx, hBk⟩ := hrel
    have hk' : (k : Int) < ss.length := by omega
    cases gk with
    | zero => omega
    | succ gq =>
      go_wp2
      go_loopg [12] (tt.length - j) (fun g2 s12 wr => ∃ l : Nat, l + g2 = tt.length ∧ s12 = .int .i64 (l : Int) ∧ j ≤ l ∧ (k = x → l ≤ y) ∧ Below W0.heap.size W0 wr)
      case atStart => exact ⟨j, by omega, rfl, Nat.le_refl _, fun _ => hjy, hBk⟩
      case round =>
        obtain ⟨l, hlg, rfl, hjl, hly, hBl⟩ := hrel
        cases gk with
        | zero =>
          obtain rfl : l = tt.length := by omega
          have hkx2 : k < x := by
            rcases Nat.lt_or_ge k x with h | h
            · exact h
            · have := hly (by omega); omega
          go_wp2
          go_roundg gq
          case measure => omega
          case rel => exact ⟨k + 1, by omega, by go_num, by omega, by omega, hBl⟩
        | succ g2 =>
          have hl' : (l : Int) < tt.length := by omega
          have hbl : Below w.heap.size w wr := hB0.trans (hBl.mono (by omega))
          obtain ⟨b1, o1, rfl, d1⟩ := h1.at (k := k) (by omega)
          obtain ⟨b2, o2, rfl, d2⟩ := h2.at (k := l) (by omega)
          have y1 := cell_later hbl (d1 k (by omega))
          have y2 := cell_later hbl (d2 l (by omega))
          have hTr := hT.below hbl
          obtain ⟨r1, hr1⟩ : ∃ r1, ρ (k + 1) = r1 := ⟨_, rfl⟩
          obtain ⟨r2, hr2⟩ : ∃ r2, ρ i = r2 := ⟨_, rfl⟩
          have g1 : wr.cell? ⟨g, k + 1, none⟩ = some (.slice (some ⟨r1, 0, none⟩) C C) := by rw [(hTr (k + 1) (by omega)).1, HC.out, hr1]; rfl
          have g2' : wr.cell? ⟨g, i, none⟩ = some (.slice (some ⟨r2, 0, none⟩) C C) := by rw [(hTr i (by omega)).1, HC.out, hr2]; rfl
          have x1 : wr.cell? ⟨r1, l + 1, none⟩ = some (.int .i64 ((lcs ss.length tt.length (eqL ss tt) (k + 1) (l + 1) : Nat) : Int)) := by rw [← hr1]; exact (hTr (k + 1) (by omega)).2 (l + 1) (by omega)
          have x2 : wr.cell? ⟨r2, j, none⟩ = some (.int .i64 ((lcs ss.length tt.length (eqL ss tt) i j : Nat) : Int)) := by rw [← hr2]; exact (hTr i (by omega)).2 j (by omega)
          have hkM : (k : Int) + 1 < M := by omega
          have hiM : (i : Int) < M := by omega
          have hlC : (l : Int) + 1 < C := by omega
          have hjC : (j : Int) < C := by omega
          have HE := eqL_iff (ss := ss) (tt := tt) (i := k) (j := l) (by omega) (by omega)
          have lz := lcs_le1 ss.length tt.length (eqL ss tt) (k + 1) (l + 1)
          have hdif : ss[k] ≠ tt[l] → (ss[k].toList == tt[l].toList) = false := bs_diff
          have hsam : ss[k] = tt[l] → (ss[k].toList == tt[l].toList) = true := bs_same
          have HN := fits_not HF.out hik hkx hjl (by omega) hly
          have HY := HF.out.fits
          unfold Fits at HN HY
          have HZ : NKeep (k = x ∧ l = y → lcs ss.length tt.length (eqL ss tt) (k + 1) (l + 1) = lcs ss.length tt.length (eqL ss tt) (x + 1) (y + 1)) := ⟨fun h => by rw [h.1, h.2]⟩
          generalize lcs ss.length tt.length (eqL ss tt) (k + 1) (l + 1) = Z at *
          generalize lcs ss.length tt.length (eqL ss tt) i j = T at *
          clear hTr d1 d2 hr1 hr2
          by_cases hxy : k = x ∧ l = y
          · have hz := HZ.out hxy
            rw [← hz] at HY
            obtain ⟨rfl, rfl⟩ := hxy
            have hbe := hsam (HE.1 HY.1)
            have hzt : (Z : Int) + 1 = (T : Int) := by have := HY.2; omega
            have hRr := (hBl.block w.heap.size hs0).trans hR0
            have q0 : wr.cell? ⟨w.heap.size, 0, none⟩ = some (.int .i64 0) := by simp [World.cell?, hRr]
            have q1 : wr.cell? ⟨w.heap.size, 1, none⟩ = some (.int .i64 0) := by simp [World.cell?, hRr]
            have f0 : wr.frozen? ⟨w.heap.size, 0, none⟩ = false := by simp [World.frozen?, hRr]
            have f1 : wr.frozen? ⟨w.heap.size, 1, none⟩ = false := by simp [World.frozen?, hRr]
            clear HN HY HZ HE hdif hsam hz
            go_wp2
            go_region
            all_goals (try go_wp2)
            refine bodyPost_ret (v := .agg #[.int .i64 (k : Int), .int .i64 (l : Int)]) ?_ rfl ⟨rfl, ?_⟩
            · have z0 : (wr.setCell ⟨w.heap.size, 0, none⟩ (.int .i64 (k : Int))).cell? ⟨w.heap.size, 0, none⟩ = some (.int .i64 (k : Int)) := World.cell?_setCell_same' _ _ _ (by rw [q0]; rfl)
              obtain ⟨v1, hv1⟩ := cell?_setCell_some (p := ⟨w.heap.size, 0, none⟩) (x := .int .i64 (k : Int)) q1
              have z1 : ((wr.setCell ⟨w.heap.size, 0, none⟩ (.int .i64 (k : Int))).setCell ⟨w.heap.size, 1, none⟩ (.int .i64 (l : Int))).cell? ⟨w.heap.size, 1, none⟩ = some (.int .i64 (l : Int)) := World.cell?_setCell_same' _ _ _ (by rw [hv1]; rfl)
              simp [results, Tryz.f114, go_sem, z0, z1, Result.andThen]
            · exact ((hbl.setCell (p := ⟨w.heap.size, 0, none⟩) (Nat.le_refl _) _).setCell (p := ⟨w.heap.size, 1, none⟩) (Nat.le_refl _) _).drew
          · have hnf := HN hxy
            by_cases he : eqL ss tt k l = true
            · have hbe := hsam (HE.1 he)
              have hzt : (((Z : Int) + 1) == (T : Int)) = false := by
                have : ¬ Z + 1 = T := fun h => hnf ⟨he, h⟩
                simp
                omega
              clear HN HY HZ HE hdif hsam hnf he
              go_wp2
              go_region
              all_goals (try go_wp2)
              go_roundg g2
              case measure => omega
              case rel => exact ⟨l + 1, by omega, by go_num, by omega, fun h => by have := hly h; omega, hBl.drew⟩
            · have hbe := hdif (fun h => he (HE.2 h))
              clear HN HY HZ HE hdif hsam hnf he
              go_wp2
              go_region
              all_goals (try go_wp2)
              go_roundg g2
              case measure => omega
              case rel => exact ⟨l + 1, by omega, by go_num, by omega, fun h => by have := hly h; omega, hBl.drew⟩

set_option maxRecDepth 20000 in
set_option maxHeartbeats 4000000 in
theorem specCommon_any (a1 a2 : Option Addr) (c1 c2 : Nat) (ss tt : List ByteArray) (ps : List (Nat × Nat)) (w : World) (h1 : SS w a1 ss) (h2 : SS w a2 tt) (hp : CommT ss tt ps) :
    Calls Tryz.prog 89 #[.slice a1 ss.length c1, .slice a2 tt.length c2] w fun e w' => PairsPost ps w e w' := by
  have hnil : ∀ W : World, (W.alloc (.cells #[] 146)).ownsRow W.heap.size 146 2 (.slice (some ⟨W.heap.size, 0, none⟩) 0 0) 0 [] := fun W => ⟨by simp, .inr ⟨W.heap.size, 0, #[], rfl, Nat.le_refl _, heap_alloc_new W _, Nat.le_refl _, by unfold maxLen; omega, rfl, by simp⟩⟩
  have hb0 : Below w.heap.size w (w.alloc (.cells #[] 146)) := (Below.refl _ _).alloc (Nat.le_refl _) _
  rcases hp with ⟨hm, hn, hc⟩ | ⟨hbig, rfl⟩
  · have e1 : decide ((1500 : Int) < ss.length) = false := by simp; omega
    have e2 : decide ((1500 : Int) < tt.length) = false := by simp; omega
    obtain ⟨ti, hti, hz0, hz1, hz2⟩ := info_parts Tryz.infoPair
    go_enter Tryz.func89, Tryz.ntmps89
    go_wp2_with fail
    refine (l7Table_any a1 a2 c1 c2 ss tt _ (h1.below hb0) (h2.below hb0) hm hn).mono ?_
    rintro e w1 ⟨g, ρ, hg, hρ, rfl, hT, hb1⟩
    rw [World.size_alloc] at hg
    have hρ' : ∀ i, i ≤ ss.length → w.heap.size + 1 ≤ ρ i := fun i hi => by have := hρ i hi; simpa using this
    clear hρ
    have hbx1 := hb0.trans (hb1.mono hb0.size)
    have hr1 := owns_below (hnil w) hb1
    unfold rowS
    obtain ⟨M, hM⟩ : ∃ M, M = ss.length + 1 := ⟨_, rfl⟩
    rw [← hM]
    have HM : NKeep (M = ss.length + 1) := ⟨hM⟩
    have hM1 : ss.length < M := by omega
    clear hM
    obtain ⟨C, hC⟩ : ∃ C, C = tt.length + 1 := ⟨_, rfl⟩
    have HC : NKeep (C = tt.length + 1) := ⟨hC⟩
    have hC1 : tt.length < C := by omega
    clear hC
    go_wp2
    go_loopg [5, 7, 8] ps.length (fun gk v i j wr => ∃ (i' j' : Nat) (done rest : List (Nat × Nat)), i = .int .i64 (i' : Int) ∧ j = .int .i64 (j' : Int) ∧ NKeep (Comm ss.length tt.length (eqL ss tt) i' j' rest ∧ ps = done ++ rest ∧ rest.length = gk) ∧ done.length ≤ i' ∧
      wr.ownsRow w.heap.size 146 2 v done.length (pairC done) ∧ (∀ k, v.ownBlock = some k → k = w.heap.size ∨ w1.heap.size ≤ k) ∧ NKeep (∀ k, w.heap.size < k → k < w1.heap.size → wr.heap[k]? = w1.heap[k]?) ∧ w1.heap.size ≤ wr.heap.size ∧ Below w.heap.size w wr)
    case atStart => exact ⟨0, 0, [], ps, rfl, rfl, ⟨hc, by simp, rfl⟩, Nat.le_refl _, hr1, fun k hk => .inl (by simpa [Value.ownBlock] using hk.symm), ⟨fun _ _ _ => rfl⟩, Nat.le_refl _, hbx1⟩
    case round =>
      obtain ⟨i, j, done, rest, rfl, rfl, HC1, hdl, hrow, hvb, HW1, hsz1, hB⟩ := hrel
      have hTr : TabR ss.length tt.length (eqL ss tt) g ρ wr := fun i hi => by
        have hg1 : g < w1.heap.size := blk_lt (hT i hi).1
        refine ⟨(World.cell?_of_block (HW1.out g (by omega) hg1)).trans (hT i hi).1, fun j hj => ?_⟩
        have hr1 : ρ i < w1.heap.size := blk_lt ((hT i hi).2 j hj)
        exact (World.cell?_of_block (HW1.out (ρ i) (by have := hρ' i hi; omega) hr1)).trans ((hT i hi).2 j hj)
      obtain ⟨him, hjn⟩ := HC1.out.1.im
      obtain ⟨r1, hr1⟩ : ∃ r1, ρ i = r1 := ⟨_, rfl⟩
      have g1 : wr.cell? ⟨g, i, none⟩ = some (.slice (some ⟨r1, 0, none⟩) C C) := by rw [(hTr i him).1, HC.out, hr1]; rfl
      have x1 : wr.cell? ⟨r1, j, none⟩ = some (.int .i64 ((lcs ss.length tt.length (eqL ss tt) i j : Nat) : Int)) := by rw [← hr1]; exact (hTr i him).2 j hjn
      have hiM : (i : Int) < M := by omega
      have hjC : (j : Int) < C := by omega
      clear hr1
      by_cases h0 : lcs ss.length tt.length (eqL ss tt) i j = 0
      · have HP : NKeep (ps = done) := ⟨by rw [HC1.out.2.1, HC1.out.1.zero h0]; simp⟩
        obtain ⟨ad, cp, rfl⟩ := owns_slice hrow
        rw [h0] at x1
        go_wp2
        go_ret
        rw [HP.out]
        exact ⟨ad, cp, rfl, hrow, hB⟩
      · obtain ⟨x, y, r, hrest, hf, hcr⟩ := HC1.out.1.pos (by omega)
        have hxm := hf.xm
        have hyn := hf.yn
        have hix := hf.ix
        have hl7 := l7First_any a1 a2 c1 c2 ss tt g ρ i j x y wr (h1.below hB) (h2.below hB) hm hn hTr hf
        unfold rowS at hl7
        rw [← HM.out] at hl7
        have HR : NKeep (Comm ss.length tt.length (eqL ss tt) (x + 1) (y + 1) r ∧ ps = (done ++ [(x, y)]) ++ r ∧ rest.length = r.length + 1) := ⟨hcr, by rw [HC1.out.2.1, hrest]; simp, by rw [hrest]; rfl⟩
        have hpos : 0 < ((lcs ss.length tt.length (eqL ss tt) i j : Nat) : Int) := by omega
        generalize lcs ss.length tt.length (eqL ss tt) i j = T at *
        clear hrest hf hcr h0
        go_wp2_with (first | (go_at_call 114; refine hl7.mono ?_; rintro e w2 ⟨rfl, hb2⟩; have hrow2 := owns_below hrow hb2; have hBs := hB.size; have hb2s := hb2.size)
                           | (at_builtin; refine wpList_append_lies _ rfl _ _ 109 rfl w.heap.size 146 ti _ 2 16 Tryz.underlying109 hti hz0 hz1 hz2 rfl (by decide) _ _ _ rfl ((hrow2.alloc _).alloc _) ⟨w2.heap.size + 1, 0, none⟩ 1 1 [.int .i64 (x : Int), .int .i64 (y : Int)] rfl rfl (fun j' u h => World.news_of_block (heap_alloc2 w2 _ _) j' u h) (by simp [Value.oneCell']) (by omega) (by unfold maxLen; omega) (by omega) (by simp; omega) (w2.heap.size + 1 + 1) (by simp) ?_; intro g4 cap4 w4 ho4 hg4 hl4 hlt4
                              have hb4 : w4.heap[w2.heap.size]? = some (.cells #[.int .i64 (x : Int), .int .i64 (y : Int)] 146) := (hg4.block w2.heap.size (by simp; omega) (fun e => by have := own_lt hrow2 e.symm; omega)).trans ((Below.heap_alloc _ _ _ (by simp)).trans (heap_alloc_new w2 _))
                              have c40 : w4.cell? ⟨w2.heap.size, 0, none⟩ = some (.int .i64 (x : Int)) := by simp [World.cell?, hb4]
                              have c41 : w4.cell? ⟨w2.heap.size, 1, none⟩ = some (.int .i64 (y : Int)) := by simp [World.cell?, hb4]))
        go_roundg r.length
        case measure => have := HR.out.2.2; have := HC1.out.2.2; omega
        case rel =>
          have hbs := owns_base hrow2
          have hBx : Below w.heap.size w w4 := (((hB.trans (hb2.mono hBs)).alloc (by omega) _).alloc (by simp; omega) _).grown hg4 (by simp; omega) hbs
          refine ⟨x + 1, y + 1, done ++ [(x, y)], r, by go_num, by go_num, ⟨HR.out.1, HR.out.2.1, rfl⟩, by simp; omega, ?_, fun k hk => ?_, ⟨fun k k1 k2 => ?_⟩, ?_, hBx⟩
          · rw [List.length_append, pairC_snoc]; exact ho4
          · obtain rfl : g4 = k := by simpa [Value.ownBlock] using hk
            rcases hl4 with h | h
            · exact hvb _ h
            · exact .inr (by omega)
          · rw [hg4.block k (by simp; omega) (fun e => by have := hvb k e.symm; omega), Below.heap_alloc _ _ _ (by simp; omega), Below.heap_alloc _ _ _ (by omega), hb2.block k (by omega)]
            exact HW1.out k k1 k2
          · have := hg4.size
            simp at this
            omega
  · by_cases e1 : 1500 < ss.length
    · have e1' : decide ((1500 : Int) < ss.length) = true := by simp; omega
      go_enter Tryz.func89, Tryz.ntmps89
      go_wp2
      go_ret
      exact ⟨_, _, rfl, hnil w, hb0⟩
    · have e1' : decide ((1500 : Int) < ss.length) = false := by simp; omega
      have e2' : decide ((1500 : Int) < tt.length) = true := by simp; omega
      go_enter Tryz.func89, Tryz.ntmps89
      go_wp2
      go_ret
      exact ⟨_, _, rfl, hnil w, hb0⟩
end Go.Proofs.YtjiafjdjocmodaaGreat

namespace Go.Proofs.YtjiafjdjocmodaaGreat
open Go.RowKit

def mrgV (o : Option (List UInt8)) : Value := match o with
  | none => .tuple #[.string ⟨#[]⟩, .bool false]
  | some s => .tuple #[.string (lnB s), .bool true]

theorem seg_lines (s : ByteArray) (i j : Nat) : (seg (linesB s) i j).length ≤ s.size := by
  have := seg_le (linesB s) i j
  rw [show ((linesB s).map (fun l => l.data.toList)).flatten = catL (linesB s) from rfl, catL_lines, ← Lib.size_eq] at this
  exact this
theorem three_le {x y z s : List UInt8} {n : Nat} (h : three x y z = some s) (hy : y.length ≤ n) (hz : z.length ≤ n) : s.length ≤ n := by
  unfold three at h
  split at h
  · cases h; exact hz
  · split at h
    · cases h; exact hy
    · cases h

theorem asc_up {ss tt : List ByteArray} {ps : List (Nat × Nat)} {n j : Nat} (h : Asc2 ss tt n j ps) (hw : withP ps n = none) : Asc2 ss tt (n + 1) j ps := by
  cases ps with
  | nil => trivial
  | cons p ps =>
    rw [withP] at hw
    split at hw
    · cases hw
    · exact ⟨by have := h.1; omega, h.2⟩
theorem asc_hit {ss tt : List ByteArray} {ps : List (Nat × Nat)} {n j x : Nat} (h : Asc2 ss tt n j ps) (hw : withP ps n = some x) : ∃ r, ps = (n, x) :: r ∧ j ≤ x ∧ Asc2 ss tt (n + 1) (x + 1) r := by
  cases ps with
  | nil => simp [withP] at hw
  | cons p ps =>
    rw [withP] at hw
    split at hw
    · rename_i e
      cases hw
      subst e
      exact ⟨ps, rfl, h.2.1, h.2.2.2.2.2⟩
    · rw [withP_lt h.2.2.2.2.2 (by have := h.1; omega)] at hw
      cases hw
theorem asc_end {ss tt : List ByteArray} {ps : List (Nat × Nat)} {j : Nat} (h : Asc2 ss tt ss.length j ps) : ps = [] := by
  cases ps with
  | nil => rfl
  | cons p ps => have h1 := h.1; have h2 := h.2.2.1; omega
theorem placesP_cons (n x : Nat) (r pb : List (Nat × Nat)) : placesP ((n, x) :: r) pb = (match withP pb n with
    | none => placesP r pb
    | some y => (n, x, y) :: placesP r pb) := by
  unfold placesP
  rw [List.filterMap_cons]
  cases withP pb n <;> rfl

/-- Where the merging stands, ahead of line n of base. -/
structure At (lb la lc : List ByteArray) (pa pb : List (Nat × Nat)) (n i j k : Nat) (out : List UInt8) (R : List (Nat × Nat)) (j1 : Nat) : Prop where
  asc : Asc2 lb la n j1 R
  same : ∀ m, n ≤ m → withP pa m = withP R m
  i_n : i ≤ n
  j_1 : j ≤ j1
  j_a : j ≤ la.length
  k_c : k ≤ lc.length
  k_y : ∀ m y, n ≤ m → withP pb m = some y → k ≤ y
  all : runS lb la lc (0, 0, 0) (placesP pa pb) (lb.length, la.length, lc.length) = (runS lb la lc (i, j, k) (placesP R pb) (lb.length, la.length, lc.length)).map (out ++ ·)

theorem At.start {lb la lc : List ByteArray} {pa pb : List (Nat × Nat)} (ha : Asc2 lb la 0 0 pa) : At lb la lc pa pb 0 0 0 0 [] pa 0 :=
  ⟨ha, fun _ _ => rfl, Nat.le_refl _, Nat.le_refl _, Nat.zero_le _, Nat.zero_le _, fun _ _ _ _ => Nat.zero_le _, by simp⟩
/-- A line that does not stand. -/
theorem At.skipA {lb la lc : List ByteArray} {pa pb : List (Nat × Nat)} {n i j k : Nat} {out : List UInt8} {R : List (Nat × Nat)} {j1 : Nat} (h : At lb la lc pa pb n i j k out R j1) (hw : withP pa n = none) : At lb la lc pa pb (n + 1) i j k out R j1 :=
  ⟨asc_up h.asc (by rw [← h.same n (Nat.le_refl _)]; exact hw), fun m hm => h.same m (by omega), by have := h.i_n; omega, h.j_1, h.j_a, h.k_c, fun m y hm => h.k_y m y (by omega), h.all⟩
theorem At.skipB {lb la lc : List ByteArray} {pa pb : List (Nat × Nat)} {n i j k : Nat} {out : List UInt8} {R : List (Nat × Nat)} {j1 x : Nat} (h : At lb la lc pa pb n i j k out R j1) (hw : withP pa n = some x) (hv : withP pb n = none) : ∃ R', At lb la lc pa pb (n + 1) i j k out R' (x + 1) := by
  obtain ⟨r, rfl, hx, ha⟩ := asc_hit h.asc (by rw [← h.same n (Nat.le_refl _)]; exact hw)
  refine ⟨r, ha, fun m hm => ?_, by have := h.i_n; omega, by have := h.j_1; omega, h.j_a, h.k_c, fun m y hm => h.k_y m y (by omega), ?_⟩
  · rw [h.same m (by omega), withP, if_neg (by simp; omega)]
  · rw [h.all, placesP_cons, hv]
/-- A line that stands: the stretch in front of it, and it. -/
theorem At.takes {lb la lc : List ByteArray} {pa pb : List (Nat × Nat)} {n i j k : Nat} {out : List UInt8} {R : List (Nat × Nat)} {j1 x y : Nat} (hb : Asc2 lb lc 0 0 pb) (h : At lb la lc pa pb n i j k out R j1) (hw : withP pa n = some x) (hv : withP pb n = some y) :
    j ≤ x ∧ x ≤ la.length ∧ k ≤ y ∧ y ≤ lc.length ∧ (three (seg lb i n) (seg la j x) (seg lc k y) = none → runS lb la lc (0, 0, 0) (placesP pa pb) (lb.length, la.length, lc.length) = none) ∧
    ∀ s, three (seg lb i n) (seg la j x) (seg lc k y) = some s → ∃ R', At lb la lc pa pb (n + 1) (n + 1) (x + 1) (y + 1) (out ++ (s ++ ((lb[n]?).getD ⟨#[]⟩).data.toList)) R' (x + 1) := by
  obtain ⟨r, rfl, hx, ha⟩ := asc_hit h.asc (by rw [← h.same n (Nat.le_refl _)]; exact hw)
  obtain ⟨y1, y2, y3, y4⟩ := withP_some hb hv
  have hk := h.k_y n y (Nat.le_refl _) hv
  have h5 := h.asc.2.2.2.1
  have hj1 := h.j_1
  have hall := h.all
  rw [placesP_cons, hv] at hall
  simp only [runS] at hall
  refine ⟨by omega, by simp at h5; omega, hk, by omega, fun h3 => ?_, fun s h3 => ⟨r, ha, fun m hm => ?_, Nat.le_refl _, Nat.le_refl _, by simp at h5; omega, by omega, fun m y' hm hy => ?_, ?_⟩⟩
  · rw [hall, h3]; rfl
  · rw [h.same m (by omega), withP, if_neg (by simp; omega)]
  · have := withP_mono hb hv hy (by omega); omega
  · rw [hall, h3]
    simp only
    cases runS lb la lc (n + 1, x + 1, y + 1) (placesP r pb) (lb.length, la.length, lc.length) <;> simp
/-- The end. -/
theorem At.ends {lb la lc : List ByteArray} {pa pb : List (Nat × Nat)} {i j k : Nat} {out : List UInt8} {R : List (Nat × Nat)} {j1 : Nat} (h : At lb la lc pa pb lb.length i j k out R j1) :
    runS lb la lc (0, 0, 0) (placesP pa pb) (lb.length, la.length, lc.length) = (three (seg lb i lb.length) (seg la j la.length) (seg lc k lc.length)).map (out ++ ·) := by
  have := asc_end h.asc
  subst this
  rw [h.all]
  rfl

theorem rdl_of_row {w : World} {base : Nat} {ad : Option Addr} {cp : Nat} {ls : List ByteArray} (h : w.ownsRow base 9 1 (.slice ad ls.length cp) ls.length (ls.map .string)) : ls.length ≤ cp ∧ SS w ad ls := by
  rcases h.2 with ⟨hv, h0⟩ | ⟨g, c, cur, hv, _, _, h4, _⟩
  · exact ⟨by omega, .inl (List.eq_nil_of_length_eq_zero h0)⟩
  · cases hv
    refine ⟨h4, .inr ⟨g, 0, rfl, fun i hi => ?_⟩⟩
    rw [Nat.zero_add, h.cellAt i (by omega), List.getElem?_map, List.getElem?_eq_getElem hi]
    rfl
end Go.Proofs.YtjiafjdjocmodaaGreat
