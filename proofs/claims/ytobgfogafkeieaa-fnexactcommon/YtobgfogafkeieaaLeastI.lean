/-
  impl.leastPairs: the least of the longest lists.
-/
import Derived.Test.YtobgfogafkeieaaMeasW
import Derived.Deep.LoopGhost
import Derived.WalkMore
namespace Go.Proofs.Ytobgfogafkeieaa
open Go.RowKit

/-- Pairs as cells. -/
def pairC (ps : List (Nat × Nat)) : List Value := ps.flatMap fun p => [Value.int .i64 (p.1 : Int), Value.int .i64 (p.2 : Int)]
theorem pairC_snoc (ps : List (Nat × Nat)) (x y : Nat) : pairC (ps ++ [(x, y)]) = pairC ps ++ [Value.int .i64 (x : Int), Value.int .i64 (y : Int)] := by simp [pairC]
theorem Try.infoPair : (Try.prog.info? 50).map (fun i => (i.zero, i.size, i.bytes)) = some (some (.agg #[.int .i64 0, .int .i64 0]), 2, 16) := by kernel_rfl

def PairsPost (ps : List (Nat × Nat)) (w : World) (e : Ending) (w' : World) : Prop :=
  ∃ ad cp, e = .returned (.slice ad ps.length cp) ∧ w'.ownsRow w.heap.size 50 2 (.slice ad ps.length cp) ps.length (pairC ps) ∧ Below w.heap.size w w'

/-- Where the search stands: behind the pairs that are done, at row k, column j. -/
structure Seek (m n : Nat) (E : Nat → Nat → Bool) (ps done rest : List (Nat × Nat)) (i0 j0 k j : Nat) : Prop where
  all : ps = done ++ rest
  comm : Comm m n E i0 j0 rest
  ik : i0 ≤ k
  jj : j0 ≤ j
  row : ∀ x y r, rest = (x, y) :: r → k ≤ x ∧ (x = k → j ≤ y)

theorem Seek.start {m n : Nat} {E : Nat → Nat → Bool} {ps : List (Nat × Nat)} (h : Comm m n E 0 0 ps) : Seek m n E ps [] ps 0 0 0 0 :=
  ⟨by simp, h, Nat.le_refl _, Nat.le_refl _, fun x y r _ => ⟨Nat.zero_le _, fun _ => Nat.zero_le _⟩⟩
theorem Seek.none {m n : Nat} {E : Nat → Nat → Bool} {ps done rest : List (Nat × Nat)} {i0 j0 k j : Nat} (h : Seek m n E ps done rest i0 j0 k j) (h0 : lcs m n E i0 j0 = 0) : ps = done := by
  rw [h.all, h.comm.zero h0]; simp
theorem Seek.over {m n : Nat} {E : Nat → Nat → Bool} {ps done rest : List (Nat × Nat)} {i0 j0 j : Nat} (h : Seek m n E ps done rest i0 j0 m j) : ps = done := by
  have : rest = [] := by
    cases rest with
    | nil => rfl
    | cons p r =>
      have h1 := h.row p.1 p.2 r rfl
      have h2 := h.comm.2.2.2.1.xm
      omega
  rw [h.all, this]; simp
theorem Seek.down {m n : Nat} {E : Nat → Nat → Bool} {ps done rest : List (Nat × Nat)} {i0 j0 k : Nat} (h : Seek m n E ps done rest i0 j0 k n) : Seek m n E ps done rest i0 j0 (k + 1) j0 := by
  refine ⟨h.all, h.comm, by have := h.ik; omega, Nat.le_refl _, fun x y r e => ?_⟩
  have h1 := h.row x y r e
  have hf : Fst m n E i0 j0 x y := by have := h.comm; rw [e] at this; exact this.2.2.2.1
  refine ⟨?_, fun _ => hf.jy⟩
  rcases Nat.lt_or_ge k x with h2 | h2
  · omega
  · have := h1.2 (by omega)
    have := hf.yn
    omega
theorem Seek.on {m n : Nat} {E : Nat → Nat → Bool} {ps done rest : List (Nat × Nat)} {i0 j0 k j : Nat} (h : Seek m n E ps done rest i0 j0 k j) (hn : ¬ Fits m n E (lcs m n E i0 j0) k j) : Seek m n E ps done rest i0 j0 k (j + 1) := by
  refine ⟨h.all, h.comm, h.ik, by have := h.jj; omega, fun x y r e => ?_⟩
  have h1 := h.row x y r e
  have hf : Fst m n E i0 j0 x y := by have := h.comm; rw [e] at this; exact this.2.2.2.1
  refine ⟨h1.1, fun hx => ?_⟩
  have h2 := h1.2 hx
  rcases Nat.lt_or_ge j y with h3 | h3
  · omega
  · obtain rfl : j = y := by omega
    subst hx
    exact absurd hf.fits hn
theorem Seek.take {m n : Nat} {E : Nat → Nat → Bool} {ps done rest : List (Nat × Nat)} {i0 j0 k j : Nat} (h : Seek m n E ps done rest i0 j0 k j) (hj : j < n) (h0 : 0 < lcs m n E i0 j0) (hn : Fits m n E (lcs m n E i0 j0) k j) : ∃ r, Seek m n E ps (done ++ [(k, j)]) r (k + 1) (j + 1) (k + 1) (j + 1) := by
  obtain ⟨x, y, r, rfl, hf, hc⟩ := h.comm.pos h0
  have h1 := h.row x y r rfl
  have ex : k = x := by
    rcases Nat.lt_or_ge k x with h2 | h2
    · exact absurd hn (hf.row k j h.ik h2 h.jj hj)
    · omega
  subst ex
  have ey : j = y := by
    have := h1.2 rfl
    rcases Nat.lt_or_ge j y with h2 | h2
    · exact absurd hn (hf.col j h.jj h2)
    · omega
  subst ey
  refine ⟨r, by rw [h.all]; simp, hc, Nat.le_refl _, Nat.le_refl _, fun x2 y2 r2 e => ?_⟩
  have hf2 : Fst m n E (k + 1) (j + 1) x2 y2 := by rw [e] at hc; exact hc.2.2.2.1
  exact ⟨hf2.ix, fun _ => hf2.jy⟩

theorem owns_low2 {w : World} {b b' : Nat} {e : TypeId} {size : Nat} {v : Value} {n : Nat} {xs : List Value} (h : w.ownsRow b e size v n xs) (hb : b' ≤ b) : w.ownsRow b' e size v n xs := by
  refine ⟨h.1, ?_⟩
  rcases h.2 with h' | ⟨g, cap, cur, hv, k1, k2, k3⟩
  · exact .inl h'
  · exact .inr ⟨g, cap, cur, hv, Nat.le_trans hb k1, k2, k3⟩

set_option maxRecDepth 20000 in
set_option maxHeartbeats 8000000 in
theorem leastPairs_any (a1 a2 : Option Addr) (c1 c2 : Nat) (A B : List Nat) (E : Nat → Nat → Bool) (g : Nat) (ps : List (Nat × Nat)) (w : World) (hA : IS w a1 A) (hB : IS w a2 B) (hm : A.length ≤ 1500) (hn : B.length ≤ 1500)
    (hE : ∀ i j (hi : i < A.length) (hj : j < B.length), E i j = true ↔ A[i] = B[j]) (hT : TabM A.length B.length E g 0 w) (hps : Comm A.length B.length E 0 0 ps) :
    Calls Try.prog 29 #[.slice a1 A.length c1, .slice a2 B.length c2, lenV (B.length + 1) g ((A.length + 1) * (B.length + 1))] w fun e w' => PairsPost ps w e w' := by
  obtain ⟨ti, hti, hz0, hz1, hz2⟩ := info_parts Try.infoPair
  obtain ⟨N, hN⟩ : ∃ N, N = (A.length + 1) * (B.length + 1) := ⟨_, rfl⟩
  have hNl : N ≤ 2253001 := by
    rw [hN]
    exact Nat.le_trans (Nat.mul_le_mul (show A.length + 1 ≤ 1501 by omega) (show B.length + 1 ≤ 1501 by omega)) (by decide)
  have HN : NKeep (N = (A.length + 1) * (B.length + 1)) := ⟨hN⟩
  have hrw : ∀ (i : Nat) (W : World), i ≤ A.length → Calls Try.prog 36 #[.agg #[.int .i64 ((B.length : Int) + 1), .slice (some ⟨g, 0, none⟩) N N], .int .i64 (i : Int)] W fun e w' => e = .returned (.slice (some ⟨g, i * (B.length + 1), none⟩) (B.length + 1) (N - i * (B.length + 1))) ∧ Below W.heap.size W w' := fun i W hi =>
    row_any (B.length + 1) g N i W (by omega) (by rw [HN.out]; exact Nat.mul_le_mul_right _ (by omega)) (by omega)
  rw [← hN]
  clear hN
  unfold lenV
  rw [show ((B.length + 1 : Nat) : Int) = (B.length : Int) + 1 by omega]
  have hr0 := hrw 0
  rw [Nat.zero_mul] at hr0
  have q0 : ∀ W, Below w.heap.size w W → W.cell? ⟨g, 0, none⟩ = some (.int .u16 ((lcs A.length B.length E 0 0 : Nat) : Int)) := fun W hb => by
    have := (TabM.cell (owns_below hT hb) (i := 0) (j := 0) (Nat.zero_le _) (Nat.zero_le _) (Nat.zero_le _))
    simpa using this
  go_enter Try.func29, Try.ntmps29
  go_wp2
  go_step3
  go_wp2_with (go_at_call 36; refine (hr0 _ (by omega)).mono ?_; rintro e w1 ⟨rfl, hb1⟩; have hb2 := ((Below.refl _ w).alloc (Nat.le_refl _) _).trans (hb1.mono (by simp)); have q1 := q0 w1 hb2)
  go_step3
  go_wp2
  have hbx : w1.heap[w.heap.size]? = some (.cells #[.int .i64 ((B.length : Int) + 1), .slice (some ⟨g, 0, none⟩) N N] 57) := (hb1.block w.heap.size (by simp)).trans (heap_alloc_new w _)
  have hs1 : w.heap.size + 1 ≤ w1.heap.size := by have := hb1.size; simpa using this
  clear hb1 q1
  go_loopg [7, 8, 9, 19] A.length (fun gk v lf fr ix wr => ∃ (k i0 j0 : Nat) (done rest : List (Nat × Nat)), k + gk = A.length ∧ ix = .int .i64 k ∧ fr = .int .i64 j0 ∧ lf = .int .u16 ((lcs A.length B.length E i0 j0 : Nat) : Int) ∧ NKeep (Seek A.length B.length E ps done rest i0 j0 k j0) ∧ done.length ≤ k ∧ j0 ≤ B.length ∧
    wr.ownsRow (w.heap.size + 1) 50 2 v done.length (pairC done) ∧ Below (w.heap.size + 1) w1 wr)
  case atStart => exact ⟨0, 0, 0, [], ps, by omega, rfl, rfl, rfl, ⟨Seek.start hps⟩, Nat.le_refl _, Nat.zero_le _, World.ownsRow_nil _ _ _ _, Below.refl _ _⟩
  case round =>
    obtain ⟨k, i0, j0, done, rest, hkg, rfl, rfl, rfl, HS, hdl, hj0, hrow, hB1⟩ := hrel
    have hBw : Below w.heap.size w wr := hb2.trans (hB1.mono (by omega))
    cases gk with
    | zero =>
      obtain rfl : k = A.length := by omega
      have HP : NKeep (ps = done) := ⟨HS.out.over⟩
      obtain ⟨ad, cp, rfl⟩ := owns_slice hrow
      go_wp2
      rw [Exit.noGoto_ret]
      go_ret
      rw [HP.out]
      exact ⟨ad, cp, rfl, owns_low2 hrow (by omega), hBw⟩
    | succ gq =>
      have hk : k < A.length := by omega
      have hk' : (k : Int) < A.length := by omega
      obtain ⟨P2, hP2⟩ : ∃ P2, P2 = (k + 1) * (B.length + 1) := ⟨_, rfl⟩
      have hrk := hrw (k + 1) wr (by omega)
      rw [← hP2, show ((k + 1 : Nat) : Int) = (k : Int) + 1 by omega] at hrk
      have HP2 : NKeep (P2 = (k + 1) * (B.length + 1)) := ⟨hP2⟩
      have hPN : P2 + (B.length + 1) ≤ N := by
        rw [HN.out, hP2]
        have : (k + 1 + 1) * (B.length + 1) ≤ (A.length + 1) * (B.length + 1) := Nat.mul_le_mul_right _ (by omega)
        rw [Nat.add_mul (k + 1), Nat.one_mul] at this
        omega
      have hbxr := (hB1.block w.heap.size (by omega)).trans hbx
      have x0 : wr.cell? ⟨w.heap.size, 0, none⟩ = some (.int .i64 ((B.length : Int) + 1)) := by simp [World.cell?, hbxr]
      have x1 : wr.cell? ⟨w.heap.size, 1, none⟩ = some (.slice (some ⟨g, 0, none⟩) N N) := by simp [World.cell?, hbxr]
      clear hP2
      go_wp2_with (go_at_call 36; refine hrk.mono ?_; rintro e w3 ⟨rfl, hb3⟩)
      clear hrk x0 x1 hbxr
      have hB3 : Below (w.heap.size + 1) w1 w3 := hB1.trans (hb3.mono (by have := hB1.size; omega))
      have hrow3 := owns_below hrow hb3
      clear hrow hB1 hBw hb3
      go_loopg [7, 8, 9, 12] (B.length - j0) (fun g2 v lf fr jx wr => ∃ j : Nat, j + g2 = B.length ∧ jx = .int .i64 j ∧ fr = .int .i64 j0 ∧ lf = .int .u16 ((lcs A.length B.length E i0 j0 : Nat) : Int) ∧ NKeep (Seek A.length B.length E ps done rest i0 j0 k j) ∧
        wr.ownsRow (w.heap.size + 1) 50 2 v done.length (pairC done) ∧ Below (w.heap.size + 1) w1 wr)
      case atStart => exact ⟨j0, by omega, rfl, rfl, rfl, HS, hrow3, hB3⟩
      case round =>
        obtain ⟨j, hjg, rfl, rfl, rfl, HSj, hrowj, hBj⟩ := hrel
        have hBwj : Below w.heap.size w wr := hb2.trans (hBj.mono (by omega))
        have hsj := hBj.size
        cases gk with
        | zero =>
          obtain rfl : j = B.length := by omega
          have HD : NKeep (Seek A.length B.length E ps done rest i0 j0 (k + 1) j0) := ⟨HSj.out.down⟩
          go_wp2
          go_roundg gq
          case measure => omega
          case rel => exact ⟨k + 1, i0, j0, done, rest, by omega, by go_num, rfl, rfl, HD, by omega, hj0, hrowj, hBj⟩
        | succ g2 =>
          have hj : j < B.length := by omega
          have hj' : (j : Int) < B.length := by omega
          by_cases hl0 : lcs A.length B.length E i0 j0 = 0
          · have HP : NKeep (ps = done) := ⟨HSj.out.none hl0⟩
            obtain ⟨ad, cp, rfl⟩ := owns_slice hrowj
            rw [hl0]
            go_wp2
            rw [Exit.noGoto_ret]
            go_ret
            rw [HP.out]
            exact ⟨ad, cp, rfl, owns_low2 hrowj (by omega), hBwj⟩
          · obtain ⟨b1, o1, rfl, d1⟩ := hA.at hk
            obtain ⟨b2, o2, rfl, d2⟩ := hB.at hj
            have y1 := cell_later hBwj (d1 k hk)
            have y2 := cell_later hBwj (d2 j hj)
            have t1 : wr.cell? ⟨g, P2 + (j + 1), none⟩ = some (.int .u16 ((lcs A.length B.length E (k + 1) (j + 1) : Nat) : Int)) := by
              have := TabM.cell (owns_below hT hBwj) (i := k + 1) (j := j + 1) (by omega) (by omega) (Nat.zero_le _)
              rwa [← HP2.out] at this
            have l1 := lcs_le1 A.length B.length E (k + 1) (j + 1)
            have l2 := lcs_le1 A.length B.length E i0 j0
            have HE := hE k j hk hj
            have HFit : NKeep (Fits A.length B.length E (lcs A.length B.length E i0 j0) k j ↔ (E k j = true ∧ lcs A.length B.length E (k + 1) (j + 1) + 1 = lcs A.length B.length E i0 j0)) := ⟨Iff.rfl⟩
            have HL0 : NKeep (0 < lcs A.length B.length E i0 j0) := ⟨by omega⟩
            have HLX : NKeep (∀ r, Seek A.length B.length E ps (done ++ [(k, j)]) r (k + 1) (j + 1) (k + 1) (j + 1) → lcs A.length B.length E (k + 1) (j + 1) + 1 = lcs A.length B.length E i0 j0 → True) := ⟨fun _ _ _ => trivial⟩
            obtain ⟨Lx, hLx⟩ : ∃ Lx, Lx = lcs A.length B.length E i0 j0 := ⟨_, rfl⟩
            obtain ⟨Ly, hLy⟩ : ∃ Ly, Ly = lcs A.length B.length E (k + 1) (j + 1) := ⟨_, rfl⟩
            rw [← hLy] at t1 l1
            rw [← hLx] at hl0 l2 ⊢
            have HLL : NKeep (Lx = lcs A.length B.length E i0 j0 ∧ Ly = lcs A.length B.length E (k + 1) (j + 1)) := ⟨hLx, hLy⟩
            have hl0' : ((Lx : Int) == 0) = false := by simp; omega
            have hw1 : IntKind.u16.wrap ((Ly : Int) + 1) = (Ly : Int) + 1 := by rw [show ∀ z, IntKind.u16.wrap z = z % 65536 from fun _ => rfl]; omega
            clear hLx hLy d1 d2 hl0 HLX
            by_cases he : E k j = true
            · have hab := HE.1 he
              have habI : ((A[k] : Nat) : Int) = ((B[j] : Nat) : Int) := by rw [hab]
              by_cases hf : Ly + 1 = Lx
              · have HF : NKeep (Fits A.length B.length E (lcs A.length B.length E i0 j0) k j) := ⟨HFit.out.2 ⟨he, by rw [← HLL.out.1, ← HLL.out.2]; exact hf⟩⟩
                have hfI : ((Ly : Int) + 1) = (Lx : Int) := by omega
                clear HFit HE hab he
                obtain ⟨r, hr⟩ := HSj.out.take hj HL0.out HF.out
                have HR : NKeep (Seek A.length B.length E ps (done ++ [(k, j)]) r (k + 1) (j + 1) (k + 1) (j + 1)) := ⟨hr⟩
                clear hr
                have hbs := owns_base hrowj
                go_wp2
                go_region
                all_goals go_wp2_with (at_builtin; refine wpList_append_own _ rfl _ _ 29 rfl (w.heap.size + 1) 50 ti _ 2 16 Try.underlying29 hti hz0 hz1 hz2 rfl (by decide) _ _ _ rfl (hrowj.alloc _) ⟨wr.heap.size, 0, none⟩ 1 1 [.int .i64 (k : Int), .int .i64 (j : Int)] rfl rfl (fun j' u h => (World.news_of_block (w := wr.alloc _) (heap_alloc_new _ _) j' u h)) (by simp [Value.oneCell']) (by unfold maxLen; omega) (by omega) (by simp; omega) ?_; intro v4 w4 ho4 hg4 _)
                go_roundg gq
                case measure => omega
                case rel =>
                  refine ⟨k + 1, k + 1, j + 1, done ++ [(k, j)], r, by omega, by go_num, by go_num, ?_, HR, by simp; omega, by omega, ?_, ?_⟩
                  · rw [← HLL.out.2]
                    go_num
                  · rw [List.length_append, pairC_snoc]
                    exact ho4
                  · exact ((hBj.drew.alloc (by show _ ≤ wr.heap.size; omega) _).grown hg4 (by simp; omega) hbs)
              · have HD : NKeep (Seek A.length B.length E ps done rest i0 j0 k (j + 1)) := ⟨HSj.out.on (fun hx => hf (by have := (HFit.out.1 hx).2; rw [← HLL.out.1, ← HLL.out.2] at this; exact this))⟩
                have hfI : (((Ly : Int) + 1) == (Lx : Int)) = false := by simp; omega
                clear HFit HE hab he
                go_wp2
                go_region
                all_goals (try go_wp2)
                go_roundg g2
                case measure => omega
                case rel => exact ⟨j + 1, by omega, by go_num, rfl, by rw [← HLL.out.1], HD, hrowj, hBj.drew⟩
            · have HD : NKeep (Seek A.length B.length E ps done rest i0 j0 k (j + 1)) := ⟨HSj.out.on (fun hx => he (HFit.out.1 hx).1)⟩
              have habI : (((A[k] : Nat) : Int) == ((B[j] : Nat) : Int)) = false := by
                have : ¬ A[k] = B[j] := fun h => he (HE.2 h)
                simp
                omega
              clear HFit HE he
              go_wp2
              go_region
              all_goals (try go_wp2)
              go_roundg g2
              case measure => omega
              case rel => exact ⟨j + 1, by omega, by go_num, rfl, by rw [← HLL.out.1], HD, hrowj, hBj.drew⟩
end Go.Proofs.Ytobgfogafkeieaa
