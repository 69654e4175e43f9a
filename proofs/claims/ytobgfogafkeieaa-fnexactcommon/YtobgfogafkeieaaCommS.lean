/-
  spec.l7First, spec.Common.
-/
import Derived.Test.YtobgfogafkeieaaTabS
namespace Go.Proofs.Ytobgfogafkeieaa
open Go.RowKit

theorem heap_alloc2 (w : World) (o o' : Obj) : ((w.alloc o).alloc o').heap[w.heap.size + 1]? = some o' := by
  have := heap_alloc_new (w.alloc o) o'
  rwa [World.size_alloc] at this

theorem fits_not {m n : Nat} {E : Nat → Nat → Bool} {i j x y k l : Nat} (h : Fst m n E i j x y) (h1 : i ≤ k) (h2 : k ≤ x) (h3 : j ≤ l) (h4 : l < n) (h5 : k = x → l ≤ y) (hne : ¬ (k = x ∧ l = y)) : ¬ Fits m n E (lcs m n E i j) k l := by
  rcases Nat.lt_or_ge k x with h6 | h6
  · exact h.row k l h1 h6 h3 h4
  · obtain rfl : k = x := by omega
    exact h.col l h3 (by have := h5 rfl; omega)

set_option maxRecDepth 20000 in
set_option maxHeartbeats 8000000 in
theorem l7First_any (a1 a2 : Option Addr) (c1 c2 : Nat) (ss tt : List ByteArray) (g : Nat) (ρ : Nat → Nat) (i j x y : Nat) (w : World) (h1 : SS w a1 ss) (h2 : SS w a2 tt) (hm : ss.length ≤ 1500) (hn : tt.length ≤ 1500)
    (hT : TabR ss.length tt.length (eqL ss tt) g ρ w) (hf : Fst ss.length tt.length (eqL ss tt) i j x y) :
    Calls Try.prog 27 #[.slice a1 ss.length c1, .slice a2 tt.length c2, rowS g (ss.length + 1), .int .i64 (i : Int), .int .i64 (j : Int)] w fun e w' => e = .returned (.agg #[.int .i64 (x : Int), .int .i64 (y : Int)]) ∧ Below w.heap.size w w' := by
  have hxm := hf.xm
  have hyn := hf.yn
  have hix := hf.ix
  have hjy := hf.jy
  have HF : NKeep (Fst ss.length tt.length (eqL ss tt) i j x y) := ⟨hf⟩
  obtain ⟨M, hM⟩ : ∃ M, M = ss.length + 1 := ⟨_, rfl⟩
  obtain ⟨C, hC⟩ : ∃ C, C = tt.length + 1 := ⟨_, rfl⟩
  have hM1 : ss.length < M := by omega
  have hM2 : M ≤ 1501 := by omega
  have hC1 : tt.length < C := by omega
  have hC2 : C ≤ 1501 := by omega
  rw [← hM]
  have HC : NKeep (C = tt.length + 1) := ⟨hC⟩
  clear hM hC hf
  unfold rowS
  go_enter Try.func27, Try.ntmps27
  go_wp2
  obtain ⟨W0, hW0⟩ : ∃ W0, w.alloc (.cells #[.int .i64 0, .int .i64 0] 50) = W0 := ⟨_, rfl⟩
  have hR0 : W0.heap[w.heap.size]? = some (.cells #[.int .i64 0, .int .i64 0] 50) := by rw [← hW0]; exact heap_alloc_new w _
  have hB0 : Below w.heap.size w W0 := by rw [← hW0]; exact (Below.refl _ _).alloc (Nat.le_refl _) _
  have hs0 : w.heap.size < W0.heap.size := (Array.getElem?_eq_some_iff.1 hR0).1
  rw [hW0]
  clear hW0
  go_loopg [11] (ss.length - i) (fun gk s11 wr => ∃ k : Nat, k + gk = ss.length ∧ s11 = .int .i64 (k : Int) ∧ i ≤ k ∧ k ≤ x ∧ Below W0.heap.size W0 wr)
  case atStart => exact ⟨i, by omega, rfl, Nat.le_refl _, hix, Below.refl _ _⟩
  case round =>
    obtain ⟨k, hkg, rfl, hik, hkx, hBk⟩ := hrel
    have hk' : (k : Int) < ss.length := by omega
    cases gk with
    | zero => omega
    | succ gq =>
      go_wp2
      go_loopg [12] (tt.length - j) (fun g2 s12 wr => ∃ l : Nat, l + g2 = tt.length ∧ s12 = .int .i64 (l : Int) ∧ j ≤ l ∧ (k = x → l ≤ y) ∧ Below W0.heap.size W0 wr)
      case atStart => exact ⟨j, by omega, rfl, Nat.le_refl _, fun _ => hjy, hBk⟩
      case round =>
        obtain ⟨l, hlg, rfl, hjl, hly, hBl⟩ := hrel
        cases gk with
        | zero =>
          obtain rfl : l = tt.length := by omega
          have hkx2 : k < x := by
            rcases Nat.lt_or_ge k x with h | h
            · exact h
            · have := hly (by omega); omega
          go_wp2
          go_roundg gq
          case measure => omega
          case rel => exact ⟨k + 1, by omega, by go_num, by omega, by omega, hBl⟩
        | succ g2 =>
          have hl' : (l : Int) < tt.length := by omega
          have hbl : Below w.heap.size w wr := hB0.trans (hBl.mono (by omega))
          obtain ⟨b1, o1, rfl, d1⟩ := h1.at (k := k) (by omega)
          obtain ⟨b2, o2, rfl, d2⟩ := h2.at (k := l) (by omega)
          have y1 := cell_later hbl (d1 k (by omega))
          have y2 := cell_later hbl (d2 l (by omega))
          have hTr := hT.below hbl
          obtain ⟨r1, hr1⟩ : ∃ r1, ρ (k + 1) = r1 := ⟨_, rfl⟩
          obtain ⟨r2, hr2⟩ : ∃ r2, ρ i = r2 := ⟨_, rfl⟩
          have g1 : wr.cell? ⟨g, k + 1, none⟩ = some (.slice (some ⟨r1, 0, none⟩) C C) := by rw [(hTr (k + 1) (by omega)).1, HC.out, hr1]; rfl
          have g2' : wr.cell? ⟨g, i, none⟩ = some (.slice (some ⟨r2, 0, none⟩) C C) := by rw [(hTr i (by omega)).1, HC.out, hr2]; rfl
          have x1 : wr.cell? ⟨r1, l + 1, none⟩ = some (.int .i64 ((lcs ss.length tt.length (eqL ss tt) (k + 1) (l + 1) : Nat) : Int)) := by rw [← hr1]; exact (hTr (k + 1) (by omega)).2 (l + 1) (by omega)
          have x2 : wr.cell? ⟨r2, j, none⟩ = some (.int .i64 ((lcs ss.length tt.length (eqL ss tt) i j : Nat) : Int)) := by rw [← hr2]; exact (hTr i (by omega)).2 j (by omega)
          have hkM : (k : Int) + 1 < M := by omega
          have hiM : (i : Int) < M := by omega
          have hlC : (l : Int) + 1 < C := by omega
          have hjC : (j : Int) < C := by omega
          have HE := eqL_iff (ss := ss) (tt := tt) (i := k) (j := l) (by omega) (by omega)
          have lz := lcs_le1 ss.length tt.length (eqL ss tt) (k + 1) (l + 1)
          have hdif : ss[k] ≠ tt[l] → (ss[k].toList == tt[l].toList) = false := bs_diff
          have hsam : ss[k] = tt[l] → (ss[k].toList == tt[l].toList) = true := bs_same
          have HN := fits_not HF.out hik hkx hjl (by omega) hly
          have HY := HF.out.fits
          unfold Fits at HN HY
          have HZ : NKeep (k = x ∧ l = y → lcs ss.length tt.length (eqL ss tt) (k + 1) (l + 1) = lcs ss.length tt.length (eqL ss tt) (x + 1) (y + 1)) := ⟨fun h => by rw [h.1, h.2]⟩
          generalize lcs ss.length tt.length (eqL ss tt) (k + 1) (l + 1) = Z at *
          generalize lcs ss.length tt.length (eqL ss tt) i j = T at *
          clear hTr d1 d2 hr1 hr2
          by_cases hxy : k = x ∧ l = y
          · have hz := HZ.out hxy
            rw [← hz] at HY
            obtain ⟨rfl, rfl⟩ := hxy
            have hbe := hsam (HE.1 HY.1)
            have hzt : (Z : Int) + 1 = (T : Int) := by have := HY.2; omega
            have hRr := (hBl.block w.heap.size hs0).trans hR0
            have q0 : wr.cell? ⟨w.heap.size, 0, none⟩ = some (.int .i64 0) := by simp [World.cell?, hRr]
            have q1 : wr.cell? ⟨w.heap.size, 1, none⟩ = some (.int .i64 0) := by simp [World.cell?, hRr]
            have f0 : wr.frozen? ⟨w.heap.size, 0, none⟩ = false := by simp [World.frozen?, hRr]
            have f1 : wr.frozen? ⟨w.heap.size, 1, none⟩ = false := by simp [World.frozen?, hRr]
            clear HN HY HZ HE hdif hsam hz
            go_wp2
            go_region
            all_goals (try go_wp2)
            refine bodyPost_ret (v := .agg #[.int .i64 (k : Int), .int .i64 (l : Int)]) ?_ rfl ⟨rfl, ?_⟩
            · have z0 : (wr.setCell ⟨w.heap.size, 0, none⟩ (.int .i64 (k : Int))).cell? ⟨w.heap.size, 0, none⟩ = some (.int .i64 (k : Int)) := World.cell?_setCell_same' _ _ _ (by rw [q0]; rfl)
              obtain ⟨v1, hv1⟩ := cell?_setCell_some (p := ⟨w.heap.size, 0, none⟩) (x := .int .i64 (k : Int)) q1
              have z1 : ((wr.setCell ⟨w.heap.size, 0, none⟩ (.int .i64 (k : Int))).setCell ⟨w.heap.size, 1, none⟩ (.int .i64 (l : Int))).cell? ⟨w.heap.size, 1, none⟩ = some (.int .i64 (l : Int)) := World.cell?_setCell_same' _ _ _ (by rw [hv1]; rfl)
              simp [results, Try.f27, go_sem, z0, z1, Result.andThen]
            · exact ((hbl.setCell (p := ⟨w.heap.size, 0, none⟩) (Nat.le_refl _) _).setCell (p := ⟨w.heap.size, 1, none⟩) (Nat.le_refl _) _).drew
          · have hnf := HN hxy
            by_cases he : eqL ss tt k l = true
            · have hbe := hsam (HE.1 he)
              have hzt : (((Z : Int) + 1) == (T : Int)) = false := by
                have : ¬ Z + 1 = T := fun h => hnf ⟨he, h⟩
                simp
                omega
              clear HN HY HZ HE hdif hsam hnf he
              go_wp2
              go_region
              all_goals (try go_wp2)
              go_roundg g2
              case measure => omega
              case rel => exact ⟨l + 1, by omega, by go_num, by omega, fun h => by have := hly h; omega, hBl.drew⟩
            · have hbe := hdif (fun h => he (HE.2 h))
              clear HN HY HZ HE hdif hsam hnf he
              go_wp2
              go_region
              all_goals (try go_wp2)
              go_roundg g2
              case measure => omega
              case rel => exact ⟨l + 1, by omega, by go_num, by omega, fun h => by have := hly h; omega, hBl.drew⟩

set_option maxRecDepth 20000 in
set_option maxHeartbeats 4000000 in
theorem specCommon_any (a1 a2 : Option Addr) (c1 c2 : Nat) (ss tt : List ByteArray) (ps : List (Nat × Nat)) (w : World) (h1 : SS w a1 ss) (h2 : SS w a2 tt) (hp : CommT ss tt ps) :
    Calls Try.prog 14 #[.slice a1 ss.length c1, .slice a2 tt.length c2] w fun e w' => PairsPost ps w e w' := by
  have hnil : ∀ W : World, (W.alloc (.cells #[] 50)).ownsRow W.heap.size 50 2 (.slice (some ⟨W.heap.size, 0, none⟩) 0 0) 0 [] := fun W => ⟨by simp, .inr ⟨W.heap.size, 0, #[], rfl, Nat.le_refl _, heap_alloc_new W _, Nat.le_refl _, by unfold maxLen; omega, rfl, by simp⟩⟩
  have hb0 : Below w.heap.size w (w.alloc (.cells #[] 50)) := (Below.refl _ _).alloc (Nat.le_refl _) _
  rcases hp with ⟨hm, hn, hc⟩ | ⟨hbig, rfl⟩
  · have e1 : decide ((1500 : Int) < ss.length) = false := by simp; omega
    have e2 : decide ((1500 : Int) < tt.length) = false := by simp; omega
    obtain ⟨ti, hti, hz0, hz1, hz2⟩ := info_parts Try.infoPair
    go_enter Try.func14, Try.ntmps14
    go_wp2_with fail
    refine (l7Table_any a1 a2 c1 c2 ss tt _ (h1.below hb0) (h2.below hb0) hm hn).mono ?_
    rintro e w1 ⟨g, ρ, hg, hρ, rfl, hT, hb1⟩
    rw [World.size_alloc] at hg
    have hρ' : ∀ i, i ≤ ss.length → w.heap.size + 1 ≤ ρ i := fun i hi => by have := hρ i hi; simpa using this
    clear hρ
    have hbx1 := hb0.trans (hb1.mono hb0.size)
    have hr1 := owns_below (hnil w) hb1
    unfold rowS
    obtain ⟨M, hM⟩ : ∃ M, M = ss.length + 1 := ⟨_, rfl⟩
    rw [← hM]
    have HM : NKeep (M = ss.length + 1) := ⟨hM⟩
    have hM1 : ss.length < M := by omega
    clear hM
    obtain ⟨C, hC⟩ : ∃ C, C = tt.length + 1 := ⟨_, rfl⟩
    have HC : NKeep (C = tt.length + 1) := ⟨hC⟩
    have hC1 : tt.length < C := by omega
    clear hC
    go_wp2
    go_loopg [5, 7, 8] ps.length (fun gk v i j wr => ∃ (i' j' : Nat) (done rest : List (Nat × Nat)), i = .int .i64 (i' : Int) ∧ j = .int .i64 (j' : Int) ∧ NKeep (Comm ss.length tt.length (eqL ss tt) i' j' rest ∧ ps = done ++ rest ∧ rest.length = gk) ∧ done.length ≤ i' ∧
      wr.ownsRow w.heap.size 50 2 v done.length (pairC done) ∧ (∀ k, v.ownBlock = some k → k = w.heap.size ∨ w1.heap.size ≤ k) ∧ NKeep (∀ k, w.heap.size < k → k < w1.heap.size → wr.heap[k]? = w1.heap[k]?) ∧ w1.heap.size ≤ wr.heap.size ∧ Below w.heap.size w wr)
    case atStart => exact ⟨0, 0, [], ps, rfl, rfl, ⟨hc, by simp, rfl⟩, Nat.le_refl _, hr1, fun k hk => .inl (by simpa [Value.ownBlock] using hk.symm), ⟨fun _ _ _ => rfl⟩, Nat.le_refl _, hbx1⟩
    case round =>
      obtain ⟨i, j, done, rest, rfl, rfl, HC1, hdl, hrow, hvb, HW1, hsz1, hB⟩ := hrel
      have hTr : TabR ss.length tt.length (eqL ss tt) g ρ wr := fun i hi => by
        have hg1 : g < w1.heap.size := blk_lt (hT i hi).1
        refine ⟨(World.cell?_of_block (HW1.out g (by omega) hg1)).trans (hT i hi).1, fun j hj => ?_⟩
        have hr1 : ρ i < w1.heap.size := blk_lt ((hT i hi).2 j hj)
        exact (World.cell?_of_block (HW1.out (ρ i) (by have := hρ' i hi; omega) hr1)).trans ((hT i hi).2 j hj)
      obtain ⟨him, hjn⟩ := HC1.out.1.im
      obtain ⟨r1, hr1⟩ : ∃ r1, ρ i = r1 := ⟨_, rfl⟩
      have g1 : wr.cell? ⟨g, i, none⟩ = some (.slice (some ⟨r1, 0, none⟩) C C) := by rw [(hTr i him).1, HC.out, hr1]; rfl
      have x1 : wr.cell? ⟨r1, j, none⟩ = some (.int .i64 ((lcs ss.length tt.length (eqL ss tt) i j : Nat) : Int)) := by rw [← hr1]; exact (hTr i him).2 j hjn
      have hiM : (i : Int) < M := by omega
      have hjC : (j : Int) < C := by omega
      clear hr1
      by_cases h0 : lcs ss.length tt.length (eqL ss tt) i j = 0
      · have HP : NKeep (ps = done) := ⟨by rw [HC1.out.2.1, HC1.out.1.zero h0]; simp⟩
        obtain ⟨ad, cp, rfl⟩ := owns_slice hrow
        rw [h0] at x1
        go_wp2
        go_ret
        rw [HP.out]
        exact ⟨ad, cp, rfl, hrow, hB⟩
      · obtain ⟨x, y, r, hrest, hf, hcr⟩ := HC1.out.1.pos (by omega)
        have hxm := hf.xm
        have hyn := hf.yn
        have hix := hf.ix
        have hl7 := l7First_any a1 a2 c1 c2 ss tt g ρ i j x y wr (h1.below hB) (h2.below hB) hm hn hTr hf
        unfold rowS at hl7
        rw [← HM.out] at hl7
        have HR : NKeep (Comm ss.length tt.length (eqL ss tt) (x + 1) (y + 1) r ∧ ps = (done ++ [(x, y)]) ++ r ∧ rest.length = r.length + 1) := ⟨hcr, by rw [HC1.out.2.1, hrest]; simp, by rw [hrest]; rfl⟩
        have hpos : 0 < ((lcs ss.length tt.length (eqL ss tt) i j : Nat) : Int) := by omega
        generalize lcs ss.length tt.length (eqL ss tt) i j = T at *
        clear hrest hf hcr h0
        go_wp2_with (first | (go_at_call 27; refine hl7.mono ?_; rintro e w2 ⟨rfl, hb2⟩; have hrow2 := owns_below hrow hb2; have hBs := hB.size; have hb2s := hb2.size)
                           | (at_builtin; refine wpList_append_lies _ rfl _ _ 29 rfl w.heap.size 50 ti _ 2 16 Try.underlying29 hti hz0 hz1 hz2 rfl (by decide) _ _ _ rfl ((hrow2.alloc _).alloc _) ⟨w2.heap.size + 1, 0, none⟩ 1 1 [.int .i64 (x : Int), .int .i64 (y : Int)] rfl rfl (fun j' u h => World.news_of_block (heap_alloc2 w2 _ _) j' u h) (by simp [Value.oneCell']) (by omega) (by unfold maxLen; omega) (by omega) (by simp; omega) (w2.heap.size + 1 + 1) (by simp) ?_; intro g4 cap4 w4 ho4 hg4 hl4 hlt4
                              have hb4 : w4.heap[w2.heap.size]? = some (.cells #[.int .i64 (x : Int), .int .i64 (y : Int)] 50) := (hg4.block w2.heap.size (by simp; omega) (fun e => by have := own_lt hrow2 e.symm; omega)).trans ((Below.heap_alloc _ _ _ (by simp)).trans (heap_alloc_new w2 _))
                              have c40 : w4.cell? ⟨w2.heap.size, 0, none⟩ = some (.int .i64 (x : Int)) := by simp [World.cell?, hb4]
                              have c41 : w4.cell? ⟨w2.heap.size, 1, none⟩ = some (.int .i64 (y : Int)) := by simp [World.cell?, hb4]))
        go_roundg r.length
        case measure => have := HR.out.2.2; have := HC1.out.2.2; omega
        case rel =>
          have hbs := owns_base hrow2
          have hBx : Below w.heap.size w w4 := (((hB.trans (hb2.mono hBs)).alloc (by omega) _).alloc (by simp; omega) _).grown hg4 (by simp; omega) hbs
          refine ⟨x + 1, y + 1, done ++ [(x, y)], r, by go_num, by go_num, ⟨HR.out.1, HR.out.2.1, rfl⟩, by simp; omega, ?_, fun k hk => ?_, ⟨fun k k1 k2 => ?_⟩, ?_, hBx⟩
          · rw [List.length_append, pairC_snoc]; exact ho4
          · obtain rfl : g4 = k := by simpa [Value.ownBlock] using hk
            rcases hl4 with h | h
            · exact hvb _ h
            · exact .inr (by omega)
          · rw [hg4.block k (by simp; omega) (fun e => by have := hvb k e.symm; omega), Below.heap_alloc _ _ _ (by simp; omega), Below.heap_alloc _ _ _ (by omega), hb2.block k (by omega)]
            exact HW1.out k k1 k2
          · have := hg4.size
            simp at this
            omega
  · by_cases e1 : 1500 < ss.length
    · have e1' : decide ((1500 : Int) < ss.length) = true := by simp; omega
      go_enter Try.func14, Try.ntmps14
      go_wp2
      go_ret
      exact ⟨_, _, rfl, hnil w, hb0⟩
    · have e1' : decide ((1500 : Int) < ss.length) = false := by simp; omega
      have e2' : decide ((1500 : Int) < tt.length) = true := by simp; omega
      go_enter Try.func14, Try.ntmps14
      go_wp2
      go_ret
      exact ⟨_, _, rfl, hnil w, hb0⟩
end Go.Proofs.Ytobgfogafkeieaa
