/-
  impl.measure: the table.
-/
import Derived.Test.YtobgfogafkeieaaMeasI
import Derived.Test.YtobgfogafkeieaaLaterQ
import Derived.Deep.RegionWith
namespace Go.Proofs.Ytobgfogafkeieaa
open Go.RowKit

/-- A slice of ints that is read. -/
def IS (w : World) (a : Option Addr) (xs : List Nat) : Prop :=
  xs = [] ∨ ∃ b off, a = some ⟨b, off, none⟩ ∧ ∀ i (h : i < xs.length), w.cell? ⟨b, off + i, none⟩ = some (.int .i64 (xs[i] : Nat))
theorem IS.below {w w' : World} {a : Option Addr} {xs : List Nat} (h : IS w a xs) (hb : Below w.heap.size w w') : IS w' a xs := by
  rcases h with h | ⟨b, off, ha, hc⟩
  · exact .inl h
  · exact .inr ⟨b, off, ha, fun i hi => cell_later hb (hc i hi)⟩
theorem IS.at {w : World} {a : Option Addr} {xs : List Nat} (h : IS w a xs) {k : Nat} (hk : k < xs.length) :
    ∃ b off, a = some ⟨b, off, none⟩ ∧ ∀ i (h : i < xs.length), w.cell? ⟨b, off + i, none⟩ = some (.int .i64 (xs[i] : Nat)) := by
  rcases h with h | h
  · subst h; simp at hk
  · exact h
theorem is_of_row {w : World} {base : Nat} {ad : Option Addr} {n cp : Nat} {xs : List Nat} (hn : xs.length = n) (h : w.ownsRow base 3 1 (.slice ad n cp) n (intC xs)) : IS w ad xs := by
  subst hn
  rcases h.2 with ⟨_, h0⟩ | ⟨g, c, cur, hv, _⟩
  · exact .inl (List.eq_nil_of_length_eq_zero h0)
  · cases hv
    refine .inr ⟨g, 0, rfl, fun i hi => ?_⟩
    rw [Nat.zero_add, h.cellAt i (by omega)]
    simp [intC, hi]

/-- A table's cells, those from K on filled. -/
def cellsF (fl : Nat → Nat) (N K : Nat) : List Value := (List.range N).map fun k => Value.int .u16 ((if K ≤ k then fl k else 0 : Nat) : Int)
theorem cellsF_len (fl : Nat → Nat) (N K : Nat) : (cellsF fl N K).length = N := by simp [cellsF]
theorem cellsF_get (fl : Nat → Nat) {N K k : Nat} (h : k < N) : (cellsF fl N K)[k]? = some (.int .u16 ((if K ≤ k then fl k else 0 : Nat) : Int)) := by simp [cellsF, h]
theorem cellsF_set (fl : Nat → Nat) (N k : Nat) : (cellsF fl N (k + 1)).set k (.int .u16 ((fl k : Nat) : Int)) = cellsF fl N k := by
  apply List.ext_getElem?
  intro i
  by_cases hi : i < N
  · rw [List.getElem?_set, cellsF_get fl hi, cellsF_get fl hi, cellsF_len]
    by_cases e : k = i
    · subst e; simp [hi]
    · rw [if_neg e]
      by_cases h2 : k + 1 ≤ i
      · rw [if_pos h2, if_pos (by omega)]
      · rw [if_neg h2, if_neg (by omega)]
  · rw [List.getElem?_eq_none (by simp [cellsF]; omega), List.getElem?_eq_none (by simp [cellsF]; omega)]
theorem cellsF_skip (fl : Nat → Nat) (N k : Nat) (h : fl k = 0) : cellsF fl N (k + 1) = cellsF fl N k := by
  apply List.ext_getElem?
  intro i
  by_cases hi : i < N
  · rw [cellsF_get fl hi, cellsF_get fl hi]
    by_cases e : k = i
    · subst e; simp [h]
    · by_cases h2 : k + 1 ≤ i
      · rw [if_pos h2, if_pos (by omega)]
      · rw [if_neg h2, if_neg (by omega)]
  · rw [List.getElem?_eq_none (by simp [cellsF]; omega), List.getElem?_eq_none (by simp [cellsF]; omega)]
/-- Nothing filled but zeros. -/
theorem cellsF_zero (fl : Nat → Nat) (N K : Nat) (h : ∀ k, K ≤ k → k < N → fl k = 0) : List.replicate N (Value.int .u16 0) = cellsF fl N K := by
  apply List.ext_getElem?
  intro i
  by_cases hi : i < N
  · rw [cellsF_get fl hi, List.getElem?_replicate, if_pos hi]
    by_cases h2 : K ≤ i
    · rw [if_pos h2, h i h2 hi]; rfl
    · rw [if_neg h2]; rfl
  · rw [List.getElem?_eq_none (by simp; omega), List.getElem?_eq_none (by simp [cellsF]; omega)]

/-- The table, flat. -/
def flat (m n : Nat) (E : Nat → Nat → Bool) (k : Nat) : Nat := lcs m n E (k / (n + 1)) (k % (n + 1))
theorem flat_at (m n : Nat) (E : Nat → Nat → Bool) (i j : Nat) (h : j ≤ n) : flat m n E (i * (n + 1) + j) = lcs m n E i j := by
  unfold flat
  rw [Nat.mul_comm i, Nat.mul_add_div (by omega), Nat.mul_add_mod, Nat.div_eq_of_lt (by omega), Nat.mod_eq_of_lt (by omega), Nat.add_zero]

theorem Try.infoU16 : (Try.prog.info? 63).map (fun i => (i.zero, i.size, i.bytes)) = some (some (.int .u16 0), 1, 2) := by kernel_rfl

/-- The table in memory. -/
def TabM (m n : Nat) (E : Nat → Nat → Bool) (g K : Nat) (w : World) : Prop :=
  w.ownsRow g 63 1 (.slice (some ⟨g, 0, none⟩) ((m + 1) * (n + 1)) ((m + 1) * (n + 1))) ((m + 1) * (n + 1)) (cellsF (flat m n E) ((m + 1) * (n + 1)) K)

theorem TabM.cell {m n : Nat} {E : Nat → Nat → Bool} {g K : Nat} {w : World} (h : TabM m n E g K w) {i j : Nat} (hi : i ≤ m) (hj : j ≤ n) (hK : K ≤ i * (n + 1) + j) :
    w.cell? ⟨g, i * (n + 1) + j, none⟩ = some (.int .u16 ((lcs m n E i j : Nat) : Int)) := by
  have hlt : i * (n + 1) + j < (m + 1) * (n + 1) := by
    have : (i + 1) * (n + 1) ≤ (m + 1) * (n + 1) := Nat.mul_le_mul_right _ (by omega)
    rw [Nat.add_mul, Nat.one_mul] at this
    omega
  rw [World.ownsRow.cellAt h _ (by omega), cellsF_get _ hlt, if_pos hK, flat_at m n E i j hj]

theorem _root_.Go.World.grownBy.draw {w w' : World} {row : Option Nat} (h : w.grownBy w' row) : w.grownBy w'.drew row := ⟨h.os, h.tape, h.output, h.size, h.block⟩
theorem row_else {w : World} {base : Nat} {e : TypeId} {size : Nat} {v : Value} {n : Nat} {xs : List Value} {b i : Nat} (h : w.ownsRow base e size v n xs) (hb : b < base) (u : Value) : (w.setCell ⟨b, i, none⟩ u).ownsRow base e size v n xs := by
  refine ⟨h.1, ?_⟩
  rcases h.2 with h' | ⟨g, cap, cur, hv, k1, k2, k3⟩
  · exact .inl h'
  · exact .inr ⟨g, cap, cur, hv, k1, (Below.heap_setCell w ⟨b, i, none⟩ u g (by simp; omega)).trans k2, k3⟩
/-- A row of the table, as impl's row gives it. -/
def rowV (g N c : Nat) (z : Int) : Value := .slice (some ⟨g, z.toNat * c, none⟩) c (N - z.toNat * c)

def MeasPost (m n : Nat) (E : Nat → Nat → Bool) (w : World) (e : Ending) (w' : World) : Prop :=
  ∃ g, w.heap.size ≤ g ∧ e = .returned (lenV (n + 1) g ((m + 1) * (n + 1))) ∧ TabM m n E g 0 w' ∧ Below w.heap.size w w'

set_option maxRecDepth 20000 in
set_option maxHeartbeats 8000000 in
theorem measure_any (a1 a2 : Option Addr) (c1 c2 : Nat) (A B : List Nat) (E : Nat → Nat → Bool) (w : World) (hA : IS w a1 A) (hB : IS w a2 B) (hm : A.length ≤ 1500) (hn : B.length ≤ 1500)
    (hE : ∀ i j (hi : i < A.length) (hj : j < B.length), E i j = true ↔ A[i] = B[j]) :
    Calls Try.prog 30 #[.slice a1 A.length c1, .slice a2 B.length c2] w fun e w' => MeasPost A.length B.length E w e w' := by
  obtain ⟨i0, hi, hz0, hz1, hz2⟩ := info_parts Try.infoU16
  obtain ⟨N, hN⟩ : ∃ N, N = (A.length + 1) * (B.length + 1) := ⟨_, rfl⟩
  have hNl : N ≤ 2253001 := by
    rw [hN]
    exact Nat.le_trans (Nat.mul_le_mul (show A.length + 1 ≤ 1501 by omega) (show B.length + 1 ≤ 1501 by omega)) (by decide)
  have hNI : ((A.length : Int) + 1) * ((B.length : Int) + 1) = (N : Int) := by rw [hN]; push_cast; rfl
  have HN : NKeep (N = (A.length + 1) * (B.length + 1)) := ⟨hN⟩
  clear hN
  go_enter Try.func30, Try.ntmps30
  go_wp2_with (at_make; refine wpList_make_full _ rfl _ _ 55 rfl (w.heap.size + 1) 63 i0 _ 1 Try.underlying55 hi hz0 hz1 .i64 .i64 _ _ N rfl rfl rfl rfl (by rw [hz2]; omega) (by unfold maxLen; omega) (by simp) ?_; intro w1 hown1 hgrow1)
  rw [World.size_alloc] at hown1
  have hs1 : w.heap.size + 1 + 1 ≤ w1.heap.size := by have := own_lt hown1 (g := w.heap.size + 1) rfl; omega
  obtain ⟨tb, htb⟩ : ∃ tb, w1.heap.size = tb := ⟨_, rfl⟩
  have hB0 : Below w.heap.size w w1 := ((Below.refl _ _).alloc (Nat.le_refl _) _).grown hgrow1 (by simp) (fun k e => by cases e)
  have hRo : w1.heap[w.heap.size]? = some (.cells #[.int .i64 0, .slice none 0 0] 57) := (hgrow1.block w.heap.size (by simp) (by simp)).trans (heap_alloc_new w _)
  obtain ⟨W0, hW0⟩ : ∃ W0, w1.alloc (.cells #[.int .i64 ((B.length : Int) + 1), .slice (some ⟨w.heap.size + 1, 0, none⟩) N N] 57) = W0 := ⟨_, rfl⟩
  have hWt : W0.heap[tb]? = some (.cells #[.int .i64 ((B.length : Int) + 1), .slice (some ⟨w.heap.size + 1, 0, none⟩) N N] 57) := by rw [← hW0, ← htb]; exact heap_alloc_new w1 _
  have hWr : W0.heap[w.heap.size]? = some (.cells #[.int .i64 0, .slice none 0 0] 57) := by rw [← hW0]; exact (Below.heap_alloc _ _ _ (by omega)).trans hRo
  have hBW : Below w.heap.size w W0 := by rw [← hW0]; exact hB0.alloc hB0.size _
  have hT0 : TabM A.length B.length E (w.heap.size + 1) (A.length * (B.length + 1)) W0 := by
    unfold TabM
    rw [← HN.out, ← cellsF_zero (flat A.length B.length E) N _ (fun k h1 h2 => by
      have hk : k / (B.length + 1) = A.length := by
        rw [HN.out] at h2
        rw [Nat.div_eq_iff (by omega)]
        rw [Nat.add_mul] at h2
        omega
      unfold flat
      rw [hk, lcs_m])]
    have e : (madeCells (Value.int .u16 0).cells (N * 1)).toList = List.replicate N (Value.int .u16 0) := by
      rw [Nat.mul_one]
      exact toList_madeCells_one _ _
    rw [e] at hown1
    rw [← hW0]
    exact hown1.alloc _
  rw [htb]
  rw [hW0]
  have hg0 : W0.grownBy W0 (some (w.heap.size + 1)) := ⟨rfl, rfl, rfl, Nat.le_refl _, fun _ _ _ => rfl⟩
  have htb2 : w.heap.size + 1 < tb := by omega
  have htW : tb < W0.heap.size := (Array.getElem?_eq_some_iff.1 hWt).1
  clear hown1 hgrow1 hB0 hRo hW0 hs1 htb
  go_loopw [6] (fun i wr => ∃ q : Nat, q ≤ A.length ∧ i = .int .i64 ((q : Int) - 1) ∧ NKeep (TabM A.length B.length E (w.heap.size + 1) (q * (B.length + 1)) wr) ∧ NKeep (W0.grownBy wr (some (w.heap.size + 1)))) (fun i _ => (intOf i + 1).toNat)
  case atStart => exact ⟨A.length, Nat.le_refl _, rfl, ⟨hT0⟩, ⟨hg0⟩⟩
  case round =>
    obtain ⟨q, hq, rfl, HT, HG⟩ := hrel
    have hcell : ∀ (W : World), W0.grownBy W (some (w.heap.size + 1)) → (W.cell? ⟨tb, 0, none⟩ = some (.int .i64 ((B.length : Int) + 1)) ∧ W.cell? ⟨tb, 1, none⟩ = some (.slice (some ⟨w.heap.size + 1, 0, none⟩) N N) ∧ W.cell? ⟨w.heap.size, 0, none⟩ = some (.int .i64 0) ∧ W.cell? ⟨w.heap.size, 1, none⟩ = some (.slice none 0 0) ∧ W.frozen? ⟨w.heap.size, 0, none⟩ = false ∧ W.frozen? ⟨w.heap.size, 1, none⟩ = false) := fun W hg => by
      have e1 := (hg.block tb htW (by simp; omega)).trans hWt
      have e2 := (hg.block w.heap.size (by omega) (by simp)).trans hWr
      simp [World.cell?, World.frozen?, e1, e2]
    have hbel : ∀ (W : World), W0.grownBy W (some (w.heap.size + 1)) → Below w.heap.size w W := fun W hg => hBW.grown hg hBW.size (fun k e => by cases e; omega)
    rcases Nat.eq_zero_or_pos q with h0 | h0
    · subst h0
      obtain ⟨x0, x1, x2, x3, x4, x5⟩ := hcell wr HG.out
      go_wp2
      refine bodyPost_ret (v := lenV (B.length + 1) (w.heap.size + 1) N) ?_ rfl ?_
      · have z0 : (wr.setCell ⟨w.heap.size, 0, none⟩ (.int .i64 ((B.length : Int) + 1))).cell? ⟨w.heap.size, 0, none⟩ = some (.int .i64 ((B.length : Int) + 1)) := World.cell?_setCell_same' _ _ _ (by rw [x2]; rfl)
        obtain ⟨v1, hv1⟩ := cell?_setCell_some (p := ⟨w.heap.size, 0, none⟩) (x := .int .i64 ((B.length : Int) + 1)) x3
        have z1 : ((wr.setCell ⟨w.heap.size, 0, none⟩ (.int .i64 ((B.length : Int) + 1))).setCell ⟨w.heap.size, 1, none⟩ (.slice (some ⟨w.heap.size + 1, 0, none⟩) N N)).cell? ⟨w.heap.size, 1, none⟩ = some (.slice (some ⟨w.heap.size + 1, 0, none⟩) N N) := World.cell?_setCell_same' _ _ _ (by rw [hv1]; rfl)
        simp [results, Try.f30, go_sem, lenV, z0, z1, Result.andThen]
      · refine ⟨w.heap.size + 1, by omega, by rw [HN.out], ?_, ?_⟩
        · have h := HT.out
          rw [Nat.zero_mul] at h
          exact row_else (row_else h (by omega) _) (by omega) _
        · exact ((hbel wr HG.out).setCell (p := ⟨w.heap.size, 0, none⟩) (Nat.le_refl _) _).setCell (p := ⟨w.heap.size, 1, none⟩) (Nat.le_refl _) _
    · obtain ⟨p, rfl⟩ : ∃ p, q = p + 1 := ⟨q - 1, by omega⟩
      obtain ⟨x0, x1, x2, x3, x4, x5⟩ := hcell wr HG.out
      have hrw : ∀ (i : Nat) (W : World), i ≤ A.length → Calls Try.prog 36 #[.agg #[.int .i64 ((B.length : Int) + 1), .slice (some ⟨w.heap.size + 1, 0, none⟩) N N], .int .i64 (i : Int)] W fun e w' => e = .returned (.slice (some ⟨w.heap.size + 1, i * (B.length + 1), none⟩) (B.length + 1) (N - i * (B.length + 1))) ∧ Below W.heap.size W w' := fun i W hi => by
        have := row_any (B.length + 1) (w.heap.size + 1) N i W (by omega) (by rw [HN.out]; exact Nat.mul_le_mul_right _ (by omega)) (by omega)
        exact this
      rw [show (((p + 1 : Nat) : Int) - 1) = (p : Int) by omega]
      have HX : ∀ x : Later wr, x.world.cell? ⟨tb, 0, none⟩ = some (.int .i64 ((B.length : Int) + 1)) ∧ x.world.cell? ⟨tb, 1, none⟩ = some (.slice (some ⟨w.heap.size + 1, 0, none⟩) N N) := fun x => ⟨cell_later x.kept x0, cell_later x.kept x1⟩
      have hx0 := fun x => (HX x).1
      have hx1 := fun x => (HX x).2
      have HC : NKeep (∀ (x : Later wr) (z : Int), 0 ≤ z → z ≤ A.length → Calls Try.prog 36 #[.agg #[.int .i64 ((B.length : Int) + 1), .slice (some ⟨w.heap.size + 1, 0, none⟩) N N], .int .i64 z] x.world fun e w'' => e = .returned (rowV (w.heap.size + 1) N (B.length + 1) z) ∧ ∃ y : Later wr, w'' = y.world) := ⟨fun x z h1 h2 => by
        obtain ⟨k, rfl⟩ := Int.eq_ofNat_of_zero_le h1
        exact x.call (hrw k x.world (by omega))⟩
      clear HX hrw x0 x1 x2 x3 x4 x5
      go_wp2
      (haveI := later_any; refine wp_region_later (by kernel_rfl) (by kernel_rfl) ?_; (repeat (go_big_quiet_step ((go_at_call 36; exact HC.out _ _ (by omega) (by omega))))); refine wpQuiet_nil ?_; intro _ hwq; obtain ⟨xq, hwq2⟩ := hwq; subst hwq2)
      obtain ⟨P1, hP1⟩ : ∃ P1, P1 = p * (B.length + 1) := ⟨_, rfl⟩
      have hP2 : (p + 1) * (B.length + 1) = P1 + (B.length + 1) := by rw [Nat.add_mul, Nat.one_mul, hP1]
      have hPN : P1 + (B.length + 1) + (B.length + 1) ≤ N := by
        rw [HN.out, hP1]
        have : (p + 1 + 1) * (B.length + 1) ≤ (A.length + 1) * (B.length + 1) := Nat.mul_le_mul_right _ (by omega)
        rw [Nat.add_mul, Nat.add_mul, Nat.one_mul] at this
        omega
      have hv1 : rowV (w.heap.size + 1) N (B.length + 1) (p : Int) = .slice (some ⟨w.heap.size + 1, P1, none⟩) (B.length + 1) (N - P1) := by unfold rowV; rw [Int.toNat_natCast, hP1]
      have hv2 : rowV (w.heap.size + 1) N (B.length + 1) ((p : Int) + 1) = .slice (some ⟨w.heap.size + 1, P1 + (B.length + 1), none⟩) (B.length + 1) (N - (P1 + (B.length + 1))) := by
        unfold rowV
        rw [show ((p : Int) + 1).toNat = p + 1 by omega, hP2]
      rw [hv1, hv2]
      have HPP : NKeep (P1 = p * (B.length + 1) ∧ (p + 1) * (B.length + 1) = P1 + (B.length + 1)) := ⟨hP1, hP2⟩
      have HT1 : NKeep (TabM A.length B.length E (w.heap.size + 1) (P1 + B.length) xq.world) := ⟨by
        have h := HT.out
        unfold TabM at h ⊢
        rw [hP2, ← Nat.add_assoc, cellsF_skip _ _ _ (by rw [hP1, flat_at _ _ _ _ _ (Nat.le_refl _), lcs_n])] at h
        exact owns_below h xq.kept⟩
      have HG1 : NKeep (W0.grownBy xq.world (some (w.heap.size + 1))) := ⟨grown_then HG.out (⟨xq.kept.os, xq.kept.tape, xq.kept.output, xq.kept.size, fun k hk _ => xq.kept.block k hk⟩ : wr.grownBy xq.world none) (fun g e => by cases e)⟩
      clear hv1 hv2 HC hx0 hx1 hP1 hP2
      generalize xq.world = wq at *
      go_wp2
      go_loopw [9] (fun j wi => ∃ r : Nat, r ≤ B.length ∧ j = .int .i64 ((r : Int) - 1) ∧ NKeep (TabM A.length B.length E (w.heap.size + 1) (P1 + r) wi) ∧ NKeep (W0.grownBy wi (some (w.heap.size + 1)))) (fun j _ => (intOf j + 1).toNat)
      case atStart => exact ⟨B.length, Nat.le_refl _, rfl, HT1, HG1⟩
      case round =>
        obtain ⟨r, hr, rfl, HTi, HGi⟩ := hrel
        rcases Nat.eq_zero_or_pos r with h0 | h0
        · subst h0
          go_wp2
          go_roundw
          case rel => exact ⟨p, by omega, by go_num, ⟨by have := HTi.out; rw [HPP.out.1] at this; exact this⟩, HGi⟩
          case measure => simp [intOf]
        · obtain ⟨s, rfl⟩ : ∃ s, r = s + 1 := ⟨r - 1, by omega⟩
          rw [show (((s + 1 : Nat) : Int) - 1) = (s : Int) by omega]
          have hbl := hbel wr HGi.out
          obtain ⟨b1, o1, rfl, d1⟩ := hA.at (k := p) (by omega)
          obtain ⟨b2, o2, rfl, d2⟩ := hB.at (k := s) (by omega)
          have y1 := cell_later hbl (d1 p (by omega))
          have y2 := cell_later hbl (d2 s (by omega))
          have t1 : wr.cell? ⟨w.heap.size + 1, P1 + (B.length + 1) + (s + 1), none⟩ = some (.int .u16 ((lcs A.length B.length E (p + 1) (s + 1) : Nat) : Int)) := by
            have := HTi.out.cell (i := p + 1) (j := s + 1) (by omega) (by omega) (by rw [HPP.out.2]; omega)
            rwa [HPP.out.2] at this
          have t2 : wr.cell? ⟨w.heap.size + 1, P1 + (B.length + 1) + s, none⟩ = some (.int .u16 ((lcs A.length B.length E (p + 1) s : Nat) : Int)) := by
            have := HTi.out.cell (i := p + 1) (j := s) (by omega) (by omega) (by rw [HPP.out.2]; omega)
            rwa [HPP.out.2] at this
          have t3 : wr.cell? ⟨w.heap.size + 1, P1 + (s + 1), none⟩ = some (.int .u16 ((lcs A.length B.length E p (s + 1) : Nat) : Int)) := by
            have := HTi.out.cell (i := p) (j := s + 1) (by omega) (by omega) (by rw [← HPP.out.1]; exact Nat.le_refl _)
            rwa [← HPP.out.1] at this
          have f0 : wr.frozen? ⟨w.heap.size + 1, P1 + s, none⟩ = false := World.ownsRow.frozenAt HTi.out (P1 + s)
          obtain ⟨u0, t0⟩ : ∃ u, wr.cell? ⟨w.heap.size + 1, P1 + s, none⟩ = some u := by
            refine ⟨_, (World.ownsRow.cellAt HTi.out (P1 + s) (by rw [← HN.out]; omega)).trans (cellsF_get _ (by rw [← HN.out]; omega))⟩
          have hst : TabM A.length B.length E (w.heap.size + 1) (P1 + s) (wr.setCell ⟨w.heap.size + 1, P1 + s, none⟩ (.int .u16 ((lcs A.length B.length E p s : Nat) : Int))) := by
            have := (World.ownsRow.stored HTi.out (P1 + s) (.int .u16 ((lcs A.length B.length E p s : Nat) : Int))).1
            rw [show P1 + (s + 1) = P1 + s + 1 by omega, show lcs A.length B.length E p s = flat A.length B.length E (P1 + s) by rw [HPP.out.1, flat_at _ _ _ _ _ (by omega)], cellsF_set] at this
            rw [show lcs A.length B.length E p s = flat A.length B.length E (P1 + s) by rw [HPP.out.1, flat_at _ _ _ _ _ (by omega)]]
            exact this
          have HST : NKeep (∀ v, v = Value.int .u16 ((lcs A.length B.length E p s : Nat) : Int) → TabM A.length B.length E (w.heap.size + 1) (P1 + s) (wr.setCell ⟨w.heap.size + 1, P1 + s, none⟩ v)) := ⟨fun v hv => by rw [hv]; exact hst⟩
          have HGs : NKeep (∀ v, W0.grownBy (wr.setCell ⟨w.heap.size + 1, P1 + s, none⟩ v) (some (w.heap.size + 1))) := ⟨fun v => grown_then HGi.out (⟨rfl, rfl, rfl, by simp, fun k _ hne => Below.heap_setCell wr _ v k fun e => hne (by rw [e])⟩ : wr.grownBy (wr.setCell ⟨w.heap.size + 1, P1 + s, none⟩ v) (some (w.heap.size + 1))) (fun g e => .inl e)⟩
          have l1 := lcs_le1 A.length B.length E (p + 1) (s + 1)
          have HE := hE p s (by omega) (by omega)
          have HLS := lcs_step E (show p < A.length by omega) (show s < B.length by omega)
          clear hst d1 d2
          by_cases he : E p s = true
          · rw [if_pos he] at HLS
            have hab := HE.1 he
            have habI : ((A[p] : Nat) : Int) = ((B[s] : Nat) : Int) := by rw [hab]
            have HL : NKeep (lcs A.length B.length E p s = lcs A.length B.length E (p + 1) (s + 1) + 1) := ⟨HLS⟩
            clear HE HLS he hab hE
            generalize lcs A.length B.length E (p + 1) (s + 1) = L1 at *
            have hw1 : IntKind.u16.wrap ((L1 : Int) + 1) = (L1 : Int) + 1 := by rw [show ∀ z, IntKind.u16.wrap z = z % 65536 from fun _ => rfl]; omega
            go_wp2
            go_region
            all_goals (try go_wp2)
            go_roundw
            case rel => exact ⟨s, by omega, by go_num, ⟨HST.out _ (by rw [HL.out]; rfl)⟩, ⟨(HGs.out _).draw⟩⟩
            case measure => simp [intOf]
          · rw [if_neg he] at HLS
            have hab : ¬ ((A[p] : Nat) : Int) = ((B[s] : Nat) : Int) := fun h => he (HE.2 (by omega))
            have hab' : (((A[p] : Nat) : Int) == ((B[s] : Nat) : Int)) = false := by simpa using hab
            have HL : NKeep (lcs A.length B.length E p s = max (lcs A.length B.length E (p + 1) s) (lcs A.length B.length E p (s + 1))) := ⟨HLS⟩
            clear HE HLS he hE t1
            generalize lcs A.length B.length E (p + 1) s = L2 at *
            generalize lcs A.length B.length E p (s + 1) = L3 at *
            go_wp2
            go_region
            all_goals (try go_wp2)
            go_region
            all_goals (try go_wp2)
            go_roundw
            case rel => exact ⟨s, by omega, by go_num, ⟨HST.out _ (by rw [HL.out]; split <;> (congr 1; omega))⟩, ⟨(HGs.out _).draw.draw⟩⟩
            case measure => simp [intOf]
end Go.Proofs.Ytobgfogafkeieaa
