/-
  spec.l7Table.
-/
import Derived.Test.YtobgfogafkeieaaCommI
namespace Go.Proofs.Ytobgfogafkeieaa
open Go.RowKit

/-- A row's cells, those from K on filled. -/
def rowC (f : Nat → Nat) (N K : Nat) : List Value := (List.range N).map fun k => Value.int .i64 ((if K ≤ k then f k else 0 : Nat) : Int)
theorem rowC_len (fl : Nat → Nat) (N K : Nat) : (rowC fl N K).length = N := by simp [rowC]
theorem rowC_get (fl : Nat → Nat) {N K k : Nat} (h : k < N) : (rowC fl N K)[k]? = some (.int .i64 ((if K ≤ k then fl k else 0 : Nat) : Int)) := by simp [rowC, h]
theorem rowC_set (fl : Nat → Nat) (N k : Nat) : (rowC fl N (k + 1)).set k (.int .i64 ((fl k : Nat) : Int)) = rowC fl N k := by
  apply List.ext_getElem?
  intro i
  by_cases hi : i < N
  · rw [List.getElem?_set, rowC_get fl hi, rowC_get fl hi, rowC_len]
    by_cases e : k = i
    · subst e; simp [hi]
    · rw [if_neg e]
      by_cases h2 : k + 1 ≤ i
      · rw [if_pos h2, if_pos (by omega)]
      · rw [if_neg h2, if_neg (by omega)]
  · rw [List.getElem?_eq_none (by simp [rowC]; omega), List.getElem?_eq_none (by simp [rowC]; omega)]
theorem rowC_zero (fl : Nat → Nat) (N K : Nat) (h : ∀ k, K ≤ k → k < N → fl k = 0) : List.replicate N (Value.int .i64 0) = rowC fl N K := by
  apply List.ext_getElem?
  intro i
  by_cases hi : i < N
  · rw [rowC_get fl hi, List.getElem?_replicate, if_pos hi]
    by_cases h2 : K ≤ i
    · rw [if_pos h2, h i h2 hi]; rfl
    · rw [if_neg h2]; rfl
  · rw [List.getElem?_eq_none (by simp; omega), List.getElem?_eq_none (by simp [rowC]; omega)]

def rowS (b n : Nat) : Value := .slice (some ⟨b, 0, none⟩) n n
/-- The rows of a table, those from K on made. -/
def topC (ρ : Nat → Nat) (n N K : Nat) : List Value := (List.range N).map fun k => if K ≤ k then rowS (ρ k) n else .slice none 0 0
theorem topC_len (ρ : Nat → Nat) (n N K : Nat) : (topC ρ n N K).length = N := by simp [topC]
theorem topC_get (ρ : Nat → Nat) {n N K k : Nat} (h : k < N) : (topC ρ n N K)[k]? = some (if K ≤ k then rowS (ρ k) n else .slice none 0 0) := by simp [topC, h]
theorem topC_set (ρ : Nat → Nat) (n N k b : Nat) : (topC ρ n N (k + 1)).set k (rowS b n) = topC (fun i => if i = k then b else ρ i) n N k := by
  apply List.ext_getElem?
  intro i
  by_cases hi : i < N
  · rw [List.getElem?_set, topC_get _ hi, topC_get _ hi, topC_len]
    by_cases e : k = i
    · subst e; simp [hi]
    · rw [if_neg e]
      by_cases h2 : k + 1 ≤ i
      · rw [if_pos h2, if_pos (by omega), if_neg (fun h => e h.symm)]
      · rw [if_neg h2, if_neg (by omega)]
  · rw [List.getElem?_eq_none (by simp [topC]; omega), List.getElem?_eq_none (by simp [topC]; omega)]

/-- The table in memory, rows from q on. -/
structure TabQ (m n : Nat) (E : Nat → Nat → Bool) (g q : Nat) (ρ : Nat → Nat) (w : World) : Prop where
  top : w.ownsRow g 48 1 (rowS g (m + 1)) (m + 1) (topC ρ (n + 1) (m + 1) q)
  rows : ∀ i, q ≤ i → i ≤ m → w.ownsRow g 3 1 (rowS (ρ i) (n + 1)) (n + 1) (rowC (lcs m n E i) (n + 1) 0)
  apart : ∀ i, q ≤ i → i ≤ m → g < ρ i ∧ ρ i < w.heap.size

theorem TabQ.size {m n : Nat} {E : Nat → Nat → Bool} {g q : Nat} {ρ : Nat → Nat} {w : World} (h : TabQ m n E g q ρ w) : g < w.heap.size := own_lt h.top rfl
theorem TabQ.cellT {m n : Nat} {E : Nat → Nat → Bool} {g q : Nat} {ρ : Nat → Nat} {w : World} (h : TabQ m n E g q ρ w) {i : Nat} (h1 : q ≤ i) (h2 : i ≤ m) : w.cell? ⟨g, i, none⟩ = some (rowS (ρ i) (n + 1)) := by
  rw [World.ownsRow.cellAt h.top i (by omega), topC_get _ (by omega), if_pos h1]
theorem TabQ.cellR {m n : Nat} {E : Nat → Nat → Bool} {g q : Nat} {ρ : Nat → Nat} {w : World} (h : TabQ m n E g q ρ w) {i j : Nat} (h1 : q ≤ i) (h2 : i ≤ m) (h3 : j ≤ n) : w.cell? ⟨ρ i, j, none⟩ = some (.int .i64 ((lcs m n E i j : Nat) : Int)) := by
  rw [World.ownsRow.cellAt (h.rows i h1 h2) j (by omega), rowC_get _ (by omega), if_pos (Nat.zero_le _)]
/-- A table that is read. -/
def TabR (m n : Nat) (E : Nat → Nat → Bool) (g : Nat) (ρ : Nat → Nat) (w : World) : Prop :=
  ∀ i, i ≤ m → w.cell? ⟨g, i, none⟩ = some (rowS (ρ i) (n + 1)) ∧ ∀ j, j ≤ n → w.cell? ⟨ρ i, j, none⟩ = some (.int .i64 ((lcs m n E i j : Nat) : Int))
theorem TabR.below {m n : Nat} {E : Nat → Nat → Bool} {g : Nat} {ρ : Nat → Nat} {w w' : World} (h : TabR m n E g ρ w) (hb : Below w.heap.size w w') : TabR m n E g ρ w' :=
  fun i hi => ⟨cell_later hb (h i hi).1, fun j hj => cell_later hb ((h i hi).2 j hj)⟩

def TabPost (m n : Nat) (E : Nat → Nat → Bool) (w : World) (e : Ending) (w' : World) : Prop :=
  ∃ g ρ, w.heap.size ≤ g ∧ (∀ i, i ≤ m → w.heap.size ≤ ρ i) ∧ e = .returned (rowS g (m + 1)) ∧ TabR m n E g ρ w' ∧ Below w.heap.size w w'

theorem Try.infoRow : (Try.prog.info? 48).map (fun i => (i.zero, i.size, i.bytes)) = some (some (.slice none 0 0), 1, 24) := by kernel_rfl

theorem row_else2 {w w' : World} {base : Nat} {e : TypeId} {size : Nat} {n c b r : Nat} {xs : List Value} (h : w.ownsRow base e size (.slice (some ⟨b, 0, none⟩) n c) n xs) (hg : w.grownBy w' (some r)) (hne : b ≠ r) : w'.ownsRow base e size (.slice (some ⟨b, 0, none⟩) n c) n xs :=
  h.kept hg (.inr (fun e => hne (by simpa [Value.ownBlock] using e)))

set_option maxRecDepth 20000 in
set_option maxHeartbeats 8000000 in
theorem l7Table_any (a1 a2 : Option Addr) (c1 c2 : Nat) (ss tt : List ByteArray) (w : World) (h1 : SS w a1 ss) (h2 : SS w a2 tt) (hm : ss.length ≤ 1500) (hn : tt.length ≤ 1500) :
    Calls Try.prog 26 #[.slice a1 ss.length c1, .slice a2 tt.length c2] w fun e w' => TabPost ss.length tt.length (eqL ss tt) w e w' := by
  obtain ⟨ti, hti, hz0, hz1, hz2⟩ := info_parts Try.infoInt
  obtain ⟨tj, htj, hy0, hy1, hy2⟩ := info_parts Try.infoRow
  obtain ⟨M, hM⟩ : ∃ M, M = ss.length + 1 := ⟨_, rfl⟩
  obtain ⟨C, hC⟩ : ∃ C, C = tt.length + 1 := ⟨_, rfl⟩
  have hMI : (ss.length : Int) + 1 = (M : Int) := by omega
  have hCI : (tt.length : Int) + 1 = (C : Int) := by omega
  have HM : NKeep (M = ss.length + 1) := ⟨hM⟩
  have HC : NKeep (C = tt.length + 1) := ⟨hC⟩
  have hM1 : ss.length < M := by omega
  have hM2 : M ≤ 1501 := by omega
  have hC1 : tt.length < C := by omega
  have hC2 : C ≤ 1501 := by omega
  clear hM hC
  have ez : ∀ N, (madeCells (Value.int .i64 0).cells (N * 1)).toList = List.replicate N (Value.int .i64 0) := fun N => by rw [Nat.mul_one]; exact toList_madeCells_one _ _
  have ey : ∀ N, (madeCells (Value.slice none 0 0).cells (N * 1)).toList = List.replicate N (Value.slice none 0 0) := fun N => by rw [Nat.mul_one]; exact toList_madeCells_one _ _
  go_enter Try.func26, Try.ntmps26
  have tok1 : True := trivial
  go_wp2_with (first
    | (at_make; have _t := tok1; refine wpList_make_full _ rfl _ _ 46 rfl w.heap.size 48 tj _ 1 Try.underlying46 htj hy0 hy1 .i64 .i64 _ _ M rfl rfl rfl rfl (by rw [hy2]; omega) (by unfold maxLen; omega) (Nat.le_refl _) ?_; intro w1 hown1 hgrow1; clear tok1; have hs1 := hgrow1.size)
    | (at_make; refine wpList_make_full _ rfl _ _ 48 rfl w.heap.size 3 ti _ 1 Try.underlying48 hti hz0 hz1 .i64 .i64 _ _ C rfl rfl rfl rfl (by rw [hz2]; omega) (by unfold maxLen; omega) hs1 ?_; intro w2 hown2 hgrow2
       have ho1 := hown1.kept hgrow2 (.inr (by simp [Value.ownBlock]))
       have hf1 := ho1.frozenAt ss.length
       obtain ⟨u1, hu1⟩ : ∃ u, w2.cell? ⟨w.heap.size, ss.length, none⟩ = some u := ⟨_, (ho1.cellAt ss.length (by omega)).trans (List.getElem?_eq_getElem (by rw [ho1.1]; omega))⟩))
  have hB2 : Below w.heap.size w w2 := ((Below.refl _ _).grown hgrow1 (Nat.le_refl _) (fun k e => by cases e)).grown hgrow2 hs1 (fun k e => by cases e)
  have hs2 := own_lt hown2 (g := w1.heap.size) rfl
  have hlt1 : w.heap.size < w1.heap.size := own_lt hown1 rfl
  have hQ0 : TabQ ss.length tt.length (eqL ss tt) w.heap.size ss.length (fun _ => w1.heap.size) (w2.setCell ⟨w.heap.size, ss.length, none⟩ (.slice (some ⟨w1.heap.size, 0, none⟩) C C)) := by
    rw [ey] at ho1
    rw [ez] at hown2
    rw [HM.out] at ho1
    rw [HC.out] at hown2 ⊢
    refine ⟨?_, fun i hi1 hi2 => ?_, fun i hi1 hi2 => ⟨hlt1, by simp; exact hs2⟩⟩
    · have h := (ho1.stored ss.length (rowS w1.heap.size (tt.length + 1))).1
      have e : List.replicate (ss.length + 1) (Value.slice none 0 0) = topC (fun _ => w1.heap.size) (tt.length + 1) (ss.length + 1) (ss.length + 1) := by
        apply List.ext_getElem?
        intro k
        by_cases hk : k < ss.length + 1
        · rw [topC_get _ hk, List.getElem?_replicate, if_pos hk, if_neg (by omega)]
        · rw [List.getElem?_eq_none (by simp; omega), List.getElem?_eq_none (by simp [topC]; omega)]
      rw [e, topC_set] at h
      have e2 : (fun i : Nat => if i = ss.length then w1.heap.size else w1.heap.size) = fun _ => w1.heap.size := by funext i; split <;> rfl
      rw [e2] at h
      exact h
    · obtain rfl : i = ss.length := by omega
      rw [rowC_zero (lcs ss.length tt.length (eqL ss tt) ss.length) _ 0 (fun k _ _ => lcs_m _ _ _ _)] at hown2
      exact row_else2 (r := w.heap.size) hown2 ⟨rfl, rfl, rfl, by simp, fun k _ hne => Below.heap_setCell w2 _ _ k fun e => hne (by rw [e])⟩ (by omega)
  have hBW : Below w.heap.size w (w2.setCell ⟨w.heap.size, ss.length, none⟩ (.slice (some ⟨w1.heap.size, 0, none⟩) C C)) := hB2.setCell (p := ⟨w.heap.size, ss.length, none⟩) (Nat.le_refl _) _
  generalize w2.setCell ⟨w.heap.size, ss.length, none⟩ (.slice (some ⟨w1.heap.size, 0, none⟩) C C) = W0 at *
  generalize w1.heap.size = r0 at *
  clear hown1 hgrow1 ho1 hf1 hu1 hs1 hown2 hgrow2 hs2 hB2 hlt1
  go_loopw [6] (fun i wr => ∃ (q : Nat) (ρ : Nat → Nat), q ≤ ss.length ∧ i = .int .i64 ((q : Int) - 1) ∧ NKeep (TabQ ss.length tt.length (eqL ss tt) w.heap.size q ρ wr) ∧ NKeep (Below w.heap.size w wr)) (fun i _ => (intOf i + 1).toNat)
  case atStart => exact ⟨ss.length, _, Nat.le_refl _, rfl, ⟨hQ0⟩, ⟨hBW⟩⟩
  case round =>
    obtain ⟨q, ρ, hq, rfl, HQ, HB⟩ := hrel
    rcases Nat.eq_zero_or_pos q with h0 | h0
    · subst h0
      go_wp2
      go_ret
      refine ⟨w.heap.size, ρ, Nat.le_refl _, fun i hi => by have := (HQ.out.apart i (Nat.zero_le _) hi).1; omega, by rw [HM.out]; rfl, fun i hi => ⟨HQ.out.cellT (Nat.zero_le _) hi, fun j hj => HQ.out.cellR (Nat.zero_le _) hi hj⟩, HB.out⟩
    · obtain ⟨p, rfl⟩ : ∃ p, q = p + 1 := ⟨q - 1, by omega⟩
      rw [show (((p + 1 : Nat) : Int) - 1) = (p : Int) by omega]
      have hgs := HQ.out.size
      have hpM : p < M := by omega
      go_wp2_with (at_make; refine wpList_make_full _ rfl _ _ 48 rfl w.heap.size 3 ti _ 1 Try.underlying48 hti hz0 hz1 .i64 .i64 _ _ C rfl rfl rfl rfl (by rw [hz2]; omega) (by unfold maxLen; omega) (by omega) ?_; intro w4 hown4 hgrow4
                   have ht4 := HQ.out.top.kept hgrow4 (.inr (by simp [rowS, Value.ownBlock]))
                   have hf4 : w4.frozen? ⟨w.heap.size, p, none⟩ = false := World.ownsRow.frozenAt ht4 p
                   obtain ⟨u4, hu4⟩ : ∃ u, w4.cell? ⟨w.heap.size, p, none⟩ = some u := ⟨_, (World.ownsRow.cellAt ht4 p (by omega)).trans (List.getElem?_eq_getElem (by rw [ht4.1]; omega))⟩)
      obtain ⟨rb, hrb⟩ : ∃ rb, wr.heap.size = rb := ⟨_, rfl⟩
      rw [hrb] at hown4
      rw [hrb]
      have hrb4 : rb < w4.heap.size := own_lt hown4 rfl
      have hgrb : w.heap.size < rb := by omega
      obtain ⟨W1, hW1⟩ : ∃ W1, w4.setCell ⟨w.heap.size, p, none⟩ (.slice (some ⟨rb, 0, none⟩) C C) = W1 := ⟨_, rfl⟩
      have hgS : w4.grownBy W1 (some w.heap.size) := by rw [← hW1]; exact ⟨rfl, rfl, rfl, by simp, fun k _ hne => Below.heap_setCell w4 _ _ k fun e => hne (by rw [e])⟩
      have hQ1 : TabQ ss.length tt.length (eqL ss tt) w.heap.size (p + 1) ρ w4 := ⟨ht4, fun i h1 h2 => (HQ.out.rows i h1 h2).kept hgrow4 (.inr (by simp [rowS, Value.ownBlock])), fun i h1 h2 => ⟨(HQ.out.apart i h1 h2).1, by have := (HQ.out.apart i h1 h2).2; have := hgrow4.size; omega⟩⟩
      have HTop : NKeep (W1.ownsRow w.heap.size 48 1 (rowS w.heap.size (ss.length + 1)) (ss.length + 1) (topC (fun i => if i = p then rb else ρ i) (tt.length + 1) (ss.length + 1) p)) := ⟨by
        have h := (World.ownsRow.stored ht4 p (rowS rb (tt.length + 1))).1
        rw [topC_set] at h
        rw [← hW1, HC.out]
        exact h⟩
      have HRows : NKeep (∀ i, p + 1 ≤ i → i ≤ ss.length → W1.ownsRow w.heap.size 3 1 (rowS (ρ i) (tt.length + 1)) (tt.length + 1) (rowC (lcs ss.length tt.length (eqL ss tt) i) (tt.length + 1) 0) ∧ w.heap.size < ρ i ∧ ρ i < rb) := ⟨fun i h1 h2 => by
        have ha := HQ.out.apart i h1 h2
        exact ⟨row_else2 (hQ1.rows i h1 h2) hgS (by omega), ha.1, by omega⟩⟩
      have HNew : NKeep (W1.ownsRow w.heap.size 3 1 (rowS rb (tt.length + 1)) (tt.length + 1) (rowC (lcs ss.length tt.length (eqL ss tt) p) (tt.length + 1) tt.length)) := ⟨by
        have h := hown4
        rw [ez, HC.out, rowC_zero (lcs ss.length tt.length (eqL ss tt) p) _ tt.length (fun k k1 k2 => by rw [show k = tt.length by omega]; exact lcs_n _ _ _ _)] at h
        exact row_else2 h hgS (by omega)⟩
      have HB1 : NKeep (Below w.heap.size w W1) := ⟨by rw [← hW1]; exact (HB.out.grown hgrow4 (by omega) (fun k e => by cases e)).setCell (p := ⟨w.heap.size, p, none⟩) (Nat.le_refl _) _⟩
      have hW1s : rb < W1.heap.size := by rw [← hW1]; simpa using hrb4
      rw [hW1]
      clear hown4 hgrow4 ht4 hf4 hu4 hQ1 HQ HB hW1 hgS hrb4 hgs
      go_loopw [7] (fun j wr => ∃ r : Nat, r ≤ tt.length ∧ j = .int .i64 ((r : Int) - 1) ∧ NKeep (W1.grownBy wr (some rb)) ∧ NKeep (wr.ownsRow w.heap.size 3 1 (rowS rb (tt.length + 1)) (tt.length + 1) (rowC (lcs ss.length tt.length (eqL ss tt) p) (tt.length + 1) r))) (fun j _ => (intOf j + 1).toNat)
      case atStart => exact ⟨tt.length, Nat.le_refl _, rfl, ⟨⟨rfl, rfl, rfl, Nat.le_refl _, fun _ _ _ => rfl⟩⟩, HNew⟩
      case round =>
        obtain ⟨r, hr, rfl, HG, HR⟩ := hrel
        rcases Nat.eq_zero_or_pos r with h0 | h0
        · subst h0
          have HQ2 : NKeep (TabQ ss.length tt.length (eqL ss tt) w.heap.size p (fun i => if i = p then rb else ρ i) wr) := ⟨by
            refine ⟨row_else2 HTop.out HG.out (by omega), fun i h1 h2 => ?_, fun i h1 h2 => ?_⟩
            · by_cases e : i = p
              · subst e; simp only [if_true]; exact HR.out
              · rw [if_neg e]
                obtain ⟨k1, k2, k3⟩ := HRows.out i (by omega) h2
                exact row_else2 k1 HG.out (by omega)
            · have := HG.out.size
              by_cases e : i = p
              · subst e; simp only [if_true]; omega
              · rw [if_neg e]
                obtain ⟨k1, k2, k3⟩ := HRows.out i (by omega) h2
                omega⟩
          have HB2 : NKeep (Below w.heap.size w wr) := ⟨HB1.out.grown HG.out HB1.out.size (fun k e => by cases e; omega)⟩
          go_wp2
          go_roundw
          case rel => exact ⟨p, _, by omega, by go_num, HQ2, HB2⟩
          case measure => simp [intOf]
        · obtain ⟨s, rfl⟩ : ∃ s, r = s + 1 := ⟨r - 1, by omega⟩
          rw [show (((s + 1 : Nat) : Int) - 1) = (s : Int) by omega]
          have hbl : Below w.heap.size w wr := HB1.out.grown HG.out HB1.out.size (fun k e => by cases e; omega)
          obtain ⟨b1, o1, rfl, d1⟩ := h1.at (k := p) (by omega)
          obtain ⟨b2, o2, rfl, d2⟩ := h2.at (k := s) (by omega)
          have y1 := cell_later hbl (d1 p (by omega))
          have y2 := cell_later hbl (d2 s (by omega))
          obtain ⟨k1, k2, k3⟩ := HRows.out (p + 1) (Nat.le_refl _) (by omega)
          have hR1 := row_else2 k1 HG.out (by omega)
          have hT1 := row_else2 HTop.out HG.out (by omega)
          obtain ⟨r1, hr1⟩ : ∃ r1, ρ (p + 1) = r1 := ⟨_, rfl⟩
          have g1 : wr.cell? ⟨w.heap.size, p + 1, none⟩ = some (.slice (some ⟨r1, 0, none⟩) C C) := by
            rw [World.ownsRow.cellAt hT1 (p + 1) (by omega), topC_get _ (by omega), if_pos (by omega), if_neg (by omega), hr1, HC.out]; rfl
          have g2 : wr.cell? ⟨w.heap.size, p, none⟩ = some (.slice (some ⟨rb, 0, none⟩) C C) := by
            rw [World.ownsRow.cellAt hT1 p (by omega), topC_get _ (by omega), if_pos (by omega), if_pos rfl, HC.out]; rfl
          have x1 : wr.cell? ⟨r1, s, none⟩ = some (.int .i64 ((lcs ss.length tt.length (eqL ss tt) (p + 1) s : Nat) : Int)) := by
            rw [← hr1, World.ownsRow.cellAt hR1 s (by omega), rowC_get _ (by omega), if_pos (Nat.zero_le _)]
          have x2 : wr.cell? ⟨r1, s + 1, none⟩ = some (.int .i64 ((lcs ss.length tt.length (eqL ss tt) (p + 1) (s + 1) : Nat) : Int)) := by
            rw [← hr1, World.ownsRow.cellAt hR1 (s + 1) (by omega), rowC_get _ (by omega), if_pos (Nat.zero_le _)]
          have x3 : wr.cell? ⟨rb, s + 1, none⟩ = some (.int .i64 ((lcs ss.length tt.length (eqL ss tt) p (s + 1) : Nat) : Int)) := by
            rw [World.ownsRow.cellAt HR.out (s + 1) (by omega), rowC_get _ (by omega), if_pos (Nat.le_refl _)]
          have f0 : wr.frozen? ⟨rb, s, none⟩ = false := World.ownsRow.frozenAt HR.out s
          obtain ⟨u0, t0⟩ : ∃ u, wr.cell? ⟨rb, s, none⟩ = some u := ⟨_, (World.ownsRow.cellAt HR.out s (by omega)).trans (rowC_get _ (by omega))⟩
          have hsC : (s : Int) < C := by omega
          have hsC1 : (s : Int) + 1 < C := by omega
          have hpM1 : (p : Int) + 1 < M := by omega
          have HST : NKeep (∀ v, v = Value.int .i64 ((lcs ss.length tt.length (eqL ss tt) p s : Nat) : Int) → (wr.setCell ⟨rb, s, none⟩ v).ownsRow w.heap.size 3 1 (rowS rb (tt.length + 1)) (tt.length + 1) (rowC (lcs ss.length tt.length (eqL ss tt) p) (tt.length + 1) s)) := ⟨fun v hv => by
            have := (World.ownsRow.stored HR.out s v).1
            rw [hv, rowC_set] at this
            rw [hv]
            exact this⟩
          have HGs : NKeep (∀ v, W1.grownBy (wr.setCell ⟨rb, s, none⟩ v) (some rb)) := ⟨fun v => grown_then HG.out (⟨rfl, rfl, rfl, by simp, fun k _ hne => Below.heap_setCell wr _ v k fun e => hne (by rw [e])⟩ : wr.grownBy (wr.setCell ⟨rb, s, none⟩ v) (some rb)) (fun g e => .inl e)⟩
          have HE := eqL_iff (ss := ss) (tt := tt) (i := p) (j := s) (by omega) (by omega)
          have HLS := lcs_step (eqL ss tt) (show p < ss.length by omega) (show s < tt.length by omega)
          have HLM := lcs_max (eqL ss tt) (show p < ss.length by omega) (show s < tt.length by omega)
          have l1 := lcs_le1 ss.length tt.length (eqL ss tt) (p + 1) (s + 1)
          have l2 := lcs_le1 ss.length tt.length (eqL ss tt) (p + 1) s
          have l3 := lcs_le1 ss.length tt.length (eqL ss tt) p (s + 1)
          have hdif : ss[p] ≠ tt[s] → (ss[p].toList == tt[s].toList) = false := bs_diff
          have hsam : ss[p] = tt[s] → (ss[p].toList == tt[s].toList) = true := bs_same
          clear hR1 hT1 k1 k2 k3 d1 d2 h1 h2
          generalize lcs ss.length tt.length (eqL ss tt) (p + 1) s = X at *
          generalize lcs ss.length tt.length (eqL ss tt) (p + 1) (s + 1) = Z at *
          generalize lcs ss.length tt.length (eqL ss tt) p (s + 1) = Y at *
          obtain ⟨T, hT⟩ : ∃ T, T = lcs ss.length tt.length (eqL ss tt) p s := ⟨_, rfl⟩
          have HT : NKeep (T = lcs ss.length tt.length (eqL ss tt) p s) := ⟨hT⟩
          rw [← hT] at HLS HLM
          clear hT
          by_cases he : eqL ss tt p s = true
          · have hbe := hsam (HE.1 he)
            rw [if_pos he] at HLS
            obtain ⟨m1, m2, m3⟩ := HLM he
            clear HE he HLM hdif hsam
            by_cases hxy : X < Y
            · by_cases hz : Y < Z + 1
              · go_wp2
                go_region
                all_goals (try go_wp2)
                go_roundw
                case rel => exact ⟨s, by omega, by go_num, ⟨(HGs.out _).draw⟩, ⟨HST.out _ (by rw [← HT.out, m1]; rfl)⟩⟩
                case measure => simp [intOf]
              · go_wp2
                go_region
                all_goals (try go_wp2)
                go_roundw
                case rel => exact ⟨s, by omega, by go_num, ⟨(HGs.out _).draw⟩, ⟨HST.out _ (by rw [← HT.out]; congr 1; omega)⟩⟩
                case measure => simp [intOf]
            · by_cases hz : X < Z + 1
              · go_wp2
                go_region
                all_goals (try go_wp2)
                go_roundw
                case rel => exact ⟨s, by omega, by go_num, ⟨(HGs.out _).draw⟩, ⟨HST.out _ (by rw [← HT.out]; rw [m1]; rfl)⟩⟩
                case measure => simp [intOf]
              · go_wp2
                go_region
                all_goals (try go_wp2)
                go_roundw
                case rel => exact ⟨s, by omega, by go_num, ⟨(HGs.out _).draw⟩, ⟨HST.out _ (by rw [← HT.out]; congr 1; omega)⟩⟩
                case measure => simp [intOf]
          · have hbe := hdif (fun h => he (HE.2 h))
            rw [if_neg he] at HLS
            clear HE he HLM hdif hsam
            by_cases hxy : X < Y
            · go_wp2
              go_region
              all_goals (try go_wp2)
              go_roundw
              case rel => exact ⟨s, by omega, by go_num, ⟨(HGs.out _).draw⟩, ⟨HST.out _ (by rw [← HT.out]; congr 1; omega)⟩⟩
              case measure => simp [intOf]
            · go_wp2
              go_region
              all_goals (try go_wp2)
              go_roundw
              case rel => exact ⟨s, by omega, by go_num, ⟨(HGs.out _).draw⟩, ⟨HST.out _ (by rw [← HT.out]; congr 1; omega)⟩⟩
              case measure => simp [intOf]
end Go.Proofs.Ytobgfogafkeieaa
