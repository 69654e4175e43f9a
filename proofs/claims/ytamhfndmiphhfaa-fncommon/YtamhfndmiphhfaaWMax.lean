/-
  laws.wMax: the length of a longest list, by a row.
-/
import Derived.Test.YtamhfndmiphhfaaTabS
import Derived.Test.YtamhfndmiphhfaaLcsP
namespace Go.Proofs.Ytamhfndmiphhfaa
open Go.RowKit

def rowF (f : Nat → Nat) (N : Nat) : List Value := (List.range N).map fun k => Value.int .i64 ((f k : Nat) : Int)
theorem rowF_len (f : Nat → Nat) (N : Nat) : (rowF f N).length = N := by simp [rowF]
theorem rowF_get (f : Nat → Nat) {N k : Nat} (h : k < N) : (rowF f N)[k]? = some (.int .i64 ((f k : Nat) : Int)) := by simp [rowF, h]
theorem rowF_congr (f g : Nat → Nat) (N : Nat) (h : ∀ k, k < N → f k = g k) : rowF f N = rowF g N := by
  apply List.ext_getElem?
  intro i
  by_cases hi : i < N
  · rw [rowF_get f hi, rowF_get g hi, h i hi]
  · rw [List.getElem?_eq_none (by rw [rowF_len]; omega), List.getElem?_eq_none (by rw [rowF_len]; omega)]
theorem rowF_set (f g : Nat → Nat) (N k : Nat) (h : ∀ i, i < N → i ≠ k → g i = f i) : (rowF f N).set k (.int .i64 ((g k : Nat) : Int)) = rowF g N := by
  apply List.ext_getElem?
  intro i
  by_cases hi : i < N
  · rw [List.getElem?_set, rowF_get f hi, rowF_get g hi, rowF_len]
    by_cases e : k = i
    · subst e; simp [hi]
    · rw [if_neg e, h i hi (fun x => e x.symm)]
  · rw [List.getElem?_eq_none (by simp [rowF]; omega), List.getElem?_eq_none (by simp [rowF]; omega)]
theorem rowF_zero (N : Nat) : List.replicate N (Value.int .i64 0) = rowF (fun _ => 0) N := by
  apply List.ext_getElem?
  intro i
  by_cases hi : i < N
  · rw [rowF_get _ hi, List.getElem?_replicate, if_pos hi]; rfl
  · rw [List.getElem?_eq_none (by simp; omega), List.getElem?_eq_none (by simp [rowF]; omega)]

/-- The row where the table is filled to row i + 1 up to column j, and behind it to row i. -/
def mixR (E : Nat → Nat → Bool) (i j k : Nat) : Nat := if k ≤ j then tab E (i + 1) k else tab E i k
def RowM (g n : Nat) (f : Nat → Nat) (w : World) : Prop := w.ownsRow g 3 1 (.slice (some ⟨g, 0, none⟩) (n + 1) (n + 1)) (n + 1) (rowF f (n + 1))
theorem RowM.cell {g n : Nat} {f : Nat → Nat} {w : World} (h : RowM g n f w) {k : Nat} (hk : k ≤ n) : w.cell? ⟨g, k, none⟩ = some (.int .i64 ((f k : Nat) : Int)) := by
  rw [World.ownsRow.cellAt h k (by omega), rowF_get _ (by omega)]
theorem RowM.as {g n : Nat} {f f' : Nat → Nat} {w : World} (h : RowM g n f w) (e : ∀ k, k ≤ n → f k = f' k) : RowM g n f' w := by
  unfold RowM at h ⊢
  rw [rowF_congr f' f (n + 1) (fun k hk => (e k (by omega)).symm)]
  exact h
theorem RowM.set {g n : Nat} {f f' : Nat → Nat} {w : World} (h : RowM g n f w) (k : Nat) (e : ∀ i, i ≤ n → i ≠ k → f' i = f i) : RowM g n f' (w.setCell ⟨g, k, none⟩ (.int .i64 ((f' k : Nat) : Int))) := by
  have := (World.ownsRow.stored h k (.int .i64 ((f' k : Nat) : Int))).1
  rw [rowF_set f f' (n + 1) k (fun i hi => e i (by omega))] at this
  exact this

set_option maxRecDepth 20000 in
set_option maxHeartbeats 4000000 in
theorem wMax_any (a1 a2 : Option Addr) (c1 c2 : Nat) (ss tt : List ByteArray) (w : World) (h1 : SS w a1 ss) (h2 : SS w a2 tt) (hm : ss.length ≤ 1500) (hn : tt.length ≤ 1500) :
    Calls Try.prog 13 #[.slice a1 ss.length c1, .slice a2 tt.length c2] w fun e w' => e = .returned (.int .i64 ((tab (eqL ss tt) ss.length tt.length : Nat) : Int)) ∧ Below w.heap.size w w' := by
  obtain ⟨ti, hti, hz0, hz1, hz2⟩ := info_parts Try.infoInt
  obtain ⟨C, hC⟩ : ∃ C, C = tt.length + 1 := ⟨_, rfl⟩
  have hCI : (tt.length : Int) + 1 = (C : Int) := by omega
  have ez : (madeCells (Value.int .i64 0).cells (C * 1)).toList = List.replicate C (Value.int .i64 0) := by
    rw [Nat.mul_one]
    exact toList_madeCells_one _ _
  have HC : NKeep (C = tt.length + 1) := ⟨hC⟩
  have hC1 : tt.length < C := by omega
  have hC2 : C ≤ 1501 := by omega
  clear hC
  go_enter Try.func13, Try.ntmps13
  go_wp2_with (at_make; refine wpList_make_full _ rfl _ _ 49 rfl w.heap.size 3 ti _ 1 Try.underlying49 hti hz0 hz1 .i64 .i64 _ _ C rfl rfl rfl rfl (by rw [hz2]; have := HC.out; omega) (by unfold maxLen; have := HC.out; omega) (Nat.le_refl _) ?_; intro w1 hown1 hgrow1)
  have hB0 : Below w.heap.size w w1 := (Below.refl _ _).grown hgrow1 (Nat.le_refl _) (fun k e => by cases e)
  have HR0 : NKeep (RowM w.heap.size tt.length (tab (eqL ss tt) 0) w1) := ⟨by
    unfold RowM
    rw [ez, rowF_zero, HC.out] at hown1
    exact hown1⟩
  clear hown1 hgrow1 ez
  go_loopw [6] (fun si wr => ∃ i : Nat, i ≤ ss.length ∧ si = .int .i64 (i : Int) ∧ NKeep (RowM w.heap.size tt.length (tab (eqL ss tt) i) wr) ∧ Below w.heap.size w wr) (fun si _ => ss.length - (intOf si).toNat)
  case atStart => exact ⟨0, Nat.zero_le _, rfl, HR0, hB0⟩
  case round =>
    obtain ⟨i, hi, rfl, HR, hB⟩ := hrel
    by_cases hlt : i < ss.length
    · have hlt' : (i : Int) < ss.length := by omega
      go_wp2
      go_loopw [7, 8] (fun sc sj wi => ∃ j : Nat, j ≤ tt.length ∧ sc = .int .i64 ((tab (eqL ss tt) i j : Nat) : Int) ∧ sj = .int .i64 (j : Int) ∧ NKeep (RowM w.heap.size tt.length (mixR (eqL ss tt) i j) wi) ∧ Below w.heap.size w wi) (fun _ sj _ => tt.length - (intOf sj).toNat)
      case atStart => exact ⟨0, Nat.zero_le _, by rw [tab_z]; rfl, rfl, ⟨HR.out.as (fun k _ => by unfold mixR; split <;> first | rfl | (rw [show k = 0 by omega, tab_z, tab_z]))⟩, hB⟩
      case round =>
        obtain ⟨j, hj, rfl, rfl, HM, hBi⟩ := hrel
        by_cases hjl : j < tt.length
        · have hjl' : (j : Int) < tt.length := by omega
          obtain ⟨b1, o1, rfl, d1⟩ := h1.at hlt
          obtain ⟨b2, o2, rfl, d2⟩ := h2.at hjl
          have y1 := cell_later hBi (d1 i hlt)
          have y2 := cell_later hBi (d2 j hjl)
          have t1 : wr.cell? ⟨w.heap.size, j + 1, none⟩ = some (.int .i64 ((tab (eqL ss tt) i (j + 1) : Nat) : Int)) := by
            rw [HM.out.cell (by omega)]; unfold mixR; rw [if_neg (by omega)]
          have t0 : wr.cell? ⟨w.heap.size, j, none⟩ = some (.int .i64 ((tab (eqL ss tt) (i + 1) j : Nat) : Int)) := by
            rw [HM.out.cell (by omega)]; unfold mixR; rw [if_pos (Nat.le_refl _)]
          have f1 : wr.frozen? ⟨w.heap.size, j + 1, none⟩ = false := World.ownsRow.frozenAt HM.out (j + 1)
          have hst : RowM w.heap.size tt.length (mixR (eqL ss tt) i (j + 1)) (wr.setCell ⟨w.heap.size, j + 1, none⟩ (.int .i64 ((mixR (eqL ss tt) i (j + 1) (j + 1) : Nat) : Int))) := HM.out.set (j + 1) (fun k hk hne => by
            unfold mixR
            by_cases hkj : k ≤ j
            · rw [if_pos (by omega), if_pos hkj]
            · rw [if_neg (by omega), if_neg hkj])
          have hmx : mixR (eqL ss tt) i (j + 1) (j + 1) = tab (eqL ss tt) (i + 1) (j + 1) := by unfold mixR; rw [if_pos (Nat.le_refl _)]
          rw [hmx] at hst
          have HST : NKeep (∀ v, v = Value.int .i64 ((tab (eqL ss tt) (i + 1) (j + 1) : Nat) : Int) → RowM w.heap.size tt.length (mixR (eqL ss tt) i (j + 1)) (wr.setCell ⟨w.heap.size, j + 1, none⟩ v)) := ⟨fun v hv => by rw [hv]; exact hst⟩
          have HBs : NKeep (∀ v, Below w.heap.size w (wr.setCell ⟨w.heap.size, j + 1, none⟩ v)) := ⟨fun v => hBi.setCell (p := ⟨w.heap.size, j + 1, none⟩) (Nat.le_refl _) v⟩
          have HSK : NKeep (tab (eqL ss tt) (i + 1) (j + 1) = tab (eqL ss tt) i (j + 1) → RowM w.heap.size tt.length (mixR (eqL ss tt) i (j + 1)) wr) := ⟨fun e => HM.out.as (fun k hk => by
            unfold mixR
            by_cases hkj : k ≤ j
            · rw [if_pos hkj, if_pos (by omega)]
            · by_cases hk1 : k = j + 1
              · rw [hk1, if_neg (by omega), if_pos (Nat.le_refl _), e]
              · rw [if_neg (by omega), if_neg (by omega)])⟩
          have HE := eqL_iff hlt hjl
          have HTS := tab_step (eqL ss tt) i j
          have l1 := tab_le1 (eqL ss tt) i j
          have l2 := tab_le1 (eqL ss tt) i (j + 1)
          have l3 := tab_le1 (eqL ss tt) (i + 1) j
          clear hst hmx d1 d2
          by_cases he : eqL ss tt i j = true
          · rw [if_pos he] at HTS
            have hB' := bs_same (HE.1 he)
            have HL : NKeep (tab (eqL ss tt) (i + 1) (j + 1) = tab (eqL ss tt) i j + 1) := ⟨HTS⟩
            clear HE HTS he HSK t0 l3
            have HK : NKeep (∃ u, u = tab (eqL ss tt) i (j + 1)) := ⟨_, rfl⟩
            go_wp2
            go_region
            all_goals (try go_wp2)
            go_roundw
            case rel => exact ⟨j + 1, by omega, rfl, by go_num, ⟨HST.out _ (by rw [HL.out]; rfl)⟩, (HBs.out _).drew⟩
            case measure => simp [intOf]; omega
          · rw [if_neg he] at HTS
            have hB' := bs_diff (fun h => he (HE.2 h))
            have HL : NKeep (tab (eqL ss tt) (i + 1) (j + 1) = max (tab (eqL ss tt) i (j + 1)) (tab (eqL ss tt) (i + 1) j)) := ⟨HTS⟩
            clear HE HTS he
            by_cases hgt : tab (eqL ss tt) i (j + 1) < tab (eqL ss tt) (i + 1) j
            · have hgt' : ((tab (eqL ss tt) i (j + 1) : Nat) : Int) < ((tab (eqL ss tt) (i + 1) j : Nat) : Int) := by omega
              have HG : NKeep (tab (eqL ss tt) i (j + 1) < tab (eqL ss tt) (i + 1) j) := ⟨hgt⟩
              clear hgt HSK
              go_wp2
              go_region
              all_goals (try go_wp2)
              go_roundw
              case rel => exact ⟨j + 1, by omega, rfl, by go_num, ⟨HST.out _ (by rw [HL.out, Nat.max_eq_right (Nat.le_of_lt HG.out)])⟩, (HBs.out _).drew⟩
              case measure => simp [intOf]; omega
            · have hgt' : ((tab (eqL ss tt) (i + 1) j : Nat) : Int) ≤ ((tab (eqL ss tt) i (j + 1) : Nat) : Int) := by omega
              have HS2 : NKeep (RowM w.heap.size tt.length (mixR (eqL ss tt) i (j + 1)) wr) := ⟨HSK.out (by rw [HL.out]; omega)⟩
              clear hgt HSK HST HBs
              go_wp2
              go_region
              all_goals (try go_wp2)
              go_roundw
              case rel => exact ⟨j + 1, by omega, rfl, by go_num, HS2, hBi.drew⟩
              case measure => simp [intOf]; omega
        · obtain rfl : j = tt.length := by omega
          go_wp2
          go_roundw
          case rel => exact ⟨i + 1, by omega, by go_num, ⟨HM.out.as (fun k hk => by unfold mixR; rw [if_pos hk])⟩, hBi⟩
          case measure => simp [intOf]; omega
    · obtain rfl : i = ss.length := by omega
      have t1 := HR.out.cell (k := tt.length) (Nat.le_refl _)
      go_wp2
      go_ret
      exact ⟨rfl, hB⟩
end Go.Proofs.Ytamhfndmiphhfaa
