/-
  impl.matchRows at one type of pieces.
-/
import Derived.Test.YtmeodgcnnjkilaaMatchP
import Derived.Test.YtmeodgcnnjkilaaBase
import Derived.Laws.MakeOwn
namespace Go.Proofs.Ytmeodgcnnjkilaa
open Go.RowKit

theorem makeRowS (n : Nat) (h : n ≤ 1000000) (w : World) : (Instr.makeSlice 101 (.int .i64 ((n : Int) + 1)) (.int .i64 ((n : Int) + 1))).run Try.prog w = .ok (.slice (some ⟨w.heap.size, 0, none⟩) (n + 1) (n + 1)) (w.alloc (.cells (madeCells #[.bool false] (n + 1)) 4)) := by
  have hb : (Try.prog.info? 4).map (fun i => (i.zero, i.size, i.bytes)) = some (some (.bool false), 1, 1) := by kernel_rfl
  obtain ⟨i0, hi, hz0, hz1, hz2⟩ := info_parts hb
  have := run_make (P := Try.prog) w 101 4 i0 (.bool false) Try.underlying101 hi hz0 .i64 .i64 ((n : Int) + 1) ((n : Int) + 1) (by omega) (by omega) (by rw [hz2]; omega) (by omega)
  rw [this]
  have e : ((n : Int) + 1).toNat = n + 1 := by omega
  rw [e, hz1, Nat.mul_one]
  rfl

/-- A row of flags in memory. -/
def RowS (w : World) (b n : Nat) (f : Nat → Bool) : Prop := ∀ j, j ≤ n → w.cell? ⟨b, j, none⟩ = some (.bool (f j)) ∧ w.frozen? ⟨b, j, none⟩ = false

theorem RowS.set {w : World} {b n : Nat} {f : Nat → Bool} (h : RowS w b n f) (i : Nat) (hi : i ≤ n) (v : Bool) : RowS (w.setCell ⟨b, i, none⟩ (.bool v)) b n (fun j => if j = i then v else f j) := by
  intro j hj
  refine ⟨?_, by rw [World.frozen?_setCell]; exact (h j hj).2⟩
  by_cases e : j = i
  · subst e
    rw [World.cell?_setCell_same' _ _ _ (by rw [(h j hj).1]; rfl)]; simp
  · have hne : (⟨b, i, none⟩ : Addr) ≠ ⟨b, j, none⟩ := fun h => by cases h; exact e rfl
    rw [World.cell?_setCell_other _ _ _ _ hne, (h j hj).1]; simp [e]

theorem rowS_made (w : World) (n : Nat) : RowS (w.alloc (.cells (madeCells #[.bool false] (n + 1)) 4)) w.heap.size n (fun _ => false) := by
  intro j hj
  constructor
  · rw [World.cell?_alloc_new, madeCells]
    have h1 : j % 1 = 0 := by omega
    simp [Nat.lt_succ_of_le hj, h1]
  · simp
theorem rowS_start (w : World) (n : Nat) : RowS (w.alloc (.cells ((madeCells #[.bool false] (n + 1)).setIfInBounds 0 (.bool true)) 4)) w.heap.size n (fun j => decide (j = 0)) := by
  intro j hj
  constructor
  · rw [World.cell?_alloc_new, madeCells]
    have h1 : j % 1 = 0 := by omega
    by_cases h0 : j = 0
    · subst h0; simp
    · have h0' : ¬ 0 = j := fun e => h0 e.symm
      simp [Nat.lt_succ_of_le hj, h1, h0, h0']
  · simp
theorem RowS.below {w w' : World} {B b n : Nat} {f : Nat → Bool} (h : RowS w b n f) (hb : Below B w w') (hlt : b < B) : RowS w' b n f := by
  intro j hj
  have := h j hj
  exact ⟨(hb.cell (p := ⟨b, j, none⟩) hlt).trans this.1, (hb.frozen (p := ⟨b, j, none⟩) hlt).trans this.2⟩
theorem RowS.far {w : World} {b n : Nat} {f : Nat → Bool} (h : RowS w b n f) (c i : Nat) (v : Value) (hne : c ≠ b) : RowS (w.setCell ⟨c, i, none⟩ v) b n f := by
  intro j hj
  refine ⟨?_, by rw [World.frozen?_setCell]; exact (h j hj).2⟩
  have hne : (⟨c, i, none⟩ : Addr) ≠ ⟨b, j, none⟩ := fun h => by cases h; exact hne rfl
  rw [World.cell?_setCell_other _ _ _ _ hne, (h j hj).1]

structure FnsS (any : ByteArray → Bool) (one : ByteArray → ByteArray → Bool) (fa fo : FuncId) (ms ps : List ByteArray) : Prop where
  ea : ∀ x w, (callFunc fa #[.string x]).run Try.prog w = .ok (.enter fa #[.string x]) w
  eo : ∀ x y w, (callFunc fo #[.string x, .string y]).run Try.prog w = .ok (.enter fo #[.string x, .string y]) w
  ca : ∀ x w, Calls Try.prog fa #[.string x] w fun e w' => e = .returned (.bool (any x)) ∧ w = w'
  co : ∀ x ∈ ms, ∀ y ∈ ps, ∀ w, Calls Try.prog fo #[.string x, .string y] w fun e w' => e = .returned (.bool (one x y)) ∧ Below w.heap.size w w'

set_option maxRecDepth 100000 in
set_option maxHeartbeats 8000000 in
theorem rowsS_any (any : ByteArray → Bool) (one : ByteArray → ByteArray → Bool) (fa fo : FuncId) (ms ps : List ByteArray) (F : FnsS any one fa fo ms ps) (bm om cm bp op cp : Nat) (w : World) (hn : ms.length ≤ 1000) (hq : ps.length ≤ 1000)
    (hm : ∀ i (h : i < ms.length), w.cell? ⟨bm, om + i, none⟩ = some (.string ms[i])) (hp : ∀ i (h : i < ps.length), w.cell? ⟨bp, op + i, none⟩ = some (.string ps[i])) :
    Calls Try.prog 77 #[.slice (some ⟨bm, om, none⟩) ms.length cm, .slice (some ⟨bp, op, none⟩) ps.length cp, .func (.func fa) #[] #[], .func (.func fo) #[] #[]] w fun e w' => e = .returned (.bool (mat any one ms ps)) ∧ Below w.heap.size w w' := by
  have hmk := makeRowS ms.length (by omega)
  have hea := F.ea
  have heo := F.eo
  have hr0 := rowS_made w ms.length
  have hc0 := (hr0 0 (Nat.zero_le _)).1
  have hf0 := (hr0 0 (Nat.zero_le _)).2
  go_enter Try.func77, Try.ntmps77
  go_wp2
  go_loopw [25] (fun i wr => ∃ (k : Nat) (f : Nat → Bool), i = .int .i64 k ∧ k ≤ ms.length ∧ RowS wr w.heap.size ms.length f ∧ Keep (∀ j, j ≤ k → f j = mat any one (ms.take j) []) ∧ Below w.heap.size w wr ∧ w.heap.size < wr.heap.size) (fun i _ => ms.length - (intOf i).toNat)
  case atStart =>
    refine ⟨0, _, rfl, Nat.zero_le _, rowS_start w ms.length, ⟨fun j hj => ?_⟩, (Below.refl _ w).alloc (Nat.le_refl _) _, by simp⟩
    obtain rfl : j = 0 := by omega
    rfl
  case round =>
    obtain ⟨k, f, rfl, hk, hR, HF, hB, hlt⟩ := hrel
    clear hr0 hc0 hf0
    by_cases hkl : k < ms.length
    · have hkl' : (k : Int) < ms.length := by omega
      have c1 := (hR k hk).1
      have c2 := (hR (k + 1) (by omega)).1
      have c3 := (hR (k + 1) (by omega)).2
      have c4 := cell_later hB (hm k hkl)
      have hca := F.ca ms[k] wr
      have hfk := HF.out k (Nat.le_refl _)
      have hnext : ∀ v : Bool, v = (f k && any ms[k]) → Keep (∀ j, j ≤ k + 1 → (fun j => if j = k + 1 then v else f j) j = mat any one (ms.take j) []) := fun v hv => ⟨fun j hj => by
        by_cases e : j = k + 1
        · subst e; simp only [if_true]; rw [List.take_succ_eq_append_getElem hkl, mat_snoc_nil, ← hfk, hv]
        · simp only [e, if_false]; exact HF.out j (by omega)⟩
      have hset := fun v => hR.set (k + 1) (by omega) v
      have hBset := fun v : Bool => hB.setCell (p := ⟨w.heap.size, k + 1, none⟩) (Nat.le_refl _) (.bool v)
      have HS : Keep (∀ v, RowS (wr.setCell ⟨w.heap.size, k + 1, none⟩ (.bool v)) w.heap.size ms.length (fun j => if j = k + 1 then v else f j)) := ⟨hset⟩
      clear hset hfk HF hR
      cases hf : f k with
      | false =>
        rw [hf] at c1
        have hK := hnext false (by simp [hf])
        clear hnext hca
        go_wp2
        go_roundw
        case rel => exact ⟨k + 1, _, by congr 1, by omega, HS.out false, hK, hBset false, by simp; exact hlt⟩
        case measure => simp only [intOf]; omega
      | true =>
        rw [hf] at c1
        have hK := hnext (any ms[k]) (by simp [hf])
        clear hnext
        go_wp2_with fail
        refine hca.mono ?_
        rintro e w' ⟨rfl, rfl⟩
        go_wp2
        go_roundw
        case rel => exact ⟨k + 1, _, by congr 1, by omega, HS.out _, hK, hBset _, by simp; exact hlt⟩
        case measure => simp only [intOf]; omega
    · obtain rfl : k = ms.length := by omega
      have HF' : Keep (∀ j, j ≤ ms.length → f j = mat any one (ms.take j) (ps.take 0)) := ⟨fun j hj => by rw [HF.out j hj]; rfl⟩
      clear HF hkl hk
      go_wp2
      go_loopw [9, 46] (fun r i wr => ∃ (b k : Nat) (f : Nat → Bool), r = .slice (some ⟨b, 0, none⟩) (ms.length + 1) (ms.length + 1) ∧ i = .int .i64 k ∧ k ≤ ps.length ∧ RowS wr b ms.length f ∧ Keep (∀ j, j ≤ ms.length → f j = mat any one (ms.take j) (ps.take k)) ∧ Below w.heap.size w wr ∧ w.heap.size ≤ b ∧ b < wr.heap.size) (fun _ i _ => ps.length - (intOf i).toNat)
      case atStart => exact ⟨w.heap.size, 0, f, rfl, rfl, Nat.zero_le _, hR, HF', hB, Nat.le_refl _, hlt⟩
      case round =>
        clear hR HF' hB hlt
        obtain ⟨b, k, f, rfl, rfl, hk, hR, HF, hB, hbB, hlt⟩ := hrel
        by_cases hkl : k < ps.length
        · have hkl' : (k : Int) < ps.length := by omega
          have d1 := cell_later hB (hp k hkl)
          rename World => W2
          have hg0 := rowS_made W2 ms.length
          have hB0 : Below w.heap.size w (W2.alloc (.cells (madeCells #[.bool false] (ms.length + 1)) 4)) := hB.alloc hB.size _
          have hR0 : RowS (W2.alloc (.cells (madeCells #[.bool false] (ms.length + 1)) 4)) b ms.length f := hR.below ((Below.refl _ W2).alloc (Nat.le_refl _) _) hlt
          have HG0 : Keep (∀ j, j ≤ 0 → (fun _ => false : Nat → Bool) j = mat any one (ms.take j) (ps.take (k + 1))) := ⟨fun j hj => by
            obtain rfl : j = 0 := by omega
            rw [List.take_zero, List.take_succ_eq_append_getElem hkl, mat_nil_snoc]⟩
          go_wp2
          go_loopw [55] (fun i wx => ∃ (l : Nat) (g : Nat → Bool), i = .int .i64 l ∧ l ≤ ms.length ∧ RowS wx b ms.length f ∧ RowS wx W2.heap.size ms.length g ∧ Keep (∀ j, j ≤ l → g j = mat any one (ms.take j) (ps.take (k + 1))) ∧ Below w.heap.size w wx ∧ W2.heap.size < wx.heap.size) (fun i _ => ms.length - (intOf i).toNat)
          case atStart => exact ⟨0, _, rfl, Nat.zero_le _, hR0, hg0, HG0, hB0, by simp⟩
          case round =>
            clear hg0 hB0 hR0 HG0 hR d1
            obtain ⟨l, g, rfl, hl, hR, hG, HG, hBx, hltx⟩ := hrel
            have hBs := hB.size
            by_cases hll : l < ms.length
            · have hll' : (l : Int) < ms.length := by omega
              have c1 := (hG l hl).1
              have c2 := (hG (l + 1) (by omega)).1
              have c3 := (hG (l + 1) (by omega)).2
              have c4 := cell_later hBx (hm l hll)
              have e1 := (hR l hl).1
              have e2 := (hR (l + 1) (by omega)).1
              have hca := F.ca ms[l] wr
              have hco := F.co ms[l] (List.getElem_mem hll) ps[k] (List.getElem_mem hkl) wr
              have hfl := HF.out l hl
              have hfl1 := HF.out (l + 1) hll
              have hgl := HG.out l (Nat.le_refl _)
              have hne : W2.heap.size ≠ b := by omega
              have hnx : ∀ v : Bool, v = mat any one (ms.take (l + 1)) (ps.take (k + 1)) → Keep (∀ j, j ≤ l + 1 → (fun j => if j = l + 1 then v else g j) j = mat any one (ms.take j) (ps.take (k + 1))) := fun v hv => ⟨fun j hj => by
                by_cases e : j = l + 1
                · subst e; simp only [if_true]; exact hv
                · simp only [e, if_false]; exact HG.out j (by omega)⟩
              have hany : any ms[l] = true → mat any one (ms.take (l + 1)) (ps.take (k + 1)) = (g l || f (l + 1)) := fun h => by
                rw [List.take_succ_eq_append_getElem hkl, List.take_succ_eq_append_getElem hll, mat_snoc_any h, ← List.take_succ_eq_append_getElem hkl, ← List.take_succ_eq_append_getElem hll, hgl, hfl1]
              have hone : any ms[l] = false → mat any one (ms.take (l + 1)) (ps.take (k + 1)) = (f l && one ms[l] ps[k]) := fun h => by
                rw [List.take_succ_eq_append_getElem hkl, List.take_succ_eq_append_getElem hll, mat_snoc_one h, hfl]
              have HN : Keep (∀ v : Bool, ∀ wy, Below wr.heap.size wr wy → v = mat any one (ms.take (l + 1)) (ps.take (k + 1)) → ∃ (l' : Nat) (g' : Nat → Bool), Value.int .i64 ((l : Int) + 1) = .int .i64 l' ∧ l' ≤ ms.length ∧ RowS (wy.setCell ⟨W2.heap.size, l + 1, none⟩ (.bool v)) b ms.length f ∧ RowS (wy.setCell ⟨W2.heap.size, l + 1, none⟩ (.bool v)) W2.heap.size ms.length g' ∧ Keep (∀ j, j ≤ l' → g' j = mat any one (ms.take j) (ps.take (k + 1))) ∧ Below w.heap.size w (wy.setCell ⟨W2.heap.size, l + 1, none⟩ (.bool v)) ∧ W2.heap.size < (wy.setCell ⟨W2.heap.size, l + 1, none⟩ (.bool v)).heap.size) :=
                ⟨fun v wy hby hv => ⟨l + 1, _, by congr 1, hll, (hR.below hby (by omega)).far _ _ _ hne, (hG.below hby hltx).set (l + 1) hll v, hnx v hv, (hBx.trans (hby.mono hBx.size)).setCell (p := ⟨W2.heap.size, l + 1, none⟩) hBs _, by have := hby.size; simp; omega⟩⟩
              clear hR hG HG HF hnx hfl hfl1 hgl
              cases ha : any ms[l] with
              | true =>
                have hv := hany ha
                clear hany hone hco
                cases hg : g l with
                | true =>
                  rw [hg] at c1 hv
                  have hrel2 := HN.out true wr (Below.refl _ _) (by rw [hv]; simp)
                  clear HN
                  go_wp2_with fail
                  refine hca.mono ?_
                  rintro e w' ⟨rfl, rfl⟩
                  rw [ha]
                  go_wp2
                  go_roundw
                  case rel => exact hrel2
                  case measure => simp only [intOf]; omega
                | false =>
                  rw [hg] at c1 hv
                  have hrel2 := HN.out (f (l + 1)) wr (Below.refl _ _) (by rw [hv]; simp)
                  clear HN
                  go_wp2_with fail
                  refine hca.mono ?_
                  rintro e w' ⟨rfl, rfl⟩
                  rw [ha]
                  go_wp2
                  go_roundw
                  case rel => exact hrel2
                  case measure => simp only [intOf]; omega
              | false =>
                have hv := hone ha
                clear hany hone
                cases hf : f l with
                | false =>
                  rw [hf] at e1 hv
                  have hrel2 := HN.out false wr (Below.refl _ _) (by rw [hv]; simp)
                  clear HN hco
                  go_wp2_with fail
                  refine hca.mono ?_
                  rintro e w' ⟨rfl, rfl⟩
                  rw [ha]
                  go_wp2
                  go_roundw
                  case rel => exact hrel2
                  case measure => simp only [intOf]; omega
                | true =>
                  rw [hf] at e1 hv
                  go_wp2_with fail
                  refine hca.mono ?_
                  rintro e w' ⟨rfl, rfl⟩
                  rw [ha]
                  go_wp2_with fail
                  refine hco.mono ?_
                  rintro e wy ⟨rfl, hby⟩
                  have k2 := (hby.cell (p := ⟨W2.heap.size, l + 1, none⟩) hltx).trans c2
                  have k3 := (hby.frozen (p := ⟨W2.heap.size, l + 1, none⟩) hltx).trans c3
                  have hrel2 := HN.out (one ms[l] ps[k]) wy hby (by rw [hv]; simp)
                  clear HN hca hco c1 c2 c3 c4 e1 e2
                  go_wp2
                  go_roundw
                  case rel => exact hrel2
                  case measure => simp only [intOf]; omega
            · obtain rfl : l = ms.length := by omega
              go_wp2
              go_roundw
              case rel => exact ⟨W2.heap.size, k + 1, g, rfl, by congr 1, hkl, hG, HG, hBx, hBs, hltx⟩
              case measure => simp only [intOf]; omega
        · obtain rfl : k = ps.length := by omega
          have c1 := (hR ms.length (Nat.le_refl _)).1
          have c2 := HF.out ms.length (Nat.le_refl _)
          rw [List.take_length, List.take_length] at c2
          rw [c2] at c1
          clear c2 HF hR
          go_wp2
          go_ret
          exact ⟨rfl, hB⟩
end Go.Proofs.Ytmeodgcnnjkilaa
