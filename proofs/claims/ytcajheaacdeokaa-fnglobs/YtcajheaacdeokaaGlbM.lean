/-
  HasGlob, SpecGlob, MatchP, RowsS, RowsR, Collect, SpecBytes, SpecMatch, ImplMatch: laid as one text.
-/
import Derived.Test.YtcajheaacdeokaaHasParts
import Derived.Test.YtcajheaacdeokaaSpecPath
import Derived.Test.YtcajheaacdeokaaSplitP
import Derived.Test.YtcajheaacdeokaaBase
import Derived.Laws.MakeOwn
import Derived.RangeFuncFrom
import Derived.RangeFuncBox
import Derived.Maps.AppendAt
import Derived.Test.YtcajheaacdeokaaPartsIt
import Derived.Test.YtcajheaacdeokaaSpecParts
import Derived.Test.YtcajheaacdeokaaPartOk
import Derived.Deep.QuietTactic
import Derived.BigQuiet
import Derived.Laws.IdiomStrings
namespace Go.Proofs.Ytcajheaacdeokaa
open Go.RowKit Go.Shelf

set_option maxHeartbeats 400000 in
theorem implGlob_any (s : ByteArray) (hs : s.size ≤ 1099511627776) (w : World) :
    Calls Try.prog 20 #[.string s] w fun e w' => HasPost globB s w e w' := by
  go_enter Try.func20, Try.ntmps20
  go_wp2_with (go_at_call 34; refine (hasParts_any _ _ globFn s hs _).mono ?_; rintro e w1 ⟨rfl, hb⟩)
  go_ret
  exact ⟨rfl, hb⟩
end Go.Proofs.Ytcajheaacdeokaa

namespace Go.Proofs.Ytcajheaacdeokaa
open Go.RowKit

set_option maxHeartbeats 400000 in
theorem specGlob_any (s : ByteArray) (w : World) :
    Calls Try.prog 8 #[.string s] w fun e w' => e = .returned (.bool (pathOk globB s)) ∧ Below w.heap.size w w' := by
  go_enter Try.func8, Try.ntmps8
  go_wp2_with (go_at_call 28; refine (l4Ok_any true s _).mono ?_; rintro e w1 ⟨rfl, hb⟩)
  go_ret
  exact ⟨rfl, hb⟩
end Go.Proofs.Ytcajheaacdeokaa

namespace Go.Proofs.Ytcajheaacdeokaa
open Go.RowKit

section
variable {X : Type}
/-- One of the ends of a list. -/
def anyTail (f : List X → Bool) : List X → Bool
  | [] => f []
  | q :: qs => f (q :: qs) || anyTail f qs

/-- Whether marks match pieces. -/
def mat (any : X → Bool) (one : X → X → Bool) : List X → List X → Bool
  | [], p => p.isEmpty
  | m :: ms, p => if any m = true then anyTail (mat any one ms) p else match p with
    | [] => false
    | q :: qs => one m q && mat any one ms qs

variable {any : X → Bool} {one : X → X → Bool}

theorem mat_nil (p : List X) : mat any one [] p = p.isEmpty := rfl
theorem mat_start : mat any one ([] : List X) [] = true := rfl
theorem mat_nil_snoc (p : List X) (q : X) : mat any one [] (p ++ [q]) = false := by rw [mat_nil]; simp

theorem mat_any_nil {m : X} {ms : List X} (h : any m = true) : mat any one (m :: ms) [] = mat any one ms [] := by
  rw [mat, if_pos h]; rfl
theorem mat_any {m : X} {ms : List X} (h : any m = true) (q : X) (qs : List X) : mat any one (m :: ms) (q :: qs) = (mat any one ms (q :: qs) || mat any one (m :: ms) qs) := by
  show (if any m = true then anyTail (mat any one ms) (q :: qs) else _) = (mat any one ms (q :: qs) || (if any m = true then anyTail (mat any one ms) qs else _))
  rw [if_pos h, if_pos h, anyTail]
theorem mat_one_nil {m : X} {ms : List X} (h : any m = false) : mat any one (m :: ms) [] = false := by
  rw [mat, if_neg (by rw [h]; simp)]
theorem mat_one {m : X} {ms : List X} (h : any m = false) (q : X) (qs : List X) : mat any one (m :: ms) (q :: qs) = (one m q && mat any one ms qs) := by
  rw [mat, if_neg (by rw [h]; simp)]

theorem mat_snoc_nil : ∀ (ms : List X) (m : X), mat any one (ms ++ [m]) [] = (mat any one ms [] && any m)
  | [], m => by
    cases h : any m with
    | true => rw [List.nil_append, mat_any_nil h]; rfl
    | false => rw [List.nil_append, mat_one_nil h]; rfl
  | x :: xs, m => by
    cases h : any x with
    | true => rw [List.cons_append, mat_any_nil h, mat_any_nil h, mat_snoc_nil xs m]
    | false => rw [List.cons_append, mat_one_nil h, mat_one_nil h]; rfl

theorem mat_all {m : X} (h : any m = true) : ∀ p : List X, mat any one [m] p = true
  | [] => by rw [mat_any_nil h]; rfl
  | q :: qs => by rw [mat_any h, mat_all h qs]; simp

theorem mat_snoc_any {m : X} (h : any m = true) : ∀ (ms p : List X) (q : X), mat any one (ms ++ [m]) (p ++ [q]) = (mat any one ms (p ++ [q]) || mat any one (ms ++ [m]) p)
  | [], p, q => by rw [List.nil_append, mat_all h, mat_all h]; simp
  | x :: xs, p, q => by
    have ih := mat_snoc_any h xs
    have hn := mat_snoc_nil (any := any) (one := one) xs m
    rw [h, Bool.and_true] at hn
    cases hx : any x with
    | true =>
      induction p with
      | nil =>
        have := ih [] q
        rw [List.nil_append] at this ⊢
        rw [List.cons_append, mat_any hx, mat_any hx, mat_any_nil hx, mat_any_nil hx, this, hn]
      | cons y ys ihp =>
        rw [List.cons_append] at ihp
        have := ih (y :: ys) q
        rw [List.cons_append] at this
        rw [List.cons_append, List.cons_append, mat_any hx, mat_any hx, mat_any hx, this, ihp]
        cases mat any one xs (y :: (ys ++ [q])) <;> cases mat any one (xs ++ [m]) (y :: ys) <;> simp
    | false =>
      cases p with
      | nil =>
        rw [List.nil_append, List.cons_append, mat_one hx, mat_one hx, mat_one_nil hx, hn]; simp
      | cons y ys =>
        rw [List.cons_append, List.cons_append, mat_one hx, mat_one hx, mat_one hx, ih ys q]
        cases one x y <;> simp

theorem mat_snoc_one {m : X} (h : any m = false) : ∀ (ms p : List X) (q : X), mat any one (ms ++ [m]) (p ++ [q]) = (mat any one ms p && one m q)
  | [], p, q => by
    cases p with
    | nil => rw [List.nil_append, List.nil_append, mat_one h]; simp [mat]
    | cons y ys => rw [List.nil_append, List.cons_append, mat_one h, mat_nil_snoc]; simp [mat]
  | x :: xs, p, q => by
    have ih := mat_snoc_one h xs
    have hn := mat_snoc_nil (any := any) (one := one) xs m
    rw [h, Bool.and_false] at hn
    cases hx : any x with
    | true =>
      induction p with
      | nil =>
        have := ih [] q
        rw [List.nil_append] at this ⊢
        rw [List.cons_append, mat_any hx, mat_any_nil hx, mat_any_nil hx, this, hn]; simp
      | cons y ys ihp =>
        rw [List.cons_append] at ihp
        have := ih (y :: ys) q
        rw [List.cons_append] at this
        rw [List.cons_append, List.cons_append, mat_any hx, mat_any hx, this, ihp]
        cases one m q <;> simp
    | false =>
      cases p with
      | nil => rw [List.nil_append, List.cons_append, mat_one hx, mat_one_nil hx, hn]; simp
      | cons y ys => rw [List.cons_append, List.cons_append, mat_one hx, mat_one hx, ih ys q, Bool.and_assoc]

/-- Only how marks meet the pieces at hand matters. -/
theorem mat_congr {one' : X → X → Bool} : ∀ (ms ps : List X), (∀ m ∈ ms, ∀ q ∈ ps, one m q = one' m q) → mat any one ms ps = mat any one' ms ps
  | [], _, _ => rfl
  | m :: ms, ps, k => by
    have ih := mat_congr (one' := one') ms
    cases hx : any m with
    | true =>
      induction ps with
      | nil => rw [mat_any_nil hx, mat_any_nil hx, ih [] (fun a _ q hq => by cases hq)]
      | cons y ys ihp =>
        rw [mat_any hx, mat_any hx, ih (y :: ys) (fun a ha q hq => k a (by simp [ha]) q hq), ihp (fun a ha q hq => k a ha q (by simp [hq]))]
    | false =>
      cases ps with
      | nil => rw [mat_one_nil hx, mat_one_nil hx]
      | cons y ys => rw [mat_one hx, mat_one hx, ih ys (fun a ha q hq => k a (by simp [ha]) q (by simp [hq])), k m (by simp) y (by simp)]
end
end Go.Proofs.Ytcajheaacdeokaa

namespace Go.Proofs.Ytcajheaacdeokaa
open Go.RowKit

theorem makeRowS (n : Nat) (h : n ≤ 1000000) (w : World) : (Instr.makeSlice 66 (.int .i64 ((n : Int) + 1)) (.int .i64 ((n : Int) + 1))).run Try.prog w = .ok (.slice (some ⟨w.heap.size, 0, none⟩) (n + 1) (n + 1)) (w.alloc (.cells (madeCells #[.bool false] (n + 1)) 4)) := by
  have hb : (Try.prog.info? 4).map (fun i => (i.zero, i.size, i.bytes)) = some (some (.bool false), 1, 1) := by kernel_rfl
  obtain ⟨i0, hi, hz0, hz1, hz2⟩ := info_parts hb
  have := run_make (P := Try.prog) w 66 4 i0 (.bool false) Try.underlying66 hi hz0 .i64 .i64 ((n : Int) + 1) ((n : Int) + 1) (by omega) (by omega) (by rw [hz2]; omega) (by omega)
  rw [this]
  have e : ((n : Int) + 1).toNat = n + 1 := by omega
  rw [e, hz1, Nat.mul_one]
  rfl

/-- A row of flags in memory. -/
def RowS (w : World) (b n : Nat) (f : Nat → Bool) : Prop := ∀ j, j ≤ n → w.cell? ⟨b, j, none⟩ = some (.bool (f j)) ∧ w.frozen? ⟨b, j, none⟩ = false

theorem RowS.set {w : World} {b n : Nat} {f : Nat → Bool} (h : RowS w b n f) (i : Nat) (hi : i ≤ n) (v : Bool) : RowS (w.setCell ⟨b, i, none⟩ (.bool v)) b n (fun j => if j = i then v else f j) := by
  intro j hj
  refine ⟨?_, by rw [World.frozen?_setCell]; exact (h j hj).2⟩
  by_cases e : j = i
  · subst e
    rw [World.cell?_setCell_same' _ _ _ (by rw [(h j hj).1]; rfl)]; simp
  · have hne : (⟨b, i, none⟩ : Addr) ≠ ⟨b, j, none⟩ := fun h => by cases h; exact e rfl
    rw [World.cell?_setCell_other _ _ _ _ hne, (h j hj).1]; simp [e]

theorem rowS_made (w : World) (n : Nat) : RowS (w.alloc (.cells (madeCells #[.bool false] (n + 1)) 4)) w.heap.size n (fun _ => false) := by
  intro j hj
  constructor
  · rw [World.cell?_alloc_new, madeCells]
    have h1 : j % 1 = 0 := by omega
    simp [Nat.lt_succ_of_le hj, h1]
  · simp
theorem rowS_start (w : World) (n : Nat) : RowS (w.alloc (.cells ((madeCells #[.bool false] (n + 1)).setIfInBounds 0 (.bool true)) 4)) w.heap.size n (fun j => decide (j = 0)) := by
  intro j hj
  constructor
  · rw [World.cell?_alloc_new, madeCells]
    have h1 : j % 1 = 0 := by omega
    by_cases h0 : j = 0
    · subst h0; simp
    · have h0' : ¬ 0 = j := fun e => h0 e.symm
      simp [Nat.lt_succ_of_le hj, h1, h0, h0']
  · simp
theorem RowS.below {w w' : World} {B b n : Nat} {f : Nat → Bool} (h : RowS w b n f) (hb : Below B w w') (hlt : b < B) : RowS w' b n f := by
  intro j hj
  have := h j hj
  exact ⟨(hb.cell (p := ⟨b, j, none⟩) hlt).trans this.1, (hb.frozen (p := ⟨b, j, none⟩) hlt).trans this.2⟩
theorem RowS.far {w : World} {b n : Nat} {f : Nat → Bool} (h : RowS w b n f) (c i : Nat) (v : Value) (hne : c ≠ b) : RowS (w.setCell ⟨c, i, none⟩ v) b n f := by
  intro j hj
  refine ⟨?_, by rw [World.frozen?_setCell]; exact (h j hj).2⟩
  have hne : (⟨c, i, none⟩ : Addr) ≠ ⟨b, j, none⟩ := fun h => by cases h; exact hne rfl
  rw [World.cell?_setCell_other _ _ _ _ hne, (h j hj).1]

structure FnsS (any : ByteArray → Bool) (one : ByteArray → ByteArray → Bool) (fa fo : FuncId) (ms ps : List ByteArray) : Prop where
  ea : ∀ x w, (callFunc fa #[.string x]).run Try.prog w = .ok (.enter fa #[.string x]) w
  eo : ∀ x y w, (callFunc fo #[.string x, .string y]).run Try.prog w = .ok (.enter fo #[.string x, .string y]) w
  ca : ∀ x w, Calls Try.prog fa #[.string x] w fun e w' => e = .returned (.bool (any x)) ∧ w = w'
  co : ∀ x ∈ ms, ∀ y ∈ ps, ∀ w, Calls Try.prog fo #[.string x, .string y] w fun e w' => e = .returned (.bool (one x y)) ∧ Below w.heap.size w w'

set_option maxRecDepth 100000 in
set_option maxHeartbeats 8000000 in
theorem rowsS_any (any : ByteArray → Bool) (one : ByteArray → ByteArray → Bool) (fa fo : FuncId) (ms ps : List ByteArray) (F : FnsS any one fa fo ms ps) (bm om cm bp op cp : Nat) (w : World) (hn : ms.length ≤ 1000) (hq : ps.length ≤ 1000)
    (hm : ∀ i (h : i < ms.length), w.cell? ⟨bm, om + i, none⟩ = some (.string ms[i])) (hp : ∀ i (h : i < ps.length), w.cell? ⟨bp, op + i, none⟩ = some (.string ps[i])) :
    Calls Try.prog 24 #[.slice (some ⟨bm, om, none⟩) ms.length cm, .slice (some ⟨bp, op, none⟩) ps.length cp, .func (.func fa) #[] #[], .func (.func fo) #[] #[]] w fun e w' => e = .returned (.bool (mat any one ms ps)) ∧ Below w.heap.size w w' := by
  have hmk := makeRowS ms.length (by omega)
  have hea := F.ea
  have heo := F.eo
  have hr0 := rowS_made w ms.length
  have hc0 := (hr0 0 (Nat.zero_le _)).1
  have hf0 := (hr0 0 (Nat.zero_le _)).2
  go_enter Try.func24, Try.ntmps24
  go_wp2
  go_loopw [25] (fun i wr => ∃ (k : Nat) (f : Nat → Bool), i = .int .i64 k ∧ k ≤ ms.length ∧ RowS wr w.heap.size ms.length f ∧ Keep (∀ j, j ≤ k → f j = mat any one (ms.take j) []) ∧ Below w.heap.size w wr ∧ w.heap.size < wr.heap.size) (fun i _ => ms.length - (intOf i).toNat)
  case atStart =>
    refine ⟨0, _, rfl, Nat.zero_le _, rowS_start w ms.length, ⟨fun j hj => ?_⟩, (Below.refl _ w).alloc (Nat.le_refl _) _, by simp⟩
    obtain rfl : j = 0 := by omega
    rfl
  case round =>
    obtain ⟨k, f, rfl, hk, hR, HF, hB, hlt⟩ := hrel
    clear hr0 hc0 hf0
    by_cases hkl : k < ms.length
    · have hkl' : (k : Int) < ms.length := by omega
      have c1 := (hR k hk).1
      have c2 := (hR (k + 1) (by omega)).1
      have c3 := (hR (k + 1) (by omega)).2
      have c4 := cell_later hB (hm k hkl)
      have hca := F.ca ms[k] wr
      have hfk := HF.out k (Nat.le_refl _)
      have hnext : ∀ v : Bool, v = (f k && any ms[k]) → Keep (∀ j, j ≤ k + 1 → (fun j => if j = k + 1 then v else f j) j = mat any one (ms.take j) []) := fun v hv => ⟨fun j hj => by
        by_cases e : j = k + 1
        · subst e; simp only [if_true]; rw [List.take_succ_eq_append_getElem hkl, mat_snoc_nil, ← hfk, hv]
        · simp only [e, if_false]; exact HF.out j (by omega)⟩
      have hset := fun v => hR.set (k + 1) (by omega) v
      have hBset := fun v : Bool => hB.setCell (p := ⟨w.heap.size, k + 1, none⟩) (Nat.le_refl _) (.bool v)
      have HS : Keep (∀ v, RowS (wr.setCell ⟨w.heap.size, k + 1, none⟩ (.bool v)) w.heap.size ms.length (fun j => if j = k + 1 then v else f j)) := ⟨hset⟩
      clear hset hfk HF hR
      cases hf : f k with
      | false =>
        rw [hf] at c1
        have hK := hnext false (by simp [hf])
        clear hnext hca
        go_wp2
        go_roundw
        case rel => exact ⟨k + 1, _, by congr 1, by omega, HS.out false, hK, hBset false, by simp; exact hlt⟩
        case measure => simp only [intOf]; omega
      | true =>
        rw [hf] at c1
        have hK := hnext (any ms[k]) (by simp [hf])
        clear hnext
        go_wp2_with fail
        refine hca.mono ?_
        rintro e w' ⟨rfl, rfl⟩
        go_wp2
        go_roundw
        case rel => exact ⟨k + 1, _, by congr 1, by omega, HS.out _, hK, hBset _, by simp; exact hlt⟩
        case measure => simp only [intOf]; omega
    · obtain rfl : k = ms.length := by omega
      have HF' : Keep (∀ j, j ≤ ms.length → f j = mat any one (ms.take j) (ps.take 0)) := ⟨fun j hj => by rw [HF.out j hj]; rfl⟩
      clear HF hkl hk
      go_wp2
      go_loopw [9, 46] (fun r i wr => ∃ (b k : Nat) (f : Nat → Bool), r = .slice (some ⟨b, 0, none⟩) (ms.length + 1) (ms.length + 1) ∧ i = .int .i64 k ∧ k ≤ ps.length ∧ RowS wr b ms.length f ∧ Keep (∀ j, j ≤ ms.length → f j = mat any one (ms.take j) (ps.take k)) ∧ Below w.heap.size w wr ∧ w.heap.size ≤ b ∧ b < wr.heap.size) (fun _ i _ => ps.length - (intOf i).toNat)
      case atStart => exact ⟨w.heap.size, 0, f, rfl, rfl, Nat.zero_le _, hR, HF', hB, Nat.le_refl _, hlt⟩
      case round =>
        clear hR HF' hB hlt
        obtain ⟨b, k, f, rfl, rfl, hk, hR, HF, hB, hbB, hlt⟩ := hrel
        by_cases hkl : k < ps.length
        · have hkl' : (k : Int) < ps.length := by omega
          have d1 := cell_later hB (hp k hkl)
          rename World => W2
          have hg0 := rowS_made W2 ms.length
          have hB0 : Below w.heap.size w (W2.alloc (.cells (madeCells #[.bool false] (ms.length + 1)) 4)) := hB.alloc hB.size _
          have hR0 : RowS (W2.alloc (.cells (madeCells #[.bool false] (ms.length + 1)) 4)) b ms.length f := hR.below ((Below.refl _ W2).alloc (Nat.le_refl _) _) hlt
          have HG0 : Keep (∀ j, j ≤ 0 → (fun _ => false : Nat → Bool) j = mat any one (ms.take j) (ps.take (k + 1))) := ⟨fun j hj => by
            obtain rfl : j = 0 := by omega
            rw [List.take_zero, List.take_succ_eq_append_getElem hkl, mat_nil_snoc]⟩
          go_wp2
          go_loopw [55] (fun i wx => ∃ (l : Nat) (g : Nat → Bool), i = .int .i64 l ∧ l ≤ ms.length ∧ RowS wx b ms.length f ∧ RowS wx W2.heap.size ms.length g ∧ Keep (∀ j, j ≤ l → g j = mat any one (ms.take j) (ps.take (k + 1))) ∧ Below w.heap.size w wx ∧ W2.heap.size < wx.heap.size) (fun i _ => ms.length - (intOf i).toNat)
          case atStart => exact ⟨0, _, rfl, Nat.zero_le _, hR0, hg0, HG0, hB0, by simp⟩
          case round =>
            clear hg0 hB0 hR0 HG0 hR d1
            obtain ⟨l, g, rfl, hl, hR, hG, HG, hBx, hltx⟩ := hrel
            have hBs := hB.size
            by_cases hll : l < ms.length
            · have hll' : (l : Int) < ms.length := by omega
              have c1 := (hG l hl).1
              have c2 := (hG (l + 1) (by omega)).1
              have c3 := (hG (l + 1) (by omega)).2
              have c4 := cell_later hBx (hm l hll)
              have e1 := (hR l hl).1
              have e2 := (hR (l + 1) (by omega)).1
              have hca := F.ca ms[l] wr
              have hco := F.co ms[l] (List.getElem_mem hll) ps[k] (List.getElem_mem hkl) wr
              have hfl := HF.out l hl
              have hfl1 := HF.out (l + 1) hll
              have hgl := HG.out l (Nat.le_refl _)
              have hne : W2.heap.size ≠ b := by omega
              have hnx : ∀ v : Bool, v = mat any one (ms.take (l + 1)) (ps.take (k + 1)) → Keep (∀ j, j ≤ l + 1 → (fun j => if j = l + 1 then v else g j) j = mat any one (ms.take j) (ps.take (k + 1))) := fun v hv => ⟨fun j hj => by
                by_cases e : j = l + 1
                · subst e; simp only [if_true]; exact hv
                · simp only [e, if_false]; exact HG.out j (by omega)⟩
              have hany : any ms[l] = true → mat any one (ms.take (l + 1)) (ps.take (k + 1)) = (g l || f (l + 1)) := fun h => by
                rw [List.take_succ_eq_append_getElem hkl, List.take_succ_eq_append_getElem hll, mat_snoc_any h, ← List.take_succ_eq_append_getElem hkl, ← List.take_succ_eq_append_getElem hll, hgl, hfl1]
              have hone : any ms[l] = false → mat any one (ms.take (l + 1)) (ps.take (k + 1)) = (f l && one ms[l] ps[k]) := fun h => by
                rw [List.take_succ_eq_append_getElem hkl, List.take_succ_eq_append_getElem hll, mat_snoc_one h, hfl]
              have HN : Keep (∀ v : Bool, ∀ wy, Below wr.heap.size wr wy → v = mat any one (ms.take (l + 1)) (ps.take (k + 1)) → ∃ (l' : Nat) (g' : Nat → Bool), Value.int .i64 ((l : Int) + 1) = .int .i64 l' ∧ l' ≤ ms.length ∧ RowS (wy.setCell ⟨W2.heap.size, l + 1, none⟩ (.bool v)) b ms.length f ∧ RowS (wy.setCell ⟨W2.heap.size, l + 1, none⟩ (.bool v)) W2.heap.size ms.length g' ∧ Keep (∀ j, j ≤ l' → g' j = mat any one (ms.take j) (ps.take (k + 1))) ∧ Below w.heap.size w (wy.setCell ⟨W2.heap.size, l + 1, none⟩ (.bool v)) ∧ W2.heap.size < (wy.setCell ⟨W2.heap.size, l + 1, none⟩ (.bool v)).heap.size) :=
                ⟨fun v wy hby hv => ⟨l + 1, _, by congr 1, hll, (hR.below hby (by omega)).far _ _ _ hne, (hG.below hby hltx).set (l + 1) hll v, hnx v hv, (hBx.trans (hby.mono hBx.size)).setCell (p := ⟨W2.heap.size, l + 1, none⟩) hBs _, by have := hby.size; simp; omega⟩⟩
              clear hR hG HG HF hnx hfl hfl1 hgl
              cases ha : any ms[l] with
              | true =>
                have hv := hany ha
                clear hany hone hco
                cases hg : g l with
                | true =>
                  rw [hg] at c1 hv
                  have hrel2 := HN.out true wr (Below.refl _ _) (by rw [hv]; simp)
                  clear HN
                  go_wp2_with fail
                  refine hca.mono ?_
                  rintro e w' ⟨rfl, rfl⟩
                  rw [ha]
                  go_wp2
                  go_roundw
                  case rel => exact hrel2
                  case measure => simp only [intOf]; omega
                | false =>
                  rw [hg] at c1 hv
                  have hrel2 := HN.out (f (l + 1)) wr (Below.refl _ _) (by rw [hv]; simp)
                  clear HN
                  go_wp2_with fail
                  refine hca.mono ?_
                  rintro e w' ⟨rfl, rfl⟩
                  rw [ha]
                  go_wp2
                  go_roundw
                  case rel => exact hrel2
                  case measure => simp only [intOf]; omega
              | false =>
                have hv := hone ha
                clear hany hone
                cases hf : f l with
                | false =>
                  rw [hf] at e1 hv
                  have hrel2 := HN.out false wr (Below.refl _ _) (by rw [hv]; simp)
                  clear HN hco
                  go_wp2_with fail
                  refine hca.mono ?_
                  rintro e w' ⟨rfl, rfl⟩
                  rw [ha]
                  go_wp2
                  go_roundw
                  case rel => exact hrel2
                  case measure => simp only [intOf]; omega
                | true =>
                  rw [hf] at e1 hv
                  go_wp2_with fail
                  refine hca.mono ?_
                  rintro e w' ⟨rfl, rfl⟩
                  rw [ha]
                  go_wp2_with fail
                  refine hco.mono ?_
                  rintro e wy ⟨rfl, hby⟩
                  have k2 := (hby.cell (p := ⟨W2.heap.size, l + 1, none⟩) hltx).trans c2
                  have k3 := (hby.frozen (p := ⟨W2.heap.size, l + 1, none⟩) hltx).trans c3
                  have hrel2 := HN.out (one ms[l] ps[k]) wy hby (by rw [hv]; simp)
                  clear HN hca hco c1 c2 c3 c4 e1 e2
                  go_wp2
                  go_roundw
                  case rel => exact hrel2
                  case measure => simp only [intOf]; omega
            · obtain rfl : l = ms.length := by omega
              go_wp2
              go_roundw
              case rel => exact ⟨W2.heap.size, k + 1, g, rfl, by congr 1, hkl, hG, HG, hBx, hBs, hltx⟩
              case measure => simp only [intOf]; omega
        · obtain rfl : k = ps.length := by omega
          have c1 := (hR ms.length (Nat.le_refl _)).1
          have c2 := HF.out ms.length (Nat.le_refl _)
          rw [List.take_length, List.take_length] at c2
          rw [c2] at c1
          clear c2 HF hR
          go_wp2
          go_ret
          exact ⟨rfl, hB⟩
end Go.Proofs.Ytcajheaacdeokaa

namespace Go.Proofs.Ytcajheaacdeokaa
open Go.RowKit

theorem makeRowR (n : Nat) (h : n ≤ 1000000) (w : World) : (Instr.makeSlice 66 (.int .i64 ((n : Int) + 1)) (.int .i64 ((n : Int) + 1))).run Try.prog w = .ok (.slice (some ⟨w.heap.size, 0, none⟩) (n + 1) (n + 1)) (w.alloc (.cells (madeCells #[.bool false] (n + 1)) 4)) := by
  have hb : (Try.prog.info? 4).map (fun i => (i.zero, i.size, i.bytes)) = some (some (.bool false), 1, 1) := by kernel_rfl
  obtain ⟨i0, hi, hz0, hz1, hz2⟩ := info_parts hb
  have := run_make (P := Try.prog) w 66 4 i0 (.bool false) Try.underlying66 hi hz0 .i64 .i64 ((n : Int) + 1) ((n : Int) + 1) (by omega) (by omega) (by rw [hz2]; omega) (by omega)
  rw [this]
  have e : ((n : Int) + 1).toNat = n + 1 := by omega
  rw [e, hz1, Nat.mul_one]
  rfl

/-- A row of flags in memory. -/
def RowR (w : World) (b n : Nat) (f : Nat → Bool) : Prop := ∀ j, j ≤ n → w.cell? ⟨b, j, none⟩ = some (.bool (f j)) ∧ w.frozen? ⟨b, j, none⟩ = false

theorem RowR.set {w : World} {b n : Nat} {f : Nat → Bool} (h : RowR w b n f) (i : Nat) (hi : i ≤ n) (v : Bool) : RowR (w.setCell ⟨b, i, none⟩ (.bool v)) b n (fun j => if j = i then v else f j) := by
  intro j hj
  refine ⟨?_, by rw [World.frozen?_setCell]; exact (h j hj).2⟩
  by_cases e : j = i
  · subst e
    rw [World.cell?_setCell_same' _ _ _ (by rw [(h j hj).1]; rfl)]; simp
  · have hne : (⟨b, i, none⟩ : Addr) ≠ ⟨b, j, none⟩ := fun h => by cases h; exact e rfl
    rw [World.cell?_setCell_other _ _ _ _ hne, (h j hj).1]; simp [e]

theorem rowR_made (w : World) (n : Nat) : RowR (w.alloc (.cells (madeCells #[.bool false] (n + 1)) 4)) w.heap.size n (fun _ => false) := by
  intro j hj
  constructor
  · rw [World.cell?_alloc_new, madeCells]
    have h1 : j % 1 = 0 := by omega
    simp [Nat.lt_succ_of_le hj, h1]
  · simp
theorem rowR_start (w : World) (n : Nat) : RowR (w.alloc (.cells ((madeCells #[.bool false] (n + 1)).setIfInBounds 0 (.bool true)) 4)) w.heap.size n (fun j => decide (j = 0)) := by
  intro j hj
  constructor
  · rw [World.cell?_alloc_new, madeCells]
    have h1 : j % 1 = 0 := by omega
    by_cases h0 : j = 0
    · subst h0; simp
    · have h0' : ¬ 0 = j := fun e => h0 e.symm
      simp [Nat.lt_succ_of_le hj, h1, h0, h0']
  · simp
theorem RowR.below {w w' : World} {B b n : Nat} {f : Nat → Bool} (h : RowR w b n f) (hb : Below B w w') (hlt : b < B) : RowR w' b n f := by
  intro j hj
  have := h j hj
  exact ⟨(hb.cell (p := ⟨b, j, none⟩) hlt).trans this.1, (hb.frozen (p := ⟨b, j, none⟩) hlt).trans this.2⟩
theorem RowR.far {w : World} {b n : Nat} {f : Nat → Bool} (h : RowR w b n f) (c i : Nat) (v : Value) (hne : c ≠ b) : RowR (w.setCell ⟨c, i, none⟩ v) b n f := by
  intro j hj
  refine ⟨?_, by rw [World.frozen?_setCell]; exact (h j hj).2⟩
  have hne : (⟨c, i, none⟩ : Addr) ≠ ⟨b, j, none⟩ := fun h => by cases h; exact hne rfl
  rw [World.cell?_setCell_other _ _ _ _ hne, (h j hj).1]

structure FnsR (any : Int → Bool) (one : Int → Int → Bool) (fa fo : FuncId) (ms ps : List Int) : Prop where
  ea : ∀ x w, (callFunc fa #[.int .i32 x]).run Try.prog w = .ok (.enter fa #[.int .i32 x]) w
  eo : ∀ x y w, (callFunc fo #[.int .i32 x, .int .i32 y]).run Try.prog w = .ok (.enter fo #[.int .i32 x, .int .i32 y]) w
  ca : ∀ x w, Calls Try.prog fa #[.int .i32 x] w fun e w' => e = .returned (.bool (any x)) ∧ w = w'
  co : ∀ x ∈ ms, ∀ y ∈ ps, ∀ w, Calls Try.prog fo #[.int .i32 x, .int .i32 y] w fun e w' => e = .returned (.bool (one x y)) ∧ Below w.heap.size w w'

set_option maxRecDepth 100000 in
set_option maxHeartbeats 8000000 in
theorem rowsR_any (any : Int → Bool) (one : Int → Int → Bool) (fa fo : FuncId) (ms ps : List Int) (F : FnsR any one fa fo ms ps) (bm om cm bp op cp : Nat) (w : World) (hn : ms.length ≤ 1000) (hq : ps.length ≤ 1000)
    (hm : ∀ i (h : i < ms.length), w.cell? ⟨bm, om + i, none⟩ = some (.int .i32 ms[i])) (hp : ∀ i (h : i < ps.length), w.cell? ⟨bp, op + i, none⟩ = some (.int .i32 ps[i])) :
    Calls Try.prog 40 #[.slice (some ⟨bm, om, none⟩) ms.length cm, .slice (some ⟨bp, op, none⟩) ps.length cp, .func (.func fa) #[] #[], .func (.func fo) #[] #[]] w fun e w' => e = .returned (.bool (mat any one ms ps)) ∧ Below w.heap.size w w' := by
  have hmk := makeRowR ms.length (by omega)
  have hea := F.ea
  have heo := F.eo
  have hr0 := rowR_made w ms.length
  have hc0 := (hr0 0 (Nat.zero_le _)).1
  have hf0 := (hr0 0 (Nat.zero_le _)).2
  go_enter Try.func40, Try.ntmps40
  go_wp2
  go_loopw [25] (fun i wr => ∃ (k : Nat) (f : Nat → Bool), i = .int .i64 k ∧ k ≤ ms.length ∧ RowR wr w.heap.size ms.length f ∧ Keep (∀ j, j ≤ k → f j = mat any one (ms.take j) []) ∧ Below w.heap.size w wr ∧ w.heap.size < wr.heap.size) (fun i _ => ms.length - (intOf i).toNat)
  case atStart =>
    refine ⟨0, _, rfl, Nat.zero_le _, rowR_start w ms.length, ⟨fun j hj => ?_⟩, (Below.refl _ w).alloc (Nat.le_refl _) _, by simp⟩
    obtain rfl : j = 0 := by omega
    rfl
  case round =>
    obtain ⟨k, f, rfl, hk, hR, HF, hB, hlt⟩ := hrel
    clear hr0 hc0 hf0
    by_cases hkl : k < ms.length
    · have hkl' : (k : Int) < ms.length := by omega
      have c1 := (hR k hk).1
      have c2 := (hR (k + 1) (by omega)).1
      have c3 := (hR (k + 1) (by omega)).2
      have c4 := cell_later hB (hm k hkl)
      have hca := F.ca ms[k] wr
      have hfk := HF.out k (Nat.le_refl _)
      have hnext : ∀ v : Bool, v = (f k && any ms[k]) → Keep (∀ j, j ≤ k + 1 → (fun j => if j = k + 1 then v else f j) j = mat any one (ms.take j) []) := fun v hv => ⟨fun j hj => by
        by_cases e : j = k + 1
        · subst e; simp only [if_true]; rw [List.take_succ_eq_append_getElem hkl, mat_snoc_nil, ← hfk, hv]
        · simp only [e, if_false]; exact HF.out j (by omega)⟩
      have hset := fun v => hR.set (k + 1) (by omega) v
      have hBset := fun v : Bool => hB.setCell (p := ⟨w.heap.size, k + 1, none⟩) (Nat.le_refl _) (.bool v)
      have HS : Keep (∀ v, RowR (wr.setCell ⟨w.heap.size, k + 1, none⟩ (.bool v)) w.heap.size ms.length (fun j => if j = k + 1 then v else f j)) := ⟨hset⟩
      clear hset hfk HF hR
      cases hf : f k with
      | false =>
        rw [hf] at c1
        have hK := hnext false (by simp [hf])
        clear hnext hca
        go_wp2
        go_roundw
        case rel => exact ⟨k + 1, _, by congr 1, by omega, HS.out false, hK, hBset false, by simp; exact hlt⟩
        case measure => simp only [intOf]; omega
      | true =>
        rw [hf] at c1
        have hK := hnext (any ms[k]) (by simp [hf])
        clear hnext
        go_wp2_with fail
        refine hca.mono ?_
        rintro e w' ⟨rfl, rfl⟩
        go_wp2
        go_roundw
        case rel => exact ⟨k + 1, _, by congr 1, by omega, HS.out _, hK, hBset _, by simp; exact hlt⟩
        case measure => simp only [intOf]; omega
    · obtain rfl : k = ms.length := by omega
      have HF' : Keep (∀ j, j ≤ ms.length → f j = mat any one (ms.take j) (ps.take 0)) := ⟨fun j hj => by rw [HF.out j hj]; rfl⟩
      clear HF hkl hk
      go_wp2
      go_loopw [9, 46] (fun r i wr => ∃ (b k : Nat) (f : Nat → Bool), r = .slice (some ⟨b, 0, none⟩) (ms.length + 1) (ms.length + 1) ∧ i = .int .i64 k ∧ k ≤ ps.length ∧ RowR wr b ms.length f ∧ Keep (∀ j, j ≤ ms.length → f j = mat any one (ms.take j) (ps.take k)) ∧ Below w.heap.size w wr ∧ w.heap.size ≤ b ∧ b < wr.heap.size) (fun _ i _ => ps.length - (intOf i).toNat)
      case atStart => exact ⟨w.heap.size, 0, f, rfl, rfl, Nat.zero_le _, hR, HF', hB, Nat.le_refl _, hlt⟩
      case round =>
        clear hR HF' hB hlt
        obtain ⟨b, k, f, rfl, rfl, hk, hR, HF, hB, hbB, hlt⟩ := hrel
        by_cases hkl : k < ps.length
        · have hkl' : (k : Int) < ps.length := by omega
          have d1 := cell_later hB (hp k hkl)
          rename World => W2
          have hg0 := rowR_made W2 ms.length
          have hB0 : Below w.heap.size w (W2.alloc (.cells (madeCells #[.bool false] (ms.length + 1)) 4)) := hB.alloc hB.size _
          have hR0 : RowR (W2.alloc (.cells (madeCells #[.bool false] (ms.length + 1)) 4)) b ms.length f := hR.below ((Below.refl _ W2).alloc (Nat.le_refl _) _) hlt
          have HG0 : Keep (∀ j, j ≤ 0 → (fun _ => false : Nat → Bool) j = mat any one (ms.take j) (ps.take (k + 1))) := ⟨fun j hj => by
            obtain rfl : j = 0 := by omega
            rw [List.take_zero, List.take_succ_eq_append_getElem hkl, mat_nil_snoc]⟩
          go_wp2
          go_loopw [55] (fun i wx => ∃ (l : Nat) (g : Nat → Bool), i = .int .i64 l ∧ l ≤ ms.length ∧ RowR wx b ms.length f ∧ RowR wx W2.heap.size ms.length g ∧ Keep (∀ j, j ≤ l → g j = mat any one (ms.take j) (ps.take (k + 1))) ∧ Below w.heap.size w wx ∧ W2.heap.size < wx.heap.size) (fun i _ => ms.length - (intOf i).toNat)
          case atStart => exact ⟨0, _, rfl, Nat.zero_le _, hR0, hg0, HG0, hB0, by simp⟩
          case round =>
            clear hg0 hB0 hR0 HG0 hR d1
            obtain ⟨l, g, rfl, hl, hR, hG, HG, hBx, hltx⟩ := hrel
            have hBs := hB.size
            by_cases hll : l < ms.length
            · have hll' : (l : Int) < ms.length := by omega
              have c1 := (hG l hl).1
              have c2 := (hG (l + 1) (by omega)).1
              have c3 := (hG (l + 1) (by omega)).2
              have c4 := cell_later hBx (hm l hll)
              have e1 := (hR l hl).1
              have e2 := (hR (l + 1) (by omega)).1
              have hca := F.ca ms[l] wr
              have hco := F.co ms[l] (List.getElem_mem hll) ps[k] (List.getElem_mem hkl) wr
              have hfl := HF.out l hl
              have hfl1 := HF.out (l + 1) hll
              have hgl := HG.out l (Nat.le_refl _)
              have hne : W2.heap.size ≠ b := by omega
              have hnx : ∀ v : Bool, v = mat any one (ms.take (l + 1)) (ps.take (k + 1)) → Keep (∀ j, j ≤ l + 1 → (fun j => if j = l + 1 then v else g j) j = mat any one (ms.take j) (ps.take (k + 1))) := fun v hv => ⟨fun j hj => by
                by_cases e : j = l + 1
                · subst e; simp only [if_true]; exact hv
                · simp only [e, if_false]; exact HG.out j (by omega)⟩
              have hany : any ms[l] = true → mat any one (ms.take (l + 1)) (ps.take (k + 1)) = (g l || f (l + 1)) := fun h => by
                rw [List.take_succ_eq_append_getElem hkl, List.take_succ_eq_append_getElem hll, mat_snoc_any h, ← List.take_succ_eq_append_getElem hkl, ← List.take_succ_eq_append_getElem hll, hgl, hfl1]
              have hone : any ms[l] = false → mat any one (ms.take (l + 1)) (ps.take (k + 1)) = (f l && one ms[l] ps[k]) := fun h => by
                rw [List.take_succ_eq_append_getElem hkl, List.take_succ_eq_append_getElem hll, mat_snoc_one h, hfl]
              have HN : Keep (∀ v : Bool, ∀ wy, Below wr.heap.size wr wy → v = mat any one (ms.take (l + 1)) (ps.take (k + 1)) → ∃ (l' : Nat) (g' : Nat → Bool), Value.int .i64 ((l : Int) + 1) = .int .i64 l' ∧ l' ≤ ms.length ∧ RowR (wy.setCell ⟨W2.heap.size, l + 1, none⟩ (.bool v)) b ms.length f ∧ RowR (wy.setCell ⟨W2.heap.size, l + 1, none⟩ (.bool v)) W2.heap.size ms.length g' ∧ Keep (∀ j, j ≤ l' → g' j = mat any one (ms.take j) (ps.take (k + 1))) ∧ Below w.heap.size w (wy.setCell ⟨W2.heap.size, l + 1, none⟩ (.bool v)) ∧ W2.heap.size < (wy.setCell ⟨W2.heap.size, l + 1, none⟩ (.bool v)).heap.size) :=
                ⟨fun v wy hby hv => ⟨l + 1, _, by congr 1, hll, (hR.below hby (by omega)).far _ _ _ hne, (hG.below hby hltx).set (l + 1) hll v, hnx v hv, (hBx.trans (hby.mono hBx.size)).setCell (p := ⟨W2.heap.size, l + 1, none⟩) hBs _, by have := hby.size; simp; omega⟩⟩
              clear hR hG HG HF hnx hfl hfl1 hgl
              cases ha : any ms[l] with
              | true =>
                have hv := hany ha
                clear hany hone hco
                cases hg : g l with
                | true =>
                  rw [hg] at c1 hv
                  have hrel2 := HN.out true wr (Below.refl _ _) (by rw [hv]; simp)
                  clear HN
                  go_wp2_with fail
                  refine hca.mono ?_
                  rintro e w' ⟨rfl, rfl⟩
                  rw [ha]
                  go_wp2
                  go_roundw
                  case rel => exact hrel2
                  case measure => simp only [intOf]; omega
                | false =>
                  rw [hg] at c1 hv
                  have hrel2 := HN.out (f (l + 1)) wr (Below.refl _ _) (by rw [hv]; simp)
                  clear HN
                  go_wp2_with fail
                  refine hca.mono ?_
                  rintro e w' ⟨rfl, rfl⟩
                  rw [ha]
                  go_wp2
                  go_roundw
                  case rel => exact hrel2
                  case measure => simp only [intOf]; omega
              | false =>
                have hv := hone ha
                clear hany hone
                cases hf : f l with
                | false =>
                  rw [hf] at e1 hv
                  have hrel2 := HN.out false wr (Below.refl _ _) (by rw [hv]; simp)
                  clear HN hco
                  go_wp2_with fail
                  refine hca.mono ?_
                  rintro e w' ⟨rfl, rfl⟩
                  rw [ha]
                  go_wp2
                  go_roundw
                  case rel => exact hrel2
                  case measure => simp only [intOf]; omega
                | true =>
                  rw [hf] at e1 hv
                  go_wp2_with fail
                  refine hca.mono ?_
                  rintro e w' ⟨rfl, rfl⟩
                  rw [ha]
                  go_wp2_with fail
                  refine hco.mono ?_
                  rintro e wy ⟨rfl, hby⟩
                  have k2 := (hby.cell (p := ⟨W2.heap.size, l + 1, none⟩) hltx).trans c2
                  have k3 := (hby.frozen (p := ⟨W2.heap.size, l + 1, none⟩) hltx).trans c3
                  have hrel2 := HN.out (one ms[l] ps[k]) wy hby (by rw [hv]; simp)
                  clear HN hca hco c1 c2 c3 c4 e1 e2
                  go_wp2
                  go_roundw
                  case rel => exact hrel2
                  case measure => simp only [intOf]; omega
            · obtain rfl : l = ms.length := by omega
              go_wp2
              go_roundw
              case rel => exact ⟨W2.heap.size, k + 1, g, rfl, by congr 1, hkl, hG, HG, hBx, hBs, hltx⟩
              case measure => simp only [intOf]; omega
        · obtain rfl : k = ps.length := by omega
          have c1 := (hR ms.length (Nat.le_refl _)).1
          have c2 := HF.out ms.length (Nat.le_refl _)
          rw [List.take_length, List.take_length] at c2
          rw [c2] at c1
          clear c2 HF hR
          go_wp2
          go_ret
          exact ⟨rfl, hB⟩
end Go.Proofs.Ytcajheaacdeokaa

namespace Go.Proofs.Ytcajheaacdeokaa
open Go.RowKit Go.Shelf

attribute [local go_sem] Oper.semAt_some

theorem partsB_le (s : ByteArray) : (partsB s).length ≤ s.size + 1 := by
  have := splitS_le s.data.toList
  rw [partsB, List.length_map]
  rw [← Lib.size_eq] at this
  exact this

def ColPost (s : ByteArray) (w : World) (e : Ending) (w' : World) : Prop :=
  ∃ ad cp, e = .returned (.slice ad (partsB s).length cp) ∧ w'.ownsRow w.heap.size 9 1 (.slice ad (partsB s).length cp) (partsB s).length ((partsB s).map .string) ∧ Below w.heap.size w w'

set_option maxRecDepth 100000 in
set_option maxHeartbeats 4000000 in
theorem appendSeq_any (Bs : Nat) (s : ByteArray) (hs : s.size ≤ 1000000) (w : World) (hlt : Bs < w.heap.size) (hc : w.cell? ⟨Bs, 0, none⟩ = some (.string s)) :
    Calls Try.prog 37 #[.slice none 0 0, .func (.func 38) #[] #[.pointer (some ⟨Bs, 0, none⟩)]] w fun e w' => ColPost s w e w' := by
  obtain ⟨i0, hi, hz0, hz1, hz2⟩ := info_parts Try.infoStr
  have hN := partsB_le s
  refine (callsIn_wide (n := 5)).1 ?_
  refine callsIn_of_wp_marks Try.func37 rfl trivial ?_ rfl
  simp only [Try.ntmps37, List.size_toArray, List.length_cons, List.length_nil, Nat.reduceAdd, Nat.reduceSub, Array.replicate_succ, Array.replicate_zero, List.push_toArray, List.append_toArray, List.nil_append, List.cons_append]
  gi_wp2
  have bO := Boxed.new w 30 (.slice none 0 0)
  have hB0 : Below w.heap.size w (w.alloc (.cells #[.slice none 0 0] 30)) := (Below.refl _ w).alloc (Nat.le_refl _) _
  refine wpIn_rangeFunc_ownF (n := 5) rfl (by omega) (gf := 38) (lb := #[.pointer (some ⟨Bs, 0, none⟩)]) rfl trivial (enters_of Try.func38 (by kernel_rfl) rfl)
    (partsOf1_stops _ Bs s (by omega) (Below w.heap.size) _ (by simp; omega) ((hB0.cell (p := ⟨Bs, 0, none⟩) hlt).trans hc)) belowK_t (belowK_b (by simp)) (Below.refl _ _) (fun _ => rfl)
    (fun pre W => (∃ v, Boxed W w.heap.size 30 v ∧ W.ownsRow w.heap.size 9 1 v pre.length (pre.map .string) ∧ True) ∧ Below w.heap.size w W)
    (fun _ _ _ => False)
    (OwnFrom.and (Own.from (holdsRow_own w.heap.size w.heap.size 30 9 1 (fun pre : List ByteArray => pre.length) (fun pre => pre.map .string) (fun _ _ => True)) _) (ownFrom_below (Nat.le_refl _) (by simp)))
    (fun _ _ _ _ _ hs _ _ => hs)
    ⟨⟨_, bO, World.ownsRow_nil _ _ _ _, trivial⟩, hB0⟩
    (fun x => { tmps := #[.slice none 0 0, .func (.func 38) #[] #[.pointer (some ⟨Bs, 0, none⟩)], .pointer (some ⟨w.heap.size, 0, none⟩), undef, .slice none 0 0, .string x, .func (.func 38) #[] #[.pointer (some ⟨Bs, 0, none⟩)], .string x, undef, undef, undef, undef, undef], defers := [] }) ?assign ?body ?done ?stop
  case assign =>
    intro l x W K hK
    gi_wp2
    exact hK
  case body =>
    rintro l pre x W ⟨⟨v, hv, hrow, _⟩, hB⟩ hl2
    have hcv := hv.cell
    have hpl : pre.length + 1 ≤ 1000001 := by omega
    gi_wp2_with (gi_at_builtin; refine wpListIn_append_own _ rfl _ _ 30 rfl w.heap.size 9 i0 _ 1 16 Try.underlying30 hi hz0 hz1 hz2 rfl (by decide) _ _ _ rfl (hrow.alloc _) ⟨W.heap.size, 0, none⟩ 1 1 [.string x] rfl rfl (cell_one_new _ _ _) (by simp [Value.oneCell']) (by unfold maxLen; omega) (by omega) (by have := hB.size; simp; omega) ?_; intro v' w1 hown' hgrow _; obtain ⟨g', cap', rfl⟩ := ownsRow_succ hown'; obtain ⟨hv1, hv2, hr2, hk2, hb2⟩ := hv.appended (by decide) hrow hB.size (Nat.le_refl _) hown' hgrow; have hc1 := hv1.cell; have hf1 := hv1.frozen)
    exact ⟨hk2, hb2, ⟨_, hv2, by simpa using hr2, trivial⟩, hB.trans hb2⟩
  case done =>
    rintro D ys W hD rfl ⟨⟨v, hv, hrow, _⟩, hB⟩ hK
    have hcv := hv.cell
    obtain ⟨ad, cp, rfl⟩ := owns_slice hrow
    gi_wp2
    refine ⟨by simp, .inl ⟨_, _, rfl, run_takeDeferred hK, ?_⟩⟩
    exact ⟨_, results_tmp rfl _ _ _, ad, cp, rfl, ownsRow_putObj hrow _ hK rfl, hB.trans (belowK_b (w := w) (Nat.le_refl _) W D _ _ (by simp at hD; omega) hK rfl rfl)⟩
  case stop =>
    rintro D c pre W _ _ h _
    exact h.elim

set_option maxHeartbeats 400000 in
theorem collect_any (Bs : Nat) (s : ByteArray) (hs : s.size ≤ 1000000) (w : World) (hlt : Bs < w.heap.size) (hc : w.cell? ⟨Bs, 0, none⟩ = some (.string s)) :
    Calls Try.prog 22 #[.func (.func 38) #[] #[.pointer (some ⟨Bs, 0, none⟩)]] w fun e w' => ColPost s w e w' := by
  go_enter Try.func22, Try.ntmps22
  go_wp2_with (go_at_call 37; refine (appendSeq_any Bs s hs _ hlt hc).mono ?_; rintro e w1 ⟨ad, cp, rfl, ho, hb⟩)
  go_ret
  exact ⟨ad, cp, rfl, ho, hb⟩
end Go.Proofs.Ytcajheaacdeokaa

namespace Go.Proofs.Ytcajheaacdeokaa
open Go.RowKit

def num (c : UInt8) : Int := (c.toNat : Int)
def nums (l : List UInt8) : List Int := l.map num
def anyB (m : Int) : Bool := m == 42
def oneB (m r : Int) : Bool := m == 63 || m == r

theorem mkB_toList (l : List UInt8) : (mkB l).toList = l := by rw [Lib.toList_data, mkB_list]
theorem mkB_tail (c : UInt8) (l : List UInt8) : (mkB (c :: l)).extract 1 (mkB (c :: l)).size = mkB l := by
  rw [extract_mkB, mkB_list, mkB_size]
  simp

def BytesPost (g p : List UInt8) (w : World) (e : Ending) (w' : World) : Prop := e = .returned (.bool (mat anyB oneB (nums g) (nums p))) ∧ ∃ n, w' = w.drewN n

theorem bAny_nil {c : UInt8} {cs : List UInt8} (h : anyB (num c) = true) : mat anyB oneB (nums (c :: cs)) (nums []) = mat anyB oneB (nums cs) (nums []) := mat_any_nil h
theorem bAny {c : UInt8} {cs : List UInt8} (h : anyB (num c) = true) (q : UInt8) (qs : List UInt8) : mat anyB oneB (nums (c :: cs)) (nums (q :: qs)) = (mat anyB oneB (nums cs) (nums (q :: qs)) || mat anyB oneB (nums (c :: cs)) (nums qs)) := mat_any h _ _
theorem bOne_nil {c : UInt8} {cs : List UInt8} (h : anyB (num c) = false) : mat anyB oneB (nums (c :: cs)) (nums []) = false := mat_one_nil h
theorem bOne {c : UInt8} {cs : List UInt8} (h : anyB (num c) = false) (q : UInt8) (qs : List UInt8) : mat anyB oneB (nums (c :: cs)) (nums (q :: qs)) = (oneB (num c) (num q) && mat anyB oneB (nums cs) (nums qs)) := mat_one h _ _

/-- A text by its first byte and the rest. -/
structure Cut1 (S : ByteArray) (c : UInt8) (cs : List UInt8) : Prop where
  full : S.toList.isEmpty = false
  pos : 0 < S.size
  head : ∀ h : 0 < S.size, ((S[0]'h).toNat : Int) = num c
  tail : S.extract 1 S.size = mkB cs
theorem cut1 (c : UInt8) (cs : List UInt8) : Cut1 (mkB (c :: cs)) c cs :=
  ⟨by rw [mkB_toList]; rfl, by rw [mkB_size]; simp, fun _ => rfl, mkB_tail c cs⟩

set_option maxRecDepth 100000 in
set_option maxHeartbeats 4000000 in
theorem l4Bytes_any : ∀ (N : Nat) (g p : List UInt8) (w : World), g.length + p.length < N →
    Calls Try.prog 43 #[.string (mkB g), .string (mkB p)] w fun e w' => BytesPost g p w e w' := by
  intro N
  induction N with
  | zero => intro g p w hN; omega
  | succ N ih =>
    intro g p w hN
    cases g with
    | nil =>
      have e1 : (mkB []).toList.isEmpty = true := by rw [mkB_toList]; rfl
      cases p with
      | nil =>
        go_enter Try.func43, Try.ntmps43
        go_wp2
        go_ret
        exact ⟨rfl, 0, rfl⟩
      | cons q qs =>
        have e2 : (mkB (q :: qs)).toList.isEmpty = false := by rw [mkB_toList]; rfl
        go_enter Try.func43, Try.ntmps43
        go_wp2
        go_ret
        exact ⟨rfl, 0, rfl⟩
    | cons c cs =>
      have h1 := fun w => ih cs p w (by simp at hN; omega)
      have hC := cut1 c cs
      have h2 : ∀ q qs, p = q :: qs → ∀ w, Calls Try.prog 43 #[.string (mkB (c :: cs)), .string (mkB qs)] w fun e w' => BytesPost (c :: cs) qs w e w' := fun q qs e w => ih (c :: cs) qs w (by rw [e] at hN; simp at hN ⊢; omega)
      have h3 : ∀ q qs, p = q :: qs → ∀ w, Calls Try.prog 43 #[.string (mkB cs), .string (mkB qs)] w fun e w' => BytesPost cs qs w e w' := fun q qs e w => ih cs qs w (by rw [e] at hN; simp at hN ⊢; omega)
      clear ih hN
      rw [← hC.tail] at h1 h3
      generalize mkB (c :: cs) = S at *
      have s0 := hC.pos
      have iS := hC.full
      have s0' : (0 : Int) < S.size := by omega
      have s1' : (1 : Int) ≤ S.size := by omega
      have hd := hC.head s0
      by_cases h42 : num c = 42
      · have b42 : (((S[0]'s0).toNat : Int) == 42) = true := by rw [hd, h42]; rfl
        have hany : anyB (num c) = true := by rw [h42]; rfl
        clear h3 hd
        go_enter Try.func43, Try.ntmps43
        go_wp2_with fail
        refine (h1 w).mono ?_
        rintro e w1 ⟨rfl, k1, rfl⟩
        cases hm : mat anyB oneB (nums cs) (nums p) with
        | true =>
          go_wp2
          go_ret
          refine ⟨retB ?_, _, rfl⟩
          cases p with
          | nil => exact ((bAny_nil hany).trans hm).symm
          | cons q qs => rw [bAny hany, hm]; rfl
        | false =>
          cases p with
          | nil =>
            have e2 : (mkB []).toList.isEmpty = true := by rw [mkB_toList]; rfl
            go_wp2
            go_ret
            exact ⟨retB ((bAny_nil hany).trans hm).symm, _, rfl⟩
          | cons q qs =>
            have hP := cut1 q qs
            have h4 := h2 q qs rfl
            rw [← hP.tail] at h4
            have hres : mat anyB oneB (nums (c :: cs)) (nums (q :: qs)) = mat anyB oneB (nums (c :: cs)) (nums qs) := by rw [bAny hany, hm]; rfl
            have HR : Keep (mat anyB oneB (nums (c :: cs)) (nums (q :: qs)) = mat anyB oneB (nums (c :: cs)) (nums qs)) := ⟨hres⟩
            clear h1 h2 hm hres
            generalize mkB (q :: qs) = P at *
            have iP := hP.full
            have p0 := hP.pos
            have p1' : (1 : Int) ≤ P.size := by omega
            go_wp2_with fail
            refine (h4 _).mono ?_
            rintro e w2 ⟨rfl, k2, rfl⟩
            go_wp2
            go_ret
            exact ⟨retB HR.out.symm, _, rfl⟩
      · have b42 : (((S[0]'s0).toNat : Int) == 42) = false := by rw [hd]; simpa using h42
        have hany : anyB (num c) = false := by simpa [anyB] using h42
        clear h1 h2
        cases p with
        | nil =>
          have e2 : (mkB []).toList.isEmpty = true := by rw [mkB_toList]; rfl
          go_enter Try.func43, Try.ntmps43
          go_wp2
          go_quiet (fail)
          go_wp2
          go_ret
          exact ⟨retB (bOne_nil hany).symm, _, rfl⟩
        | cons q qs =>
          have hP := cut1 q qs
          have h4 := h3 q qs rfl
          rw [← hP.tail] at h4
          have hres := bOne (cs := cs) hany q qs
          clear h3
          generalize mkB (q :: qs) = P at *
          have iP := hP.full
          have p0 := hP.pos
          have p0' : (0 : Int) < P.size := by omega
          have p1' : (1 : Int) ≤ P.size := by omega
          have hq := hP.head p0
          by_cases h63 : num c = 63
          · have b63 : (((S[0]'s0).toNat : Int) == 63) = true := by rw [hd, h63]; rfl
            have HR : Keep (mat anyB oneB (nums (c :: cs)) (nums (q :: qs)) = mat anyB oneB (nums cs) (nums qs)) := ⟨by rw [hres, oneB, h63]; simp⟩
            clear hres hd hq h63 h42
            go_enter Try.func43, Try.ntmps43
            go_wp2
            go_quiet ((go_at_call 43; refine (h4 _).mono ?_; rintro e w2 ⟨rfl, k2, rfl⟩; exact ⟨rfl, _, World.drewN_drewN _ _ _⟩))
            go_wp2
            go_ret
            exact ⟨retB HR.out.symm, _, rfl⟩
          · have b63 : (((S[0]'s0).toNat : Int) == 63) = false := by rw [hd]; simpa using h63
            by_cases hcq : num c = num q
            · have bcq : (((S[0]'s0).toNat : Int) == ((P[0]'p0).toNat : Int)) = true := by rw [hd, hq, hcq]; simp
              have HR : Keep (mat anyB oneB (nums (c :: cs)) (nums (q :: qs)) = mat anyB oneB (nums cs) (nums qs)) := ⟨by rw [hres, oneB, hcq]; simp⟩
              clear hres hd hq h63 h42 hcq
              go_enter Try.func43, Try.ntmps43
              go_wp2
              go_quiet ((go_at_call 43; refine (h4 _).mono ?_; rintro e w2 ⟨rfl, k2, rfl⟩; exact ⟨rfl, _, World.drewN_drewN _ _ _⟩))
              go_wp2
              go_ret
              exact ⟨retB HR.out.symm, _, rfl⟩
            · have bcq : (((S[0]'s0).toNat : Int) == ((P[0]'p0).toNat : Int)) = false := by rw [hd, hq]; simpa using hcq
              have HR : Keep (mat anyB oneB (nums (c :: cs)) (nums (q :: qs)) = false) := ⟨by rw [hres, oneB]; simp [h63, hcq]⟩
              clear hres hd hq h63 h42 hcq h4
              go_enter Try.func43, Try.ntmps43
              go_wp2
              go_quiet (fail)
              go_wp2
              go_ret
              exact ⟨retB HR.out.symm, _, rfl⟩
end Go.Proofs.Ytcajheaacdeokaa

namespace Go.Proofs.Ytcajheaacdeokaa
open Go.RowKit

def anyS (x : ByteArray) : Bool := x.toList == [42, 42]
def oneS (x y : ByteArray) : Bool := mat anyB oneB (nums x.data.toList) (nums y.data.toList)

/-- A slice of texts that is read. -/
structure RdS (w : World) (v : Value) (ss : List ByteArray) : Prop where
  at_ : ∃ a cap, v = .slice a ss.length cap ∧ ss.length ≤ cap ∧ SS w a ss

theorem RdS.drewN {w : World} {v : Value} {ss : List ByteArray} (h : RdS w v ss) (n : Nat) : RdS (w.drewN n) v ss := ⟨h.at_⟩

theorem bytesS_any (x y : ByteArray) (w : World) : Calls Try.prog 43 #[.string x, .string y] w fun e w' => e = .returned (.bool (oneS x y)) ∧ ∃ n, w' = w.drewN n := by
  have := l4Bytes_any (x.data.toList.length + y.data.toList.length + 1) x.data.toList y.data.toList w (by omega)
  rw [mkB_data, mkB_data] at this
  exact this

def MatchPost (gs ps : List ByteArray) (w : World) (e : Ending) (w' : World) : Prop := e = .returned (.bool (mat anyS oneS gs ps)) ∧ ∃ n, w' = w.drewN n

set_option maxRecDepth 100000 in
/-- What is behind the first text of a slice. -/
theorem tail_at {w : World} {a : Option Addr} {cap : Nat} {x : ByteArray} {xs : List ByteArray} (hc : (x :: xs).length ≤ cap) (h : SS w a (x :: xs)) :
    ∃ v, (∀ w1, (Instr.sliceAt 30 (.slice a (x :: xs).length cap) (some (.int .i64 1)) none none).run Try.prog w1 = .ok v w1) ∧ (∀ m, RdS (w.drewN m) v xs) ∧
      ∃ b o, a = some ⟨b, o, none⟩ ∧ w.cell? ⟨b, o, none⟩ = some (.string x) := by
  obtain ⟨b, o, rfl, hcell⟩ := h.at (k := 0) (by simp)
  refine ⟨sliced (some ⟨b, o, none⟩) 1 (x :: xs).length cap 1, fun w1 => ?_, fun m => ⟨?_⟩, b, o, rfl, hcell 0 (by simp)⟩
  · rw [run_sliceAt_slice w1 _ _ _ _ _ Try.underlying30, run_slice_l w1 _ _ _ _ Try.underlying30 .i64 1 (by omega) (by simp; omega)]
    have hz : (sizeOf (Try.prog.elem 30)).run Try.prog w1 = .ok 1 w1 := by kernel_rfl
    rw [hz]
    rfl
  · refine ⟨if cap = 1 then some ⟨b, o, none⟩ else some ⟨b, o + 1, none⟩, cap - 1, ?_, by simp at hc; omega, ?_⟩
    · unfold sliced
      split <;> rfl
    · by_cases h1 : cap = 1
      · left
        have : xs.length = 0 := by simp at hc; omega
        exact List.eq_nil_of_length_eq_zero this
      · right
        refine ⟨b, o + 1, by rw [if_neg h1], fun i hi => ?_⟩
        have := hcell (i + 1) (by simp; omega)
        rw [show o + 1 + i = o + (i + 1) by omega]
        exact this

set_option maxRecDepth 100000 in
set_option maxHeartbeats 4000000 in
theorem l4Match_any : ∀ (N : Nat) (gs ps : List ByteArray) (vg vp : Value) (w : World), gs.length + ps.length < N → RdS w vg gs → RdS w vp ps →
    Calls Try.prog 27 #[vg, vp] w fun e w' => MatchPost gs ps w e w' := by
  intro N
  induction N with
  | zero => intro g p vg vp w hN; omega
  | succ N ih =>
    intro g p vg vp w hN hg hp
    obtain ⟨ap, cp, rfl, hpc, hps⟩ := hp.at_
    obtain ⟨ag, cg, rfl, hgc, hgs⟩ := hg.at_
    cases g with
    | nil =>
      cases p with
      | nil =>
        go_enter Try.func27, Try.ntmps27
        go_wp2
        go_ret
        exact ⟨rfl, 0, rfl⟩
      | cons q qs =>
        have h0 : (((q :: qs).length : Int) == 0) = false := by simp; omega
        generalize hn : (q :: qs).length = n at *
        go_enter Try.func27, Try.ntmps27
        go_wp2
        go_ret
        exact ⟨rfl, 0, rfl⟩
    | cons x xs =>
      obtain ⟨tg, hsl, htg, b, o, rfl, c0⟩ := tail_at hgc hgs
      have g0 : (0 : Int) < (x :: xs).length := by simp
      have gz : (((x :: xs).length : Int) == 0) = false := by simp; omega
      have h1 : ∀ m, Calls Try.prog 27 #[tg, .slice ap p.length cp] (w.drewN m) fun e w' => MatchPost xs p (w.drewN m) e w' := fun m => ih xs p _ _ _ (by simp at hN; omega) (htg m) (hp.drewN m)
      have h2 : ∀ tp qs, (∀ m, RdS (w.drewN m) tp qs) → qs.length + 1 ≤ p.length → ∀ m, Calls Try.prog 27 #[.slice (some ⟨b, o, none⟩) (x :: xs).length cg, tp] (w.drewN m) fun e w' => MatchPost (x :: xs) qs (w.drewN m) e w' := fun tp qs h hl m => ih (x :: xs) qs _ _ _ (by simp at hN ⊢; omega) (hg.drewN m) (h m)
      have h3 : ∀ tp qs, (∀ m, RdS (w.drewN m) tp qs) → qs.length + 1 ≤ p.length → ∀ m, Calls Try.prog 27 #[tg, tp] (w.drewN m) fun e w' => MatchPost xs qs (w.drewN m) e w' := fun tp qs h hl m => ih xs qs _ _ _ (by simp at hN; omega) (htg m) (h m)
      clear ih hN htg hgs hg
      generalize hn : (x :: xs).length = n at *
      clear hn
      cases ha : anyS x with
      | true =>
        have hb : (x.toList == [42, 42]) = true := ha
        clear h3
        go_enter Try.func27, Try.ntmps27
        go_wp2_with fail
        refine (h1 0).mono ?_
        rintro e w1 ⟨rfl, k1, rfl⟩
        cases hm : mat anyS oneS xs p with
        | true =>
          go_wp2
          go_ret
          refine ⟨retB ?_, _, rfl⟩
          cases p with
          | nil => rw [mat_any_nil ha, hm]
          | cons q qs => rw [mat_any ha, hm]; rfl
        | false =>
          cases p with
          | nil =>
            go_wp2
            go_ret
            exact ⟨retB (by rw [mat_any_nil ha, hm]), _, rfl⟩
          | cons q qs =>
            obtain ⟨tp, hslp, htp, bp, op, rfl, d0⟩ := tail_at hpc hps
            have hres : mat anyS oneS (x :: xs) (q :: qs) = mat anyS oneS (x :: xs) qs := by rw [mat_any ha, hm]; rfl
            have HR : Keep (mat anyS oneS (x :: xs) (q :: qs) = mat anyS oneS (x :: xs) qs) := ⟨hres⟩
            have h4 := h2 tp qs htp (by simp)
            have p0 : (0 : Int) < (q :: qs).length := by simp
            clear h1 h2 hm hres htp hps hp
            generalize hn : (q :: qs).length = np at *
            clear hn
            go_wp2_with fail
            refine (h4 k1).mono ?_
            rintro e w2 ⟨rfl, k2, rfl⟩
            go_wp2
            go_ret
            exact ⟨retB HR.out.symm, _, rfl⟩
      | false =>
        have hb : (x.toList == [42, 42]) = false := ha
        clear h1 h2
        cases p with
        | nil =>
          go_enter Try.func27, Try.ntmps27
          go_wp2
          go_quiet (fail)
          go_wp2
          go_ret
          exact ⟨retB (mat_one_nil ha).symm, _, rfl⟩
        | cons q qs =>
          obtain ⟨tp, hslp, htp, bp, op, rfl, d0⟩ := tail_at hpc hps
          have hres := mat_one (any := anyS) (one := oneS) (ms := xs) ha q qs
          have h4 := h3 tp qs htp (by simp)
          have p0 : (0 : Int) < (q :: qs).length := by simp
          have pd : decide (0 < (q :: qs).length) = true := by simp
          have hby := fun m => bytesS_any x q (w.drewN m)
          clear h3 htp hps hp
          generalize hn : (q :: qs).length = np at *
          clear hn
          cases ho : oneS x q with
          | true =>
            have HR : Keep (mat anyS oneS (x :: xs) (q :: qs) = mat anyS oneS xs qs) := ⟨by rw [hres, ho]; rfl⟩
            rw [ho] at hby
            clear hres
            go_enter Try.func27, Try.ntmps27
            go_wp2
            go_quiet ((first | (go_at_call 43; refine (hby _).mono ?_; rintro e w2 ⟨rfl, k2, rfl⟩; exact ⟨rfl, _, World.drewN_drewN _ _ _⟩) | (go_at_call 27; refine (h4 _).mono ?_; rintro e w2 ⟨rfl, k2, rfl⟩; exact ⟨rfl, _, World.drewN_drewN _ _ _⟩)))
            go_wp2
            go_ret
            exact ⟨retB HR.out.symm, _, rfl⟩
          | false =>
            have HR : Keep (mat anyS oneS (x :: xs) (q :: qs) = false) := ⟨by rw [hres, ho]; rfl⟩
            rw [ho] at hby
            clear hres h4
            go_enter Try.func27, Try.ntmps27
            go_wp2
            go_quiet ((go_at_call 43; refine (hby _).mono ?_; rintro e w2 ⟨rfl, k2, rfl⟩; exact ⟨rfl, _, World.drewN_drewN _ _ _⟩))
            go_wp2
            go_ret
            exact ⟨retB HR.out.symm, _, rfl⟩
end Go.Proofs.Ytcajheaacdeokaa

namespace Go.Proofs.Ytcajheaacdeokaa
open Go.RowKit

set_option maxHeartbeats 400000 in
theorem anyBytes_any (m : Int) (w : World) : Calls Try.prog 41 #[.int .i32 m] w fun e w' => e = .returned (.bool (anyB m)) ∧ w = w' := by
  go_enter Try.func41, Try.ntmps41
  go_wp2
  go_ret
  exact ⟨rfl, rfl⟩

set_option maxHeartbeats 400000 in
theorem anyParts_any (x : ByteArray) (w : World) : Calls Try.prog 25 #[.string x] w fun e w' => e = .returned (.bool (anyS x)) ∧ w = w' := by
  go_enter Try.func25, Try.ntmps25
  go_wp2
  go_ret
  exact ⟨rfl, rfl⟩

set_option maxHeartbeats 400000 in
theorem matchByte_any (m r : Int) (w : World) : Calls Try.prog 42 #[.int .i32 m, .int .i32 r] w fun e w' => e = .returned (.bool (oneB m r)) ∧ w = w' := by
  by_cases h : m = 63
  · have hb : (m == 63) = true := by simp [h]
    go_enter Try.func42, Try.ntmps42
    go_wp2
    go_ret
    exact ⟨retB (by simp [oneB, h]), rfl⟩
  · have hb : (m == 63) = false := by simp [h]
    go_enter Try.func42, Try.ntmps42
    go_wp2
    go_ret
    exact ⟨retB (by simp [oneB, h]), rfl⟩

def Ascii (l : List UInt8) : Prop := ∀ c ∈ l, c.toNat < 128

theorem runesFrom_ascii (s : ByteArray) (h : Ascii s.data.toList) : ∀ (b i : Nat) (acc : Array Value), i + b = s.size → Conv.runesFrom s b i acc = acc ++ ((nums (s.data.toList.drop i)).map (Value.int .i32)).toArray
  | 0, i, acc, hi => by
    have : s.data.toList.drop i = [] := List.drop_eq_nil_of_le (by rw [← Lib.size_eq]; omega)
    rw [this]
    simp [Conv.runesFrom, nums]
  | b + 1, i, acc, hi => by
    have hlt : i < s.size := by omega
    have hlt' : i < s.data.toList.length := by rw [← Lib.size_eq]; exact hlt
    have ha : (s[i]'hlt).toNat < 128 := h _ (List.getElem_mem hlt')
    have hd : s.data.toList.drop i = s[i]'hlt :: s.data.toList.drop (i + 1) := List.drop_eq_getElem_cons hlt'
    unfold Conv.runesFrom
    rw [if_pos hlt, decode_ascii s i hlt ha]
    show Conv.runesFrom s b (i + 1) _ = _
    rw [runesFrom_ascii s h b (i + 1) _ (by omega), hd]
    simp [nums, num]

def runesC (w : World) (l : List UInt8) : Array Value :=
  ((nums l).map (Value.int .i32)).toArray ++ Array.replicate (grownCap w (nums l).length 0 21 - (nums l).length) (.int .i32 0)

theorem runesC_at (w : World) (l : List UInt8) (j : Nat) (h : j < (nums l).length) : (runesC w l)[j]? = some (.int .i32 ((nums l)[j]'h)) := by
  unfold runesC
  rw [Array.getElem?_append_left (by simpa using h)]
  simp [h]

set_option maxRecDepth 100000 in
theorem runes_conv (s : ByteArray) (h : Ascii s.data.toList) (hs : s.size ≤ 1000) (w : World) :
    (convert 9 68 (.string s)).run Try.prog w = .ok (.slice (some ⟨w.heap.size, 0, none⟩) (nums s.data.toList).length (grownCap w (nums s.data.toList).length 0 21)) (w.drew.alloc (.cells (runesC w s.data.toList) 21)) := by
  have e := runesFrom_ascii s h s.size 0 #[] (by omega)
  have e' : Conv.runesFrom s s.size 0 #[] = ((nums s.data.toList).map (Value.int .i32)).toArray := by rw [e]; simp
  have hn : (nums s.data.toList).length = s.size := by rw [nums, List.length_map, ← Lib.size_eq]
  have := run_runes_of_string (P := Try.prog) w 9 68 21 s Try.underlying9 Try.underlying68 Try.underlying21 (by rw [e']; simp [hn]; omega)
  rw [this, e']
  simp [runesC]

theorem fnsR (ms ps : List Int) : FnsR anyB oneB 41 42 ms ps :=
  ⟨fun _ _ => by kernel_rfl, fun _ _ _ => by kernel_rfl, anyBytes_any, fun x _ y _ w => (matchByte_any x y w).mono (fun e w' ⟨h1, h2⟩ => ⟨h1, by rw [h2]; exact Below.refl _ _⟩)⟩

set_option maxRecDepth 100000 in
set_option maxHeartbeats 1000000 in
theorem matchPart_any (x y : ByteArray) (hx : Ascii x.data.toList) (hy : Ascii y.data.toList) (sx : x.size ≤ 1000) (sy : y.size ≤ 1000) (w : World) :
    Calls Try.prog 26 #[.string x, .string y] w fun e w' => e = .returned (.bool (oneS x y)) ∧ Below w.heap.size w w' := by
  have hcx := runes_conv x hx sx
  have hcy := runes_conv y hy sy
  have lx : (nums x.data.toList).length ≤ 1000 := by rw [nums, List.length_map, ← Lib.size_eq]; exact sx
  have ly : (nums y.data.toList).length ≤ 1000 := by rw [nums, List.length_map, ← Lib.size_eq]; exact sy
  have hrun := fun cm cp => rowsR_any anyB oneB 41 42 (nums x.data.toList) (nums y.data.toList) (fnsR _ _) w.heap.size 0 cm (w.heap.size + 1) 0 cp ((w.drew.alloc (.cells (runesC w x.data.toList) 21)).drew.alloc (.cells (runesC (w.drew.alloc (.cells (runesC w x.data.toList) 21)) y.data.toList) 21)) lx ly (fun i hi => by
      rw [Nat.zero_add]
      have h1 : (w.drew.alloc (.cells (runesC w x.data.toList) 21)).cell? ⟨w.heap.size, i, none⟩ = some (.int .i32 ((nums x.data.toList)[i]'hi)) := by
        rw [show w.heap.size = w.drew.heap.size from rfl, World.cell?_alloc_new]; exact runesC_at w _ i hi
      rw [World.cell?_alloc_lt _ _ _ (by simp)]
      exact h1) (fun i hi => by
      rw [Nat.zero_add]
      rw [show w.heap.size + 1 = ((w.drew.alloc (.cells (runesC w x.data.toList) 21)).drew).heap.size by simp, World.cell?_alloc_new]
      exact runesC_at _ _ i hi)
  go_enter Try.func26, Try.ntmps26
  go_wp2_with fail
  refine Calls.mono (hrun _ _) ?_
  rintro e w' ⟨rfl, hb⟩
  go_wp2
  go_ret
  have hb0 : Below w.heap.size w ((w.drew.alloc (.cells (runesC w x.data.toList) 21)).drew.alloc (.cells (runesC (w.drew.alloc (.cells (runesC w x.data.toList) 21)) y.data.toList) 21)) :=
    ((((Below.refl _ w).drew).alloc (Nat.le_refl _) _).drew).alloc (by simp) _
  exact ⟨rfl, hb0.trans (hb.mono hb0.size)⟩

/-- The parts of what is a glob, or a path. -/
theorem parts_ok {p : Int → Bool} (hp : ∀ r, p r = true → r < 128) {s : ByteArray} (h : pathOk p s = true) : ∀ x ∈ partsB s, Ascii x.data.toList ∧ x.size ≤ 1000 := by
  intro x hx
  simp only [pathOk, Bool.and_eq_true] at h
  have h1 := List.all_eq_true.1 h.2 x hx
  refine ⟨fun c hc => ?_, by have := partOk_size h1; omega⟩
  simp only [partOk, Bool.and_eq_true] at h1
  have h2 := List.all_eq_true.1 h1.2 c hc
  have := hp _ h2
  omega
theorem globB_low (r : Int) (h : globB r = true) : r < 128 := by
  by_cases h1 : 128 ≤ r
  · rw [globB_high r h1] at h; cases h
  · omega
theorem pathB_low (r : Int) (h : pathB r = true) : r < 128 := by
  by_cases h1 : 128 ≤ r
  · rw [pathB_high r h1] at h; cases h
  · omega

theorem fnsS (ms ps : List ByteArray) (hm : ∀ x ∈ ms, Ascii x.data.toList ∧ x.size ≤ 1000) (hp : ∀ x ∈ ps, Ascii x.data.toList ∧ x.size ≤ 1000) : FnsS anyS oneS 25 26 ms ps :=
  ⟨fun _ _ => by kernel_rfl, fun _ _ _ => by kernel_rfl, anyParts_any, fun x hx y hy w => matchPart_any x y (hm x hx).1 (hp y hy).1 (hm x hx).2 (hp y hy).2 w⟩

/-- Whether a glob matches a path. -/
def matchS (g p : ByteArray) : Bool := pathOk globB g && pathOk pathB p && mat anyS oneS (partsB g) (partsB p)

theorem partsB_pos (s : ByteArray) : 0 < (partsB s).length := by
  rw [partsB, List.length_map]
  exact List.length_pos_iff.2 (splitS_ne _)

def MPost (g p : ByteArray) (w : World) (e : Ending) (w' : World) : Prop := e = .returned (.bool (matchS g p)) ∧ Below w.heap.size w w'

set_option maxRecDepth 100000 in
set_option maxHeartbeats 4000000 in
theorem implMatch_any (g p : ByteArray) (hg : g.size ≤ 1099511627776) (hp : p.size ≤ 1099511627776) (w : World) :
    Calls Try.prog 5 #[.string g, .string p] w fun e w' => MPost g p w e w' := by
  have hvg := implGlob_any g hg w
  cases h1 : pathOk globB g with
  | false =>
    have hres : matchS g p = false := by simp [matchS, h1]
    go_enter Try.func5, Try.ntmps5
    go_wp2_with fail
    refine hvg.mono ?_
    rintro e w1 ⟨rfl, hb1⟩
    rw [h1]
    go_wp2
    go_ret
    exact ⟨retB hres.symm, hb1⟩
  | true =>
    cases h2 : pathOk pathB p with
    | false =>
      have hres : matchS g p = false := by simp [matchS, h2]
      go_enter Try.func5, Try.ntmps5
      go_wp2_with fail
      refine hvg.mono ?_
      rintro e w1 ⟨rfl, hb1⟩
      rw [h1]
      go_wp2_with fail
      refine (implPath_any p hp w1).mono ?_
      rintro e w2 ⟨rfl, hb2⟩
      rw [h2]
      go_wp2
      go_ret
      exact ⟨retB hres.symm, hb1.trans (hb2.mono hb1.size)⟩
    | true =>
      have HR : Keep (matchS g p = mat anyS oneS (partsB g) (partsB p)) := ⟨by simp [matchS, h1, h2]⟩
      have sg := pathOk_size h1
      have sp := pathOk_size h2
      have hF := fnsS (partsB g) (partsB p) (parts_ok globB_low h1) (parts_ok pathB_low h2)
      have ng : (partsB g).length ≤ 1000 := by have := partsB_le g; omega
      have np : (partsB p).length ≤ 1000 := by have := partsB_le p; omega
      have zg := partsB_pos g
      have zp := partsB_pos p
      go_enter Try.func5, Try.ntmps5
      go_wp2_with fail
      refine hvg.mono ?_
      rintro e w1 ⟨rfl, hb1⟩
      rw [h1]
      go_wp2_with fail
      refine (implPath_any p hp w1).mono ?_
      rintro e w2 ⟨rfl, hb2⟩
      rw [h2]
      have hx2 := hb1.trans (hb2.mono hb1.size)
      clear hb1 hb2 hvg h1 h2
      go_wp2_with fail
      refine (partsOf_any g w2).mono ?_
      rintro e w3 ⟨rfl, rfl⟩
      go_wp2_with fail
      refine (collect_any w2.heap.size g (by omega) _ (by simp) (cell_new1 w2 (.string g) 9).1).mono ?_
      rintro e w3 ⟨ag, cg, rfl, og, hb3⟩
      have hx3 := (hx2.alloc hx2.size (.cells #[.string g] 9)).trans (hb3.mono (by have := hx2.size; simp; omega))
      clear hx2 hb3
      go_wp2_with fail
      refine (partsOf_any p w3).mono ?_
      rintro e w4 ⟨rfl, rfl⟩
      go_wp2_with fail
      refine (collect_any w3.heap.size p (by omega) _ (by simp) (cell_new1 w3 (.string p) 9).1).mono ?_
      rintro e w4 ⟨ap, cp, rfl, op, hb4⟩
      have hx4 := (hx3.alloc hx3.size (.cells #[.string p] 9)).trans (hb4.mono (by have := hx3.size; simp; omega))
      have og4 := owns_below (og.alloc (.cells #[.string p] 9)) hb4
      clear hx3 hb4 og
      obtain ⟨bg, rfl, _⟩ := own_cell og4 0 zg
      obtain ⟨bp, rfl, _⟩ := own_cell op 0 zp
      have hm : ∀ i (h : i < (partsB g).length), w4.cell? ⟨bg, 0 + i, none⟩ = some (.string (partsB g)[i]) := fun i hi => by
        obtain ⟨b', e, h⟩ := own_cell og4 i hi
        cases e; rw [Nat.zero_add]; exact h
      have hq : ∀ i (h : i < (partsB p).length), w4.cell? ⟨bp, 0 + i, none⟩ = some (.string (partsB p)[i]) := fun i hi => by
        obtain ⟨b', e, h⟩ := own_cell op i hi
        cases e; rw [Nat.zero_add]; exact h
      have hrun := rowsS_any anyS oneS 25 26 (partsB g) (partsB p) hF bg 0 cg bp 0 cp w4 ng np hm hq
      clear hm hq og4 op hF
      go_wp2_with fail
      refine hrun.mono ?_
      rintro e w5 ⟨rfl, hb5⟩
      go_wp2
      go_ret
      exact ⟨retB HR.out.symm, hx4.trans (hb5.mono hx4.size)⟩

theorem rd_own {w : World} {B : Nat} {ad : Option Addr} {cp : Nat} {ss : List ByteArray} (h : w.ownsRow B 9 1 (.slice ad ss.length cp) ss.length (ss.map .string)) : RdS w (.slice ad ss.length cp) ss := by
  refine ⟨ad, cp, rfl, ?_, ?_⟩
  · rcases h.2 with ⟨h1, h2⟩ | ⟨g, cap, cur, hv, h1, h2, h3, h4, h5, h6⟩
    · omega
    · cases hv; exact h3
  · cases hs : ss with
    | nil => exact .inl rfl
    | cons x xs =>
      right
      rw [← hs]
      obtain ⟨b, rfl, _⟩ := own_cell h 0 (by rw [hs]; simp)
      refine ⟨b, 0, rfl, fun i hi => ?_⟩
      obtain ⟨b', e, hc⟩ := own_cell h i hi
      cases e
      rw [Nat.zero_add]; exact hc

set_option maxRecDepth 100000 in
set_option maxHeartbeats 4000000 in
theorem specMatch_any (g p : ByteArray) (w : World) :
    Calls Try.prog 6 #[.string g, .string p] w fun e w' => MPost g p w e w' := by
  have hvg := specGlob_any g w
  cases h1 : pathOk globB g with
  | false =>
    have hres : matchS g p = false := by simp [matchS, h1]
    go_enter Try.func6, Try.ntmps6
    go_wp2_with fail
    refine hvg.mono ?_
    rintro e w1 ⟨rfl, hb1⟩
    rw [h1]
    go_wp2
    go_ret
    exact ⟨retB hres.symm, hb1⟩
  | true =>
    cases h2 : pathOk pathB p with
    | false =>
      have hres : matchS g p = false := by simp [matchS, h2]
      go_enter Try.func6, Try.ntmps6
      go_wp2_with fail
      refine hvg.mono ?_
      rintro e w1 ⟨rfl, hb1⟩
      rw [h1]
      go_wp2_with fail
      refine (specPath_any p w1).mono ?_
      rintro e w2 ⟨rfl, hb2⟩
      rw [h2]
      go_wp2
      go_ret
      exact ⟨retB hres.symm, hb1.trans (hb2.mono hb1.size)⟩
    | true =>
      have HR : Keep (matchS g p = mat anyS oneS (partsB g) (partsB p)) := ⟨by simp [matchS, h1, h2]⟩
      have sg := pathOk_size h1
      have sp := pathOk_size h2
      go_enter Try.func6, Try.ntmps6
      go_wp2_with fail
      refine hvg.mono ?_
      rintro e w1 ⟨rfl, hb1⟩
      rw [h1]
      go_wp2_with fail
      refine (specPath_any p w1).mono ?_
      rintro e w2 ⟨rfl, hb2⟩
      rw [h2]
      have hx2 := hb1.trans (hb2.mono hb1.size)
      clear hb1 hb2 hvg h1 h2
      go_wp2_with fail
      refine (l4Parts_any g (by omega) w2).mono ?_
      rintro e w3 ⟨ag, cg, rfl, og, hb3⟩
      have hx3 := hx2.trans (hb3.mono hx2.size)
      clear hx2 hb3
      go_wp2_with fail
      refine (l4Parts_any p (by omega) w3).mono ?_
      rintro e w4 ⟨ap, cp, rfl, op, hb4⟩
      have hx4 := hx3.trans (hb4.mono hx3.size)
      have og4 := owns_below og hb4
      have hrun := l4Match_any ((partsB g).length + (partsB p).length + 1) (partsB g) (partsB p) _ _ w4 (by omega) (rd_own og4) (rd_own op)
      clear hx3 hb4 og og4 op
      go_wp2_with fail
      refine hrun.mono ?_
      rintro e w5 ⟨rfl, k, rfl⟩
      go_wp2
      go_ret
      exact ⟨retB HR.out.symm, hx4.trans ⟨rfl, rfl, rfl, Nat.le_refl _, fun _ _ => rfl⟩⟩
end Go.Proofs.Ytcajheaacdeokaa
