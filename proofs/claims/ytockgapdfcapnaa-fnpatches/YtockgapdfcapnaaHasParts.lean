/-
  impl.hasParts, ValidPath, ValidGlob.
-/
import Derived.RangeFuncFrom
import Derived.Test.YtockgapdfcapnaaPartOk
namespace Go.Proofs.Ytockgapdfcapnaa
open Go.RowKit Go.Shelf

attribute [local go_sem] Oper.semAt_some

theorem cell_new1 (W : World) (v : Value) (t : TypeId) : (W.alloc (.cells #[v] t)).cell? ⟨W.heap.size, 0, none⟩ = some v ∧ (W.alloc (.cells #[v] t)).frozen? ⟨W.heap.size, 0, none⟩ = false := ⟨by simp, by simp⟩
theorem cell_on {W : World} {a : Addr} {v : Value} (o : Obj) (h : W.cell? a = some v) : (W.alloc o).cell? a = some v := cell_kept h (World.grownBy_alloc W o none) (fun r e => by cases e)
theorem frozen_on {W : World} {a : Addr} {v : Value} (o : Obj) (h : W.cell? a = some v) (hf : W.frozen? a = false) : (W.alloc o).frozen? a = false := (frozen_kept h (World.grownBy_alloc W o none) (fun r e => by cases e)).trans hf

/-- What a step leaves: new blocks alone. -/
structure Kept (w w' : World) : Prop where
  below : Below w.heap.size w w'
  others : KeepsOthers w w'
  frozen : ∀ (a : Addr) (v : Value), w.cell? a = some v → w'.frozen? a = w.frozen? a
  cell : ∀ (a : Addr) (v : Value), w.cell? a = some v → w'.cell? a = some v

theorem Kept.refl (w : World) : Kept w w := ⟨Below.refl _ _, KeepsOthers.refl _, fun _ _ _ => rfl, fun _ _ h => h⟩
theorem Kept.alloc (w : World) (o : Obj) : Kept w (w.alloc o) :=
  ⟨(Below.refl _ w).alloc (Nat.le_refl _) _, KeepsOthers.alloc _ _,
   fun _ _ h => frozen_kept h (World.grownBy_alloc w o none) (fun r e => by cases e), fun _ _ h => cell_kept h (World.grownBy_alloc w o none) (fun r e => by cases e)⟩

theorem PartPost.kept {p : Int → Bool} {s : ByteArray} {w w' : World} {e : Ending} (h : PartPost p s w e w') : e = .returned (.bool (partOk p s)) ∧ Kept w w' := by
  obtain ⟨he, rfl | ⟨pos, rfl⟩⟩ := h
  · exact ⟨he, Kept.refl _⟩
  · exact ⟨he, Kept.alloc _ _⟩

def ShortOk (p : Int → Bool) (pre : List ByteArray) : Prop := pre.length ≤ 6 ∧ pre.all (partOk p) = true
def NotOk (p : Int → Bool) (pre : List ByteArray) : Prop := 6 < pre.length ∨ pre.all (partOk p) = false

theorem pathOk_of {p : Int → Bool} {s : ByteArray} (h : ShortOk p (partsB s)) : pathOk p s = true := by simp [pathOk, h.1, h.2]
theorem pathOk_not {p : Int → Bool} {s : ByteArray} {pre : List ByteArray} (h : NotOk p pre) (hp : pre <+: partsB s) : pathOk p s = false := by
  obtain ⟨r, hr⟩ := hp
  rcases h with h | h
  · have : ¬ (partsB s).length ≤ 6 := by rw [← hr, List.length_append]; omega
    simp [pathOk, this]
  · simp [pathOk, ← hr, List.all_append, h]

def HasPost (p : Int → Bool) (s : ByteArray) (w : World) (e : Ending) (w' : World) : Prop :=
  e = .returned (.bool (pathOk p s)) ∧ Below w.heap.size w w'

set_option maxRecDepth 100000 in
set_option maxHeartbeats 4000000 in
theorem hasParts_any (f : FuncId) (p : Int → Bool) (hf : ByteFn f p) (s : ByteArray) (hs : s.size ≤ 1099511627776) (w : World) :
    Calls Try.prog 85 #[.string s, .func (.func f) #[] #[]] w fun e w' => HasPost p s w e w' := by
  refine (callsIn_wide (n := 5)).1 ?_
  refine callsIn_of_wp_marks Try.func85 rfl trivial ?_ rfl
  simp only [Try.ntmps85, List.size_toArray, List.length_cons, List.length_nil, Nat.reduceAdd, Nat.reduceSub, Array.replicate_succ, Array.replicate_zero, List.push_toArray, List.append_toArray, List.nil_append, List.cons_append]
  gi_wp2_with (refine ⟨trivial, ?_⟩; gi_at_call 89; refine (callsIn_wide.2 (partsOf_any s _)).mono ?_; rintro e w' ⟨rfl, rfl⟩)
  have c0 := cell_new1 w (.func (.func f) #[] #[]) 129
  have c1 := cell_new1 (w.alloc (.cells #[.func (.func f) #[] #[]] 129)) (.bool false) 4
  have c2 := cell_new1 ((w.alloc (.cells #[.func (.func f) #[] #[]] 129)).alloc (.cells #[.bool false] 4)) (.int .i64 0) 3
  have c3 := cell_new1 (((w.alloc (.cells #[.func (.func f) #[] #[]] 129)).alloc (.cells #[.bool false] 4)).alloc (.cells #[.int .i64 0] 3)) (.string s) 9
  simp only [World.size_alloc] at c1 c2 c3
  have hB0 : Below w.heap.size w ((((w.alloc (.cells #[.func (.func f) #[] #[]] 129)).alloc (.cells #[.bool false] 4)).alloc (.cells #[.int .i64 0] 3)).alloc (.cells #[.string s] 9)) :=
    ((((Below.refl _ w).alloc (Nat.le_refl _) _).alloc (by simp) _).alloc (by simp; omega) _).alloc (by simp; omega) _
  have hsz : ((((w.alloc (.cells #[.func (.func f) #[] #[]] 129)).alloc (.cells #[.bool false] 4)).alloc (.cells #[.int .i64 0] 3)).alloc (.cells #[.string s] 9)).heap.size = w.heap.size + 4 := by simp
  have hd0 := cell_on (.cells #[.string s] 9) (cell_on (.cells #[.int .i64 0] 3) (cell_on (.cells #[.bool false] 4) c0.1))
  have hd1 := cell_on (.cells #[.string s] 9) (cell_on (.cells #[.int .i64 0] 3) c1.1)
  have hf1 := frozen_on (.cells #[.string s] 9) (cell_on (.cells #[.int .i64 0] 3) c1.1) (frozen_on (.cells #[.int .i64 0] 3) c1.1 c1.2)
  have hd2 := cell_on (.cells #[.string s] 9) c2.1
  have hf2 := frozen_on (.cells #[.string s] 9) c2.1 c2.2
  have hd3 := c3.1
  clear c0 c1 c2 c3
  generalize ((((w.alloc (.cells #[.func (.func f) #[] #[]] 129)).alloc (.cells #[.bool false] 4)).alloc (.cells #[.int .i64 0] 3)).alloc (.cells #[.string s] 9)) = W0 at *
  refine wpIn_rangeFunc_ownF (n := 5) rfl (by omega) (gf := 93) (lb := #[.pointer (some ⟨w.heap.size + 1 + 1 + 1, 0, none⟩)]) rfl trivial (enters_of Try.func93 (by kernel_rfl) rfl)
    (partsOf1_stops _ (w.heap.size + 1 + 1 + 1) s hs (Below w.heap.size) W0 (by omega) hd3) belowK_t (belowK_b (by omega)) (Below.refl _ _) (fun _ => rfl)
    (fun pre W => (W.cell? ⟨w.heap.size, 0, none⟩ = some (.func (.func f) #[] #[]) ∧ W.cell? ⟨w.heap.size + 1, 0, none⟩ = some (.bool false) ∧ W.frozen? ⟨w.heap.size + 1, 0, none⟩ = false ∧ W.cell? ⟨w.heap.size + 1 + 1, 0, none⟩ = some (.int .i64 pre.length) ∧ W.frozen? ⟨w.heap.size + 1 + 1, 0, none⟩ = false) ∧ ShortOk p pre ∧ Below w.heap.size w W)
    (fun c pre W => (c = .ret ∧ W.cell? ⟨w.heap.size + 1, 0, none⟩ = some (.bool false)) ∧ NotOk p pre ∧ Below w.heap.size w W)
    (OwnFrom.and (Own.from (fun s A B row hs hg hr => ⟨cell_kept hs.1 hg hr, cell_kept hs.2.1 hg hr, (frozen_kept hs.2.1 hg hr).trans hs.2.2.1, cell_kept hs.2.2.2.1 hg hr, (frozen_kept hs.2.2.2.1 hg hr).trans hs.2.2.2.2⟩) _) (OwnFrom.and (ownFrom_pure _ _) (ownFrom_below (Nat.le_refl _) (by omega))))
    (fun c => OwnFrom.and (Own.from (fun s A B row hs hg hr => ⟨hs.1, cell_kept hs.2 hg hr⟩) _) (OwnFrom.and (ownFrom_pure _ _) (ownFrom_below (Nat.le_refl _) (by omega))))
    ⟨⟨hd0, hd1, hf1, hd2, hf2⟩, ⟨by simp, by simp⟩, hB0⟩
    (fun x => { tmps := #[.string s, .func (.func f) #[] #[], undef, .pointer (some ⟨w.heap.size, 0, none⟩), .pointer (some ⟨w.heap.size + 1, 0, none⟩), .pointer (some ⟨w.heap.size + 1 + 1, 0, none⟩), .string x, .string s, .func (.func 93) #[] #[.pointer (some ⟨w.heap.size + 1 + 1 + 1, 0, none⟩)], .string x, undef, undef, undef, undef, undef, undef, undef, undef, undef, undef], defers := [] }) ?assign ?body ?done ?stop
  case assign =>
    intro l x W K hK
    gi_wp2
    exact hK
  case body =>
    rintro l pre x W ⟨⟨e0, e1, g1, e2, g2⟩, hok, hB⟩ hlt
    have hin : ∀ W1, CallsIn (Fence.wide.inRound l) 2 Try.prog 90 #[.string x, .func (.func f) #[] #[]] W1 fun e w' => e = .returned (.bool (partOk p x)) ∧ Kept W1 w' := fun W1 =>
      CallsIn.inRound l (callsIn_wide.2 ((isPart_any f p hf x W1).mono (fun e w' h => h.kept)))
    have HO : Keep (ShortOk p pre) := ⟨hok⟩
    have hlen : pre.length ≤ 6 := hok.1
    clear hok
    have q0 : (W.setCell ⟨w.heap.size + 1 + 1, 0, none⟩ (.int .i64 ((pre.length : Int) + 1))).cell? ⟨w.heap.size, 0, none⟩ = some (.func (.func f) #[] #[]) := (World.cell?_of_block (Below.heap_setCell W ⟨w.heap.size + 1 + 1, 0, none⟩ _ w.heap.size (by simp; omega))).trans e0
    have q1 : (W.setCell ⟨w.heap.size + 1 + 1, 0, none⟩ (.int .i64 ((pre.length : Int) + 1))).cell? ⟨w.heap.size + 1, 0, none⟩ = some (.bool false) := (World.cell?_of_block (Below.heap_setCell W ⟨w.heap.size + 1 + 1, 0, none⟩ _ (w.heap.size + 1) (by simp))).trans e1
    have q2 : (W.setCell ⟨w.heap.size + 1 + 1, 0, none⟩ (.int .i64 ((pre.length : Int) + 1))).cell? ⟨w.heap.size + 1 + 1, 0, none⟩ = some (.int .i64 ((pre.length : Int) + 1)) := World.cell?_setCell_same' _ _ _ (by rw [e2]; rfl)
    have r1 : (W.setCell ⟨w.heap.size + 1 + 1, 0, none⟩ (.int .i64 ((pre.length : Int) + 1))).frozen? ⟨w.heap.size + 1, 0, none⟩ = false := by rw [World.frozen?_setCell]; exact g1
    have r2 : (W.setCell ⟨w.heap.size + 1 + 1, 0, none⟩ (.int .i64 ((pre.length : Int) + 1))).frozen? ⟨w.heap.size + 1 + 1, 0, none⟩ = false := by rw [World.frozen?_setCell]; exact g2
    have hB2 : Below w.heap.size w (W.setCell ⟨w.heap.size + 1 + 1, 0, none⟩ (.int .i64 ((pre.length : Int) + 1))) := hB.setCell (p := ⟨w.heap.size + 1 + 1, 0, none⟩) (by simp; omega) _
    have hB3 : Below w.heap.size W (W.setCell ⟨w.heap.size + 1 + 1, 0, none⟩ (.int .i64 ((pre.length : Int) + 1))) := (Below.refl _ W).setCell (p := ⟨w.heap.size + 1 + 1, 0, none⟩) (by simp; omega) _
    by_cases h6 : 6 < (pre.length : Int) + 1
    · gi_wp2
      refine ⟨trivial, ?_⟩
      gi_wp2
      refine ⟨(KeepsOthers.setCell _ _ _).trans (KeepsOthers.setCell _ _ _), ⟨rfl, World.cell?_setCell_same' _ _ _ (by rw [q1]; rfl)⟩, .inl (by simp; omega), hB2.setCell (p := ⟨w.heap.size + 1, 0, none⟩) (by simp) _⟩
    · cases hx : partOk p x with
      | true =>
        gi_wp2_with (refine ⟨trivial, ?_⟩; gi_at_call 90; refine (hin _).mono ?_; rintro e w' ⟨rfl, hkp⟩; rw [hx])
        have hb := hkp.below.mono hB2.size
        refine ⟨(KeepsOthers.setCell _ _ _).trans hkp.others, hB3.trans hb, ⟨hkp.cell _ _ q0, hkp.cell _ _ q1, (hkp.frozen _ _ q1).trans r1, ?_, (hkp.frozen _ _ q2).trans r2⟩, ⟨by simp; omega, ?_⟩, hB2.trans hb⟩
        · rw [hkp.cell _ _ q2]; simp
        · rw [List.all_append, HO.out.2]; simp [hx]
      | false =>
        gi_wp2_with (refine ⟨trivial, ?_⟩; gi_at_call 90; refine (hin _).mono ?_; rintro e w' ⟨rfl, hkp⟩; rw [hx]; have k1 := hkp.cell _ _ q1; have k2 := (hkp.frozen _ _ q1).trans r1)
        have hb := hkp.below.mono hB2.size
        refine ⟨((KeepsOthers.setCell _ _ _).trans hkp.others).trans (KeepsOthers.setCell _ _ _), ⟨rfl, World.cell?_setCell_same' _ _ _ (by rw [k1]; rfl)⟩, .inr (by rw [List.all_append]; simp [hx]), (hB2.trans hb).setCell (p := ⟨w.heap.size + 1, 0, none⟩) (by simp) _⟩
  case done =>
    rintro D ys W hD rfl ⟨⟨_, hcr, hfr, _, _⟩, hok, hB⟩ hK
    gi_wp2
    have hK' := (KeepsOthers.setCell W ⟨w.heap.size + 1, 0, none⟩ (.bool true)).same D _ hK rfl
    refine ⟨by simp, .inl ⟨_, _, rfl, run_takeDeferred hK', ?_⟩⟩
    have hc5 := cell_kept (World.cell?_setCell_same' W ⟨w.heap.size + 1, 0, none⟩ (.bool true) (by rw [hcr]; rfl)) (grownBy_putObj' _ D (.deferred none)) (fun r e => by cases e; exact ⟨_, hK', rfl⟩)
    refine ⟨.bool true, ?_, retB (pathOk_of hok).symm, (hB.setCell (p := ⟨w.heap.size + 1, 0, none⟩) (by simp) _).trans (belowK_b (w := w) (Nat.le_refl _) _ D _ _ (by omega) hK' rfl rfl)⟩
    simp [results, Try.f85, go_sem, hc5]
  case stop =>
    rintro D c pre W hD hpre ⟨⟨rfl, hcr⟩, hno, hB⟩ hK
    gi_wp2
    refine ⟨by simp, .inl ⟨_, _, rfl, run_takeDeferred hK, ?_⟩⟩
    have hc5 := cell_kept hcr (grownBy_putObj' _ D (.deferred none)) (fun r e => by cases e; exact ⟨_, hK, rfl⟩)
    refine ⟨.bool false, ?_, retB (pathOk_not hno hpre).symm, hB.trans (belowK_b (w := w) (Nat.le_refl _) W D _ _ (by omega) hK rfl rfl)⟩
    simp [results, Try.f85, go_sem, hc5]

set_option maxHeartbeats 400000 in
theorem implPath_any (s : ByteArray) (hs : s.size ≤ 1099511627776) (w : World) :
    Calls Try.prog 76 #[.string s] w fun e w' => HasPost pathB s w e w' := by
  go_enter Try.func76, Try.ntmps76
  go_wp2_with (go_at_call 85; refine (hasParts_any _ _ pathFn s hs _).mono ?_; rintro e w1 ⟨rfl, hb⟩)
  go_ret
  exact ⟨rfl, hb⟩
end Go.Proofs.Ytockgapdfcapnaa
