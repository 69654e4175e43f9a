/-
  The laws' sizes and marks of patches from any number on; behind a call that gives a patch and a truth value ('CutJ').
-/
import Derived.Test.YtebgoligoeklbaaChangesT
import Derived.Test.YtebgoligoeklbaaJnM
namespace Go.Proofs.Ytebgoligoeklbaa
open Go.RowKit

set_option maxRecDepth 20000 in
set_option maxHeartbeats 1000000 in
theorem szChangeSL_any (L : Nat) (hL : L ≤ 1048576) (a : Option Addr) (cap : Nat) (cs : List Ch) (w : World) (hss : CS w a cs) (hn : cs.length ≤ maxLen) (hm : ∀ s ∈ cs, chMax s) :
    Calls Try.prog 18 #[.slice a cs.length cap, .int .i64 L] w fun e w' => ∃ r : Int, e = .returned (.int .i64 r) ∧ Below w.heap.size w w' ∧ ((r = -1) ∨ (0 ≤ r ∧ r ≤ L ∧ cs.length + totalC cs ≤ L)) := by
  unfold maxLen at hn
  by_cases h0 : (L : Int) - cs.length < 0
  · go_enter Try.func18, Try.ntmps18
    go_wp2
    go_ret
    exact ⟨-1, rfl, Below.refl _ _, .inl rfl⟩
  · go_enter Try.func18, Try.ntmps18
    go_wp2
    go_loopw [1, 5] (fun l i wr => ∃ k : Nat, k ≤ cs.length ∧ i = .int .i64 k ∧ l = .int .i64 ((L : Int) - cs.length - totalC (cs.take k)) ∧ cs.length + totalC (cs.take k) ≤ L ∧ Below w.heap.size w wr) (fun _ i _ => cs.length - (intOf i).toNat)
    case atStart => exact ⟨0, Nat.zero_le _, rfl, by simp [totalC], by simp [totalC]; omega, Below.refl _ _⟩
    case round =>
      obtain ⟨k, hk, rfl, rfl, hle, hb⟩ := hrel
      by_cases hlt : k < cs.length
      · obtain ⟨b, off, rfl, hc⟩ := (hss.below hb).at hlt
        obtain ⟨c0, c1, c2, c3, c4, c5, c6⟩ := hc k hlt
        have HT : Hid (totalC (cs.take (k + 1)) = totalC (cs.take k) + sizeC cs[k]) := totalC_take cs k hlt
        have hsz := hm cs[k] (List.getElem_mem hlt)
        generalize totalC (cs.take k) = t at *
        clear hc
        have hcall := szChange_any cs[k] ((L : Int) - cs.length - t) wr (by omega) hsz
        unfold chV at hcall
        go_wp2_with fail
        refine hcall.mono ?_
        rintro e w1 ⟨rfl, hb1⟩
        by_cases hneg : (L : Int) - cs.length - t - sizeC cs[k] < 0
        · rw [if_pos hneg]
          clear hcall
          go_wp2
          go_ret
          exact ⟨-1, rfl, hb.trans (hb1.mono hb.size), .inl rfl⟩
        · rw [if_neg hneg]
          clear hcall
          go_wp2
          go_roundw
          case rel => exact ⟨k + 1, by omega, by go_num, by rw [HT.out]; go_num, by rw [HT.out]; omega, hb.trans (hb1.mono hb.size)⟩
          case measure => simp [intOf]; omega
      · obtain rfl : k = cs.length := by omega
        go_wp2
        go_ret
        rw [List.take_length] at *
        exact ⟨_, rfl, hb, .inr ⟨by omega, by omega, hle⟩⟩

set_option maxRecDepth 20000 in
set_option maxHeartbeats 1000000 in
theorem szPatchL_any (L : Nat) (hL : L ≤ 1048576) (a : Option Addr) (cap : Nat) (cs : List Ch) (w : World) (hss : CS w a cs) (hn : cs.length ≤ maxLen) (hm : ∀ s ∈ cs, chMax s) :
    Calls Try.prog 5 #[.agg #[.slice a cs.length cap], .int .i64 L] w fun e w' => ∃ r : Int, e = .returned (.int .i64 r) ∧ Below w.heap.size w w' ∧ ((r = -1) ∨ (0 ≤ r ∧ r ≤ L ∧ cs.length + totalC cs ≤ L)) := by
  go_enter Try.func5, Try.ntmps5
  go_wp2_with fail
  refine (szChangeSL_any L hL a cap cs _ (hss.below ((Below.refl _ _).alloc (Nat.le_refl _) _)) hn hm).mono ?_
  rintro e w1 ⟨r, rfl, hb, hr⟩
  have hb0 : Below w.heap.size w w1 := ((Below.refl _ _).alloc (Nat.le_refl _) _).trans (hb.mono (by simp))
  rcases hr with rfl | ⟨h0, h2, h1⟩
  · go_wp2
    go_ret
    exact ⟨-1, rfl, hb0, .inl rfl⟩
  · go_wp2
    go_ret
    exact ⟨r, rfl, hb0, .inr ⟨h0, h2, h1⟩⟩

def MarkPK (B C : Nat) (a : Option Addr) (n k : Nat) (w : World) (e : Ending) (w' : World) : Prop :=
  e = .returned (.int .i64 ((k + 7 * n : Nat) : Int)) ∧ CIn B C w' a (marksC k n) ∧ ∃ row, w.grownBy w' row ∧ ∀ r, row = some r → B ≤ r ∧ r < C

set_option maxRecDepth 20000 in
set_option maxHeartbeats 1000000 in
theorem markPK_any (k : Nat) (h0 : 0 < k) (hk : k ≤ 10485760) (a : Option Addr) (cap : Nat) (ts : List Ch) (B C : Nat) (w : World) (h : CIn B C w a ts) (hC : C ≤ w.heap.size) (hn : ts.length ≤ 1048576) :
    Calls Try.prog 10 #[.agg #[.slice a ts.length cap], .int .i64 k] w fun e w' => MarkPK B C a ts.length k w e w' := by
  have hb0 : Below w.heap.size w (w.alloc (.cells #[.slice a ts.length cap] 28)) := (Below.refl _ _).alloc (Nat.le_refl _) _
  go_enter Try.func10, Try.ntmps10
  go_wp2_with fail
  refine (markCs_any a cap ts k B _ ((h.cl hC).below hb0) h0 (by omega)).mono ?_
  rintro e w1 ⟨rfl, hel1, row, hg1, hr1⟩
  go_wp2
  go_ret
  refine ⟨rfl, ?_, row, grown_trans (grown_below hb0) hg1, fun r e => ?_⟩
  · rcases h with h | ⟨g, rfl, h1, h2, _⟩
    · subst h; exact .inl rfl
    · rcases hel1 with h | ⟨g', e', h1', h2', h3'⟩
      · exact .inl h
      · cases e'
        exact .inr ⟨g, rfl, h1, h2, h3'⟩
  · obtain ⟨hp, ha⟩ := hr1 r e
    rcases h with h | ⟨g, rfl, h1, h2, _⟩
    · subst h; simp at hp
    · cases ha; exact ⟨h1, h2⟩

/-- Behind a call that gives a patch and whether there is one: where they lie. -/
def CutJ (R : List Ch → Bool → Prop) (W1 : World) (p cc : Value) (W : World) : Prop :=
  ∃ us ok ad cap n2 n3 nc, p = .pointer (some ⟨nc, 0, none⟩) ∧ cc = .bool ok ∧ R us ok ∧ CIn n2 n3 W ad us ∧ W.cell? ⟨nc, 0, none⟩ = some (.slice ad us.length cap) ∧ W1.heap.size ≤ n2 ∧ n2 ≤ n3 ∧ n3 ≤ W.heap.size ∧ W1.heap.size ≤ nc ∧ nc < W.heap.size ∧ (nc < n2 ∨ n3 ≤ nc) ∧ Below W1.heap.size W1 W
/-- The patch's cell made behind the call. -/
theorem cutJ_mk {R : List Ch → Bool → Prop} {W1 Wb W : World} {us : List Ch} {ok : Bool} {ad : Option Addr} {cap : Nat} (hR : R us ok) (hel : CL Wb.heap.size W ad us) (hs : W1.heap.size ≤ Wb.heap.size) (hbs : Wb.heap.size ≤ W.heap.size) (hb : Below W1.heap.size W1 W) :
    CutJ R W1 (.pointer (some ⟨W.heap.size, 0, none⟩)) (.bool ok) (W.alloc (.cells #[.slice ad us.length cap] 28)) := by
  have hal : Below W.heap.size W (W.alloc (.cells #[.slice ad us.length cap] 28)) := (Below.refl _ _).alloc (Nat.le_refl _) _
  exact ⟨us, ok, ad, cap, Wb.heap.size, W.heap.size, W.heap.size, rfl, rfl, hR, (hel.cin (Nat.le_refl _)).below (Nat.le_refl _) hal, by simp, hs, hbs, by simp, hb.size, by simp, .inr (Nat.le_refl _), hb.trans (hal.mono hb.size)⟩
/-- The patch's cell made ahead of the call. -/
theorem cutJ_mk' {R : List Ch → Bool → Prop} {W1 Wb W : World} {us : List Ch} {ok : Bool} {ad : Option Addr} {cap nc : Nat} {u : Value} (hR : R us ok) (hel : CL Wb.heap.size W ad us) (hs : W1.heap.size ≤ nc) (hnc : nc < Wb.heap.size) (hbs : Wb.heap.size ≤ W.heap.size) (hb : Below W1.heap.size W1 W) (hc : W.cell? ⟨nc, 0, none⟩ = some u) :
    CutJ R W1 (.pointer (some ⟨nc, 0, none⟩)) (.bool ok) (W.setCell ⟨nc, 0, none⟩ (.slice ad us.length cap)) := by
  have hg : W.grownBy (W.setCell ⟨nc, 0, none⟩ (.slice ad us.length cap)) (some nc) := grown_setM W nc 0 _
  exact ⟨us, ok, ad, cap, Wb.heap.size, W.heap.size, nc, rfl, rfl, hR, (hel.cin (Nat.le_refl _)).grown (Nat.le_refl _) hg (fun r e => by cases e; exact .inl hnc), World.cell?_setCell_same _ _ _ hc, by omega, hbs, by simp, hs, by simp; omega, .inl hnc, hb.setCell (p := ⟨nc, 0, none⟩) hs _⟩
end Go.Proofs.Ytebgoligoeklbaa
