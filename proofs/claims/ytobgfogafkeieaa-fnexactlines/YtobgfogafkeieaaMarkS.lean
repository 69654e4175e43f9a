/-
  The laws' marks: laws.markText, laws.markStringS.
-/
import Derived.Test.YtobgfogafkeieaaBase
import Derived.Test.YtobgfogafkeieaaStrs
import Derived.Test.YtobgfogafkeieaaSums
import Derived.Deep.RegionHeld3
namespace Go.Proofs.Ytobgfogafkeieaa
open Go.RowKit

def dgF : Nat → Nat → ByteArray → ByteArray
  | 0, _, out => out
  | f + 1, k, out => if k = 0 then out else dgF f (k / 10) (strOfNums [((48 + k % 10 : Nat) : Int)] ++ out)
theorem dgF_on : ∀ (f g k : Nat) (out : ByteArray), k ≤ f → k ≤ g → dgF f k out = dgF g k out
  | 0, 0, _, _, _, _ => rfl
  | 0, g + 1, k, out, h, _ => by rw [dgF, dgF, if_pos (by omega)]
  | f + 1, 0, k, out, _, h => by rw [dgF, dgF, if_pos (by omega)]
  | f + 1, g + 1, k, out, h1, h2 => by
    rw [dgF, dgF]
    split
    · rfl
    · exact dgF_on f g (k / 10) _ (by omega) (by omega)
def dg (k : Nat) (out : ByteArray) : ByteArray := dgF k k out
theorem dg_zero (out : ByteArray) : dg 0 out = out := rfl
theorem dg_pos {k : Nat} (h : 0 < k) (out : ByteArray) : dg k out = dg (k / 10) (strOfNums [((48 + k % 10 : Nat) : Int)] ++ out) := by
  obtain ⟨m, rfl⟩ : ∃ m, k = m + 1 := ⟨k - 1, by omega⟩
  rw [dg, dgF, if_neg (by omega)]
  exact dgF_on m _ _ _ (by omega) (Nat.le_refl _)
def mkS (k : Nat) : ByteArray := ⟨#[109]⟩ ++ dg k ⟨#[]⟩

set_option maxHeartbeats 1000000 in
theorem markText_any (k : Nat) (w : World) (h0 : 0 < k) (hk : k ≤ 1099511627776) :
    Calls Try.prog 25 #[.int .i64 k] w fun e w' => e = .returned (.string (mkS k)) ∧ Below w.heap.size w w' := by
  have hd : ¬ (k : Int) ≤ 0 := by omega
  go_enter Try.func25, Try.ntmps25
  go_wp2
  go_loopw [0, 3] (fun q o wr => ∃ (q' : Nat) (out : ByteArray), q = .int .i64 q' ∧ o = .string out ∧ out.size + q' ≤ k ∧ dg q' out = dg k ⟨#[]⟩ ∧ Below w.heap.size w wr) (fun q _ _ => (intOf q).toNat)
  case atStart => exact ⟨k, ⟨#[]⟩, rfl, rfl, Nat.le_of_eq (Nat.zero_add k), rfl, Below.refl _ _⟩
  case round =>
    obtain ⟨q, out, rfl, rfl, hle, he, hb⟩ := hrel
    have HE : Hid (dg q out = dg k ⟨#[]⟩) := he
    clear he
    by_cases hq : 0 < q
    · have hq' : (0 : Int) < q := by omega
      have hcv := conv_one (48 + (q : Int) % 10)
      have hsz : ¬ 9223372036854775807 < (strOfNums [48 + (q : Int) % 10]).size + out.size := by
        rw [strOfNums_size]; simp; omega
      have HS : Hid ((strOfNums [48 + (q : Int) % 10]).size = 1) := by
        have : (strOfNums [48 + (q : Int) % 10]).size = 1 := by rw [strOfNums_size]; rfl
        exact this
      go_wp2
      go_roundw
      case rel =>
        refine ⟨q / 10, _, by go_num, rfl, ?_, ?_, hb.alloc hb.size _⟩
        · rw [ByteArray.size_append, HS.out]; omega
        · rw [← HE.out, dg_pos hq]
          congr 1
      case measure => simp [intOf]; omega
    · obtain rfl : q = 0 := by omega
      have hsz : ¬ 9223372036854775807 < (⟨#[109]⟩ : ByteArray).size + out.size := by
        have : (⟨#[109]⟩ : ByteArray).size = 1 := rfl
        omega
      have HF : Hid (out = dg k ⟨#[]⟩) := by
        have : out = dg k ⟨#[]⟩ := by rw [← HE.out, dg_zero]
        exact this
      go_wp2
      go_ret
      refine ⟨?_, hb⟩
      unfold mkS
      rw [← HF.out]
      rfl

def mixed (k : Nat) (ss : List ByteArray) (j : Nat) : List Value := (List.range ss.length).map fun i => if i < j then .string (mkS (k + i)) else .string (ss.getD i ⟨#[]⟩)
theorem mixed_zero (k : Nat) (ss : List ByteArray) : mixed k ss 0 = ss.map .string := by
  apply List.ext_getElem
  · simp [mixed]
  · intro i h1 h2
    simp [mixed] at h1 ⊢
    simp [h1]
theorem mixed_set (k : Nat) (ss : List ByteArray) (j : Nat) : (mixed k ss j).set j (.string (mkS (k + j))) = mixed k ss (j + 1) := by
  apply List.ext_getElem
  · simp [mixed]
  · intro i h1 h2
    simp only [mixed, List.length_map, List.length_range, List.length_set] at h1 h2
    simp only [mixed, List.getElem_set, List.getElem_map, List.getElem_range]
    by_cases hij : j = i
    · subst hij; simp
    · rw [if_neg hij]
      by_cases hlt : i < j
      · rw [if_pos hlt, if_pos (by omega)]
      · rw [if_neg hlt, if_neg (by omega)]
def marks (k n : Nat) : List ByteArray := (List.range n).map fun i => mkS (k + i)
theorem marks_len (k n : Nat) : (marks k n).length = n := by simp [marks]
theorem mixed_all (k : Nat) (ss : List ByteArray) : mixed k ss ss.length = (marks k ss.length).map .string := by
  apply List.ext_getElem
  · simp [mixed, marks]
  · intro i h1 h2
    simp [mixed] at h1
    simp [mixed, marks, h1]

theorem grown_below {w w' : World} {row : Option Nat} (h : Below w.heap.size w w') : w.grownBy w' row := ⟨h.os, h.tape, h.output, h.size, fun k hk _ => h.block k hk⟩
theorem grown_trans {w w1 w2 : World} {row : Option Nat} (h : w.grownBy w1 row) (k : w1.grownBy w2 row) : w.grownBy w2 row :=
  ⟨k.os.trans h.os, k.tape.trans h.tape, k.output.trans h.output, Nat.le_trans h.size k.size, fun i hi hne => (k.block i (Nat.lt_of_lt_of_le hi h.size) hne).trans (h.block i hi hne)⟩
theorem grown_set (w : World) (g i : Nat) (u : Value) : w.grownBy (w.setCell ⟨g, i, none⟩ u) (some g) :=
  ⟨rfl, rfl, rfl, by simp, fun k _ hne => Below.heap_setCell w _ u k fun e => hne (by rw [e])⟩

def MarkPost (w : World) (B : Nat) (v : Value) (n k : Nat) (e : Ending) (w' : World) : Prop :=
  e = .returned (.int .i64 ((k + n : Nat) : Int)) ∧ w'.ownsRow B 9 1 v n ((marks k n).map .string) ∧ w.grownBy w' v.ownBlock

set_option maxRecDepth 20000 in
set_option maxHeartbeats 1000000 in
theorem markS_any (v : Value) (ss : List ByteArray) (k B : Nat) (w : World) (hown : w.ownsRow B 9 1 v ss.length (ss.map .string)) (h0 : 0 < k) (hk : k + ss.length ≤ 1099511627776) :
    Calls Try.prog 11 #[v, .int .i64 k] w fun e w' => MarkPost w B v ss.length k e w' := by
  obtain ⟨ad, cap, hv⟩ := owns_slice hown
  have hsome : 0 < ss.length → ∃ g, ad = some ⟨g, 0, none⟩ := fun hpos => by
    rcases hown.2 with ⟨_, h⟩ | ⟨g, c, cur, hv', _⟩
    · omega
    · rw [hv] at hv'; cases hv'; exact ⟨g, rfl⟩
  have HV : Hid (v = .slice ad ss.length cap) := hv
  rw [hv]
  rw [hv] at hown
  clear hv
  go_enter Try.func11, Try.ntmps11
  go_wp2
  go_loopw [1, 5] (fun q i wr => ∃ j : Nat, j ≤ ss.length ∧ i = .int .i64 j ∧ q = .int .i64 ((k + j : Nat) : Int) ∧ wr.ownsRow B 9 1 (.slice ad ss.length cap) ss.length (mixed k ss j) ∧ w.grownBy wr (Value.slice ad ss.length cap).ownBlock) (fun _ i _ => ss.length - (intOf i).toNat)
  case atStart => exact ⟨0, Nat.zero_le _, rfl, rfl, by rw [mixed_zero]; exact hown, ⟨rfl, rfl, rfl, Nat.le_refl _, fun _ _ _ => rfl⟩⟩
  case round =>
    obtain ⟨j, hj, rfl, rfl, hownr, hg⟩ := hrel
    by_cases hlt : j < ss.length
    · obtain ⟨g, rfl⟩ := hsome (by omega)
      go_wp2_with fail
      refine (markText_any (k + j) wr (by omega) (by omega)).mono ?_
      rintro e w1 ⟨rfl, hb1⟩
      have hown1 := owns_below hownr hb1
      have hfz := hown1.frozenAt j
      have hcw := hown1.cellAt j (by omega)
      have hcw' : ∃ u, w1.cell? ⟨g, j, none⟩ = some u := by
        rw [hcw]; exact ⟨_, List.getElem?_eq_getElem (by rw [hown1.1]; omega)⟩
      obtain ⟨u, hu⟩ := hcw'
      have hst := hown1.stored j (.string (mkS (k + j)))
      rw [mixed_set k ss j] at hst
      have hg1 : w.grownBy w1 (Value.slice (some ⟨g, 0, none⟩) ss.length cap).ownBlock := grown_trans hg (grown_below hb1)
      clear hcw hownr hown
      go_wp2
      go_roundw
      case rel => exact ⟨j + 1, by omega, by go_num, by go_num, hst.1, grown_trans hg1 (grown_set w1 g j _)⟩
      case measure => simp [intOf]; omega
    · obtain rfl : j = ss.length := by omega
      go_wp2
      go_ret
      refine ⟨rfl, ?_, hg⟩
      rw [← mixed_all]
      exact hownr

end Go.Proofs.Ytobgfogafkeieaa
