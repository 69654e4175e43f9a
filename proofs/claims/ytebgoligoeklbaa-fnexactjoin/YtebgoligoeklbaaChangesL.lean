/-
  Slices of changes ('CS w a cs'), and the laws' helpers over patches: szPatch, toPatch, eqPatch.
-/
import Derived.Test.YtebgoligoeklbaaRows
import Derived.WalkKit
import Derived.WalkSpells
import Derived.WalkLawsBesides
import Derived.Deep.Light
import Derived.Deep.QuietTactic
import Derived.BigQuiet
import Derived.Deep.RegionWith
namespace Go.Proofs.Ytebgoligoeklbaa
open Go.RowKit

structure Fl where
  there : Bool
  text : ByteArray
  runs : Bool
structure Ch where
  path : ByteArray
  old : Fl
  new : Fl

def flV (f : Fl) : Value := .agg #[.bool f.there, .string f.text, .bool f.runs]
def chV (c : Ch) : Value := .agg #[.string c.path, .bool c.old.there, .string c.old.text, .bool c.old.runs, .bool c.new.there, .string c.new.text, .bool c.new.runs]

/-- A change's cells at a place. -/
def ChAt (w : World) (b o : Nat) (c : Ch) : Prop :=
  w.cell? ⟨b, o, none⟩ = some (.string c.path) ∧ w.cell? ⟨b, o + 1, none⟩ = some (.bool c.old.there) ∧ w.cell? ⟨b, o + 2, none⟩ = some (.string c.old.text) ∧ w.cell? ⟨b, o + 3, none⟩ = some (.bool c.old.runs) ∧
  w.cell? ⟨b, o + 4, none⟩ = some (.bool c.new.there) ∧ w.cell? ⟨b, o + 5, none⟩ = some (.string c.new.text) ∧ w.cell? ⟨b, o + 6, none⟩ = some (.bool c.new.runs)
theorem ChAt.later {w w' : World} {b o : Nat} {c : Ch} (h : ChAt w b o c) (hb : Below w.heap.size w w') : ChAt w' b o c :=
  ⟨cell_later hb h.1, cell_later hb h.2.1, cell_later hb h.2.2.1, cell_later hb h.2.2.2.1, cell_later hb h.2.2.2.2.1, cell_later hb h.2.2.2.2.2.1, cell_later hb h.2.2.2.2.2.2⟩

/-- The slice at address a (whatever where there is no element) holds the changes cs. -/
def CS (w : World) (a : Option Addr) (cs : List Ch) : Prop :=
  cs = [] ∨ ∃ b off, a = some ⟨b, off, none⟩ ∧ ∀ i (h : i < cs.length), ChAt w b (off + i * 7) cs[i]
theorem CS.below {w w' : World} {a : Option Addr} {cs : List Ch} (h : CS w a cs) (hb : Below w.heap.size w w') : CS w' a cs := by
  rcases h with h | ⟨b, off, ha, hc⟩
  · exact .inl h
  · exact .inr ⟨b, off, ha, fun i hi => (hc i hi).later hb⟩
theorem CS.at {w : World} {a : Option Addr} {cs : List Ch} (h : CS w a cs) {k : Nat} (hk : k < cs.length) : ∃ b off, a = some ⟨b, off, none⟩ ∧ ∀ i (h : i < cs.length), ChAt w b (off + i * 7) cs[i] := by
  rcases h with h | h
  · subst h; simp at hk
  · exact h

def sizeC (c : Ch) : Nat := c.path.size + c.old.text.size + c.new.text.size
def totalC (cs : List Ch) : Nat := (cs.map sizeC).sum
theorem totalC_take (cs : List Ch) (k : Nat) (h : k < cs.length) : totalC (cs.take (k + 1)) = totalC (cs.take k) + sizeC cs[k] := by
  rw [List.take_succ_eq_append_getElem h]; simp only [totalC, List.map_append, List.sum_append]; simp
theorem size_le_totalC (cs : List Ch) (a : Ch) (h : a ∈ cs) : sizeC a ≤ totalC cs := by
  induction cs with
  | nil => simp at h
  | cons x l ih =>
    simp only [totalC, List.map_cons, List.sum_cons] at ih ⊢
    rcases List.mem_cons.1 h with rfl | h
    · omega
    · have := ih h; omega
def chMax (c : Ch) : Prop := c.path.size ≤ maxLen ∧ c.old.text.size ≤ maxLen ∧ c.new.text.size ≤ maxLen

set_option maxRecDepth 20000 in
set_option maxHeartbeats 1000000 in
theorem szFile_any (f : Fl) (L : Int) (w : World) (hL : 0 ≤ L ∧ L ≤ 1048576) (hm : f.text.size ≤ maxLen) :
    Calls Try.prog 59 #[.agg #[.bool f.there, .string f.text, .bool f.runs], .int .i64 L] w fun e w' => e = .returned (.int .i64 (if L - f.text.size < 0 then -1 else L - f.text.size)) ∧ Below w.heap.size w w' := by
  unfold maxLen at hm
  by_cases h1 : L - f.text.size < 0
  · rw [if_pos h1]
    go_enter Try.func59, Try.ntmps59
    go_wp2
    go_ret
    exact ⟨rfl, (Below.refl _ _).alloc (Nat.le_refl _) _⟩
  · rw [if_neg h1]
    go_enter Try.func59, Try.ntmps59
    go_wp2
    go_ret
    exact ⟨rfl, (Below.refl _ _).alloc (Nat.le_refl _) _⟩

set_option maxRecDepth 20000 in
set_option maxHeartbeats 1000000 in
theorem szChange_any (c : Ch) (L : Int) (w : World) (hL : 0 ≤ L ∧ L ≤ 1048576) (hm : chMax c) :
    Calls Try.prog 41 #[chV c, .int .i64 L] w fun e w' => e = .returned (.int .i64 (if L - sizeC c < 0 then -1 else L - sizeC c)) ∧ Below w.heap.size w w' := by
  obtain ⟨hm1, hm2, hm3⟩ := hm
  have hm1' := hm1
  unfold maxLen at hm1
  unfold chV sizeC
  have hal : Below w.heap.size w (w.alloc (.cells #[.string c.path, .bool c.old.there, .string c.old.text, .bool c.old.runs, .bool c.new.there, .string c.new.text, .bool c.new.runs] 83)) := (Below.refl _ _).alloc (Nat.le_refl _) _
  have hc : ChAt (w.alloc (.cells #[.string c.path, .bool c.old.there, .string c.old.text, .bool c.old.runs, .bool c.new.there, .string c.new.text, .bool c.new.runs] 83)) w.heap.size 0 c := by simp [ChAt]
  by_cases h1 : L - c.path.size < 0
  · rw [if_pos (by omega)]
    go_enter Try.func41, Try.ntmps41
    go_wp2
    go_ret
    exact ⟨rfl, hal⟩
  by_cases h2 : L - c.path.size - c.old.text.size < 0
  · rw [if_pos (by omega)]
    go_enter Try.func41, Try.ntmps41
    go_wp2_with fail
    refine (szFile_any c.old _ _ (by omega) hm2).mono ?_
    rintro e w1 ⟨rfl, hb1⟩
    have hbw := hal.trans (hb1.mono hal.size)
    obtain ⟨d0, d1, d2, d3, d4, d5, d6⟩ := hc.later hb1
    simp only [Nat.zero_add] at d0 d1 d2 d3 d4 d5 d6
    clear hc
    rw [if_pos (by omega)]
    go_wp2
    go_ret
    exact ⟨rfl, hbw⟩
  by_cases h3 : L - c.path.size - c.old.text.size - c.new.text.size < 0
  · rw [if_pos (by omega)]
    go_enter Try.func41, Try.ntmps41
    go_wp2_with fail
    refine (szFile_any c.old _ _ (by omega) hm2).mono ?_
    rintro e w1 ⟨rfl, hb1⟩
    have hbw := hal.trans (hb1.mono hal.size)
    obtain ⟨d0, d1, d2, d3, d4, d5, d6⟩ := hc.later hb1
    simp only [Nat.zero_add] at d0 d1 d2 d3 d4 d5 d6
    clear hc
    rw [if_neg (by omega)]
    go_wp2_with fail
    refine (szFile_any c.new _ _ (by omega) hm3).mono ?_
    rintro e w2 ⟨rfl, hb2⟩
    have hbw2 := hbw.trans (hb2.mono hbw.size)
    rw [if_pos (by omega)]
    go_wp2
    go_ret
    exact ⟨rfl, hbw2⟩
  · rw [if_neg (by omega), show L - ((c.path.size + c.old.text.size + c.new.text.size : Nat) : Int) = L - c.path.size - c.old.text.size - c.new.text.size by omega]
    go_enter Try.func41, Try.ntmps41
    go_wp2_with fail
    refine (szFile_any c.old _ _ (by omega) hm2).mono ?_
    rintro e w1 ⟨rfl, hb1⟩
    have hbw := hal.trans (hb1.mono hal.size)
    obtain ⟨d0, d1, d2, d3, d4, d5, d6⟩ := hc.later hb1
    simp only [Nat.zero_add] at d0 d1 d2 d3 d4 d5 d6
    clear hc
    rw [if_neg (by omega)]
    go_wp2_with fail
    refine (szFile_any c.new _ _ (by omega) hm3).mono ?_
    rintro e w2 ⟨rfl, hb2⟩
    have hbw2 := hbw.trans (hb2.mono hbw.size)
    rw [if_neg (by omega)]
    go_wp2
    go_ret
    exact ⟨rfl, hbw2⟩

set_option maxRecDepth 20000 in
set_option maxHeartbeats 1000000 in
theorem toFile_any (f : Fl) (w : World) :
    Calls Try.prog 61 #[.agg #[.bool f.there, .string f.text, .bool f.runs]] w fun e w' => e = .returned (.agg #[.bool f.there, .string f.text, .bool f.runs]) ∧ Below w.heap.size w w' := by
  go_enter Try.func61, Try.ntmps61
  go_wp2
  refine bodyPost_ret (v := .agg #[.bool f.there, .string f.text, .bool f.runs]) ?_ rfl ⟨rfl, ?_⟩
  · go_light
    simp [results, Try.results61, go_sem]
  · exact (((Below.refl _ _).alloc (Nat.le_refl _) _).alloc (by simp) _).alloc (by simp; omega) _

set_option maxRecDepth 20000 in
set_option maxHeartbeats 1000000 in
theorem eqFile_any (f : Fl) (w : World) :
    Calls Try.prog 66 #[.agg #[.bool f.there, .string f.text, .bool f.runs], .agg #[.bool f.there, .string f.text, .bool f.runs]] w fun e w' => e = .returned (.bool true) ∧ Below w.heap.size w w' := by
  go_enter Try.func66, Try.ntmps66
  go_wp2
  go_ret
  exact ⟨rfl, ((Below.refl _ _).alloc (Nat.le_refl _) _).alloc (by simp) _⟩
end Go.Proofs.Ytebgoligoeklbaa
