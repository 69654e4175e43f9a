/-
  Slices of atoms ('AS w a ts'), and the laws' helpers over values: szValue, toValue, eqValue.
-/
import Derived.Test.YtamaioeikcjhoaaDoorRows
import Derived.Test.YtamaioeikcjhoaaDoorValPlain
import Derived.WalkKit
import Derived.WalkSpells
import Derived.WalkLawsBesides
import Derived.Deep.Light
import Derived.Deep.QuietTactic
import Derived.BigQuiet
import Derived.Deep.RegionWith
namespace Go.Proofs.YtamaioeikcjhoaaDoor
open Go.RowKit

def At.cells (a : At) : List Value := [.int .i64 a.kind, .int .i64 a.n, .string a.text, .int .i64 a.kids]
def At.val (a : At) : Value := .agg #[.int .i64 a.kind, .int .i64 a.n, .string a.text, .int .i64 a.kids]

/-- The slice at address a (whatever where there is no element) holds the atoms ts. -/
def AS (w : World) (a : Option Addr) (ts : List At) : Prop :=
  ts = [] ∨ ∃ b off, a = some ⟨b, off, none⟩ ∧ ∀ i (h : i < ts.length), w.cell? ⟨b, off + i * 4, none⟩ = some (.int .i64 ts[i].kind) ∧ w.cell? ⟨b, off + i * 4 + 1, none⟩ = some (.int .i64 ts[i].n) ∧ w.cell? ⟨b, off + i * 4 + 2, none⟩ = some (.string ts[i].text) ∧ w.cell? ⟨b, off + i * 4 + 3, none⟩ = some (.int .i64 ts[i].kids)

theorem AS.below {w w' : World} {a : Option Addr} {ts : List At} (h : AS w a ts) (hb : Below w.heap.size w w') : AS w' a ts := by
  rcases h with h | ⟨b, off, ha, hc⟩
  · exact .inl h
  · exact .inr ⟨b, off, ha, fun i hi => ⟨cell_later hb (hc i hi).1, cell_later hb (hc i hi).2.1, cell_later hb (hc i hi).2.2.1, cell_later hb (hc i hi).2.2.2⟩⟩

theorem AS.set_other {w : World} {g : Nat} {ts : List At} (h : AS w (some ⟨g, 0, none⟩) ts) {p : Addr} {u : Value} (hp : p.block ≠ g) : AS (w.setCell p u) (some ⟨g, 0, none⟩) ts := by
  rcases h with h | ⟨b, off, ha, hc⟩
  · exact .inl h
  · simp at ha
    obtain ⟨rfl, rfl⟩ := ha
    have hne : ∀ o, p ≠ ⟨g, o, none⟩ := fun o e => hp (by rw [e])
    exact .inr ⟨_, 0, rfl, fun i hi => ⟨by rw [World.cell?_setCell_other _ _ _ _ (hne _)]; exact (hc i hi).1, by rw [World.cell?_setCell_other _ _ _ _ (hne _)]; exact (hc i hi).2.1, by rw [World.cell?_setCell_other _ _ _ _ (hne _)]; exact (hc i hi).2.2.1, by rw [World.cell?_setCell_other _ _ _ _ (hne _)]; exact (hc i hi).2.2.2⟩⟩

theorem AS.at {w : World} {a : Option Addr} {ts : List At} (h : AS w a ts) {k : Nat} (hk : k < ts.length) :
    ∃ b off, a = some ⟨b, off, none⟩ ∧ ∀ i (h : i < ts.length), w.cell? ⟨b, off + i * 4, none⟩ = some (.int .i64 ts[i].kind) ∧ w.cell? ⟨b, off + i * 4 + 1, none⟩ = some (.int .i64 ts[i].n) ∧ w.cell? ⟨b, off + i * 4 + 2, none⟩ = some (.string ts[i].text) ∧ w.cell? ⟨b, off + i * 4 + 3, none⟩ = some (.int .i64 ts[i].kids) := by
  rcases h with h | h
  · subst h; simp at hk
  · exact h

def totalA (ts : List At) : Nat := (ts.map fun a => a.text.size).sum
theorem totalA_take (ts : List At) (k : Nat) (h : k < ts.length) : totalA (ts.take (k + 1)) = totalA (ts.take k) + ts[k].text.size := by
  rw [List.take_succ_eq_append_getElem h]; simp only [totalA, List.map_append, List.sum_append]; simp
theorem size_le_totalA (ts : List At) (a : At) (h : a ∈ ts) : a.text.size ≤ totalA ts := by
  induction ts with
  | nil => simp at h
  | cons x l ih =>
    simp only [totalA, List.map_cons, List.sum_cons] at ih ⊢
    rcases List.mem_cons.1 h with rfl | h
    · omega
    · have := ih h; omega

theorem Tryd.infoAtom : (Tryd.prog.info? 66).map (fun i => (i.zero, i.size, i.bytes)) = some (some (.agg #[.int .i64 0, .int .i64 0, .string ⟨#[]⟩, .int .i64 0]), 4, 40) := by kernel_rfl

theorem wsame {w : World} {a : Addr} {v u : Value} (h : w.cell? a = some u) : (w.setCell a v).cell? a = some v := World.cell?_setCell_same w a v h
theorem wother {w : World} {a b : Addr} {v : Value} (h : a ≠ b) : (w.setCell a v).cell? b = w.cell? b := World.cell?_setCell_other w a b v h

def set4 (w : World) (g o : Nat) (v0 v1 v2 v3 : Value) : World := (((w.setCell ⟨g, o, none⟩ v0).setCell ⟨g, o + 1, none⟩ v1).setCell ⟨g, o + 2, none⟩ v2).setCell ⟨g, o + 3, none⟩ v3
theorem set4_other {w : World} {g o p : Nat} {v0 v1 v2 v3 : Value} (h : p < o ∨ o + 4 ≤ p) : (set4 w g o v0 v1 v2 v3).cell? ⟨g, p, none⟩ = w.cell? ⟨g, p, none⟩ := by
  unfold set4
  rw [wother (by simp <;> omega), wother (by simp <;> omega), wother (by simp <;> omega), wother (by simp <;> omega)]
theorem set4_hit {w : World} {g o : Nat} {v0 v1 v2 v3 u0 u1 u2 u3 : Value} (h0 : w.cell? ⟨g, o, none⟩ = some u0) (h1 : w.cell? ⟨g, o + 1, none⟩ = some u1) (h2 : w.cell? ⟨g, o + 2, none⟩ = some u2) (h3 : w.cell? ⟨g, o + 3, none⟩ = some u3) :
    (set4 w g o v0 v1 v2 v3).cell? ⟨g, o, none⟩ = some v0 ∧ (set4 w g o v0 v1 v2 v3).cell? ⟨g, o + 1, none⟩ = some v1 ∧ (set4 w g o v0 v1 v2 v3).cell? ⟨g, o + 2, none⟩ = some v2 ∧ (set4 w g o v0 v1 v2 v3).cell? ⟨g, o + 3, none⟩ = some v3 := by
  have k1 : (w.setCell ⟨g, o, none⟩ v0).cell? ⟨g, o + 1, none⟩ = some u1 := by rw [wother (by simp)]; exact h1
  have k2 : ((w.setCell ⟨g, o, none⟩ v0).setCell ⟨g, o + 1, none⟩ v1).cell? ⟨g, o + 2, none⟩ = some u2 := by rw [wother (by simp), wother (by simp)]; exact h2
  have k3 : (((w.setCell ⟨g, o, none⟩ v0).setCell ⟨g, o + 1, none⟩ v1).setCell ⟨g, o + 2, none⟩ v2).cell? ⟨g, o + 3, none⟩ = some u3 := by rw [wother (by simp), wother (by simp), wother (by simp)]; exact h3
  unfold set4
  refine ⟨?_, ?_, ?_, wsame k3⟩
  · rw [wother (by simp), wother (by simp), wother (by simp)]; exact wsame h0
  · rw [wother (by simp), wother (by simp)]; exact wsame k1
  · rw [wother (by simp)]; exact wsame k2
theorem set4_frozen {w : World} {g o : Nat} {v0 v1 v2 v3 : Value} (a : Addr) : (set4 w g o v0 v1 v2 v3).frozen? a = w.frozen? a := by
  unfold set4; simp only [World.frozen?_setCell]
theorem set4_below {w w0 : World} {B g o : Nat} {v0 v1 v2 v3 : Value} (h : Below B w0 w) (hg : B ≤ g) : Below B w0 (set4 w g o v0 v1 v2 v3) :=
  (((h.setCell hg _).setCell hg _).setCell hg _).setCell hg _

set_option maxRecDepth 20000 in
set_option maxHeartbeats 1000000 in
theorem eqAtom_any (a : At) (w : World) :
    Calls Tryd.prog 38 #[.agg #[.int .i64 a.kind, .int .i64 a.n, .string a.text, .int .i64 a.kids], .agg #[.int .i64 a.kind, .int .i64 a.n, .string a.text, .int .i64 a.kids]] w fun e w' => e = .returned (.bool true) ∧ Below w.heap.size w w' := by
  go_enter Tryd.func38, Tryd.ntmps38
  go_wp2
  go_ret
  exact ⟨rfl, ((Below.refl _ _).alloc (Nat.le_refl _) _).alloc (by simp) _⟩

set_option maxRecDepth 20000 in
set_option maxHeartbeats 1000000 in
theorem eqAtomS_any (a a' : Option Addr) (cap cap' : Nat) (ts : List At) (w : World) (hss : AS w a ts) (hss' : AS w a' ts) (hn : ts.length ≤ 1048576) :
    Calls Tryd.prog 18 #[.slice a ts.length cap, .slice a' ts.length cap'] w fun e w' => e = .returned (.bool true) ∧ Below w.heap.size w w' := by
  go_enter Tryd.func18, Tryd.ntmps18
  go_wp2
  go_loopw [5] (fun i wr => ∃ k : Nat, k ≤ ts.length ∧ i = .int .i64 k ∧ Below w.heap.size w wr) (fun i _ => ts.length - (intOf i).toNat)
  case atStart => exact ⟨0, Nat.zero_le _, rfl, Below.refl _ _⟩
  case round =>
    obtain ⟨k, hk, rfl, hb⟩ := hrel
    by_cases hlt : k < ts.length
    · obtain ⟨b, off, rfl, hc⟩ := (hss.below hb).at hlt
      obtain ⟨b', off', rfl, hc'⟩ := (hss'.below hb).at hlt
      obtain ⟨c0, c1, c2, c3⟩ := hc k hlt
      obtain ⟨d0, d1, d2, d3⟩ := hc' k hlt
      clear hc hc'
      go_wp2
      go_region_with (go_at_call 38; refine (eqAtom_any ts[k] _).mono ?_; rintro e w2 ⟨rfl, hb2⟩)
      all_goals go_wp2
      all_goals go_roundw
      all_goals first | exact ⟨k + 1, by omega, by go_num, hb.drew.trans (hb2.mono hb.size)⟩ | (simp [intOf]; omega)
    · obtain rfl : k = ts.length := by omega
      go_wp2
      go_ret
      exact ⟨rfl, hb⟩

set_option maxRecDepth 20000 in
set_option maxHeartbeats 1000000 in
theorem eqValue_any (a a' : Option Addr) (cap cap' : Nat) (ts : List At) (w : World) (hss : AS w a ts) (hss' : AS w a' ts) (hn : ts.length ≤ 1048576) :
    Calls Tryd.prog 7 #[.agg #[.slice a ts.length cap], .agg #[.slice a' ts.length cap']] w fun e w' => e = .returned (.bool true) ∧ Below w.heap.size w w' := by
  have hb0 : ∀ o1 o2, Below w.heap.size w ((w.alloc o1).alloc o2) := fun o1 o2 => ((Below.refl _ _).alloc (Nat.le_refl _) _).alloc (by simp) _
  go_enter Tryd.func7, Tryd.ntmps7
  go_wp2_with fail
  refine (eqAtomS_any a a' cap cap' ts _ (hss.below (hb0 _ _)) (hss'.below (hb0 _ _)) hn).mono ?_
  rintro e w1 ⟨rfl, hb1⟩
  go_wp2
  go_ret
  exact ⟨rfl, (hb0 _ _).trans (hb1.mono (hb0 _ _).size)⟩
end Go.Proofs.YtamaioeikcjhoaaDoor
