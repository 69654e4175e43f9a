/-
  The laws' helpers of proofs: laws.szProof, laws.toProof, laws.eqProof; a proof that is handed in, opened.
-/
import Derived.Test.YtnobhmljhijhcaaStrs
import Derived.Test.YtnobhmljhijhcaaConcS
import Derived.ProofKit
import Derived.OpenShut
import Derived.ShutString
import Derived.ChangeOld
import Derived.Below
import Derived.SliceStrings
import Derived.Deep.Slices
import Derived.Lib.SmallJoins
namespace Go.Proofs.Ytnobhmljhijhcaa
open Go.ChangeShapes Go.WideShapes Go.ChangeAt Go.RowKit

def prfV (v : Value) (th : Bool) (tx : ByteArray) : Value := .agg #[v, .bool th, .string tx]
/-- How much a proof has. -/
def prfN (ss : List ByteArray) (tx : ByteArray) : Nat := ss.length + total ss + tx.size

set_option maxRecDepth 20000 in
set_option maxHeartbeats 1000000 in
theorem szPrf_any (a : Option Addr) (cap : Nat) (ss : List ByteArray) (th : Bool) (tx : ByteArray) (L : Nat) (w : World) (hss : SS w a ss) (hn : ss.length ≤ maxLen) (hL : L ≤ 1048576) (hm : ∀ s ∈ ss, s.size ≤ maxLen) (ht : tx.size ≤ maxLen) :
    Calls Try.prog 7 #[.agg #[.slice a ss.length cap, .bool th, .string tx], .int .i64 L] w fun e w' => ∃ r : Int, e = .returned (.int .i64 r) ∧ Below w.heap.size w w' ∧ (r < 0 ∨ (∃ q : Nat, r = q ∧ q + prfN ss tx = L)) := by
  unfold maxLen at ht
  have hb0 : Below w.heap.size w (w.alloc (.cells #[.slice a ss.length cap, .bool th, .string tx] 26)) := (Below.refl _ _).alloc (Nat.le_refl _) _
  go_enter Try.func7, Try.ntmps7
  go_wp2_with fail
  refine (sz_any a cap ss L _ (hss.below hb0) hn hL hm).mono ?_
  rintro e2 w1 ⟨r, rfl, rfl, hr2⟩
  rcases hr2 with hr2 | ⟨hr2, hle⟩
  · go_wp2
    go_ret
    exact ⟨-1, rfl, hb0, .inl (by omega)⟩
  · have HL : CKeep (∃ q : Nat, r = q ∧ q + (ss.length + total ss) = L) := ⟨⟨r.toNat, by omega, by omega⟩⟩
    have hr3 : ¬ r < 0 := by omega
    have hr4 : r ≤ 1048576 := by omega
    clear hr2 hle
    by_cases h0 : r - tx.size < 0
    · go_wp2
      go_ret
      exact ⟨-1, rfl, hb0, .inl (by omega)⟩
    · go_wp2
      go_ret
      obtain ⟨q, h1, h2⟩ := HL.out
      exact ⟨_, rfl, hb0, .inr ⟨q - tx.size, by omega, by unfold prfN; omega⟩⟩

theorem owns_setP {w : World} {b : Nat} {e : TypeId} {size : Nat} {v : Value} {n : Nat} {xs : List Value} {g j : Nat} {u : Value} (h : w.ownsRow b e size v n xs) (hg : some g ≠ v.ownBlock) : (w.setCell ⟨g, j, none⟩ u).ownsRow b e size v n xs :=
  h.kept (row := some g) ⟨rfl, rfl, rfl, by simp, fun k _ hk => Below.heap_setCell _ _ _ _ (fun e => hk (by rw [e]))⟩ (Or.inr (fun e => hg e.symm))

def PrfPost (w : World) (ss : List ByteArray) (th : Bool) (tx : ByteArray) (e : Ending) (w' : World) : Prop :=
  ∃ g, e = .returned (.agg #[.slice (some ⟨g, 0, none⟩) ss.length ss.length, .bool th, .string tx]) ∧ w'.ownsRow w.heap.size 9 1 (.slice (some ⟨g, 0, none⟩) ss.length ss.length) ss.length (ss.map .string) ∧ Below w.heap.size w w'

set_option maxRecDepth 20000 in
set_option maxHeartbeats 1000000 in
theorem toPrf_any (a : Option Addr) (cap : Nat) (ss : List ByteArray) (th : Bool) (tx : ByteArray) (w : World) (hss : SS w a ss) (hn : ss.length ≤ 1048576) :
    Calls Try.prog 9 #[.agg #[.slice a ss.length cap, .bool th, .string tx]] w fun e w' => PrfPost w ss th tx e w' := by
  go_enter Try.func9, Try.ntmps9
  go_wp2_with fail
  have hbA : Below w.heap.size w (((w.alloc (.cells #[.slice a ss.length cap, .bool th, .string tx] 26)).alloc (.cells #[.slice none 0 0, .bool false, .string ⟨#[]⟩] 30)).alloc (.cells #[.slice none 0 0, .bool false, .string ⟨#[]⟩] 30)) := (((Below.refl _ _).alloc (Nat.le_refl _) _).alloc (by simp) _).alloc (by simp; omega) _
  refine (to_any a cap ss _ (hss.below hbA) hn).mono ?_
  rintro e w1 ⟨rfl, hs1, hb1⟩
  have hz := hb1.size
  have d01 := hb1.cell (p := ⟨w.heap.size, 1, none⟩) (by simp; omega)
  have d02 := hb1.cell (p := ⟨w.heap.size, 2, none⟩) (by simp; omega)
  have d10 := hb1.cell (p := ⟨w.heap.size + 1, 0, none⟩) (by simp)
  have d11 := hb1.cell (p := ⟨w.heap.size + 1, 1, none⟩) (by simp)
  have d12 := hb1.cell (p := ⟨w.heap.size + 1, 2, none⟩) (by simp)
  have d20 := hb1.cell (p := ⟨w.heap.size + 1 + 1, 0, none⟩) (by simp)
  have d21 := hb1.cell (p := ⟨w.heap.size + 1 + 1, 1, none⟩) (by simp)
  have d22 := hb1.cell (p := ⟨w.heap.size + 1 + 1, 2, none⟩) (by simp)
  have f1 : ∀ j, w1.frozen? ⟨w.heap.size + 1, j, none⟩ = false := fun j => by rw [hb1.frozen (p := ⟨w.heap.size + 1, j, none⟩) (by simp)]; simp [go_sem]
  have f2 : ∀ j, w1.frozen? ⟨w.heap.size + 1 + 1, j, none⟩ = false := fun j => by rw [hb1.frozen (p := ⟨w.heap.size + 1 + 1, j, none⟩) (by simp)]; simp [go_sem]
  simp [go_sem] at d01 d02 d10 d11 d12 d20 d21 d22 hz
  have hb0 : Below w.heap.size w w1 := hbA.trans (hb1.mono hbA.size)
  go_wp2
  refine bodyPost_ret (v := .agg #[.slice (some ⟨w.heap.size + 1 + 1 + 1, 0, none⟩) ss.length ss.length, .bool th, .string tx]) ?_ rfl ⟨w.heap.size + 1 + 1 + 1, rfl, ?_, ?_⟩
  · go_light
    simp [results, Try.results9, go_sem, d10, d11, d12]
  · have hs2 : w1.ownsRow w.heap.size 9 1 (.slice (some ⟨(((w.alloc (.cells #[.slice a ss.length cap, .bool th, .string tx] 26)).alloc (.cells #[.slice none 0 0, .bool false, .string ⟨#[]⟩] 30)).alloc (.cells #[.slice none 0 0, .bool false, .string ⟨#[]⟩] 30)).heap.size, 0, none⟩) ss.length ss.length) ss.length (ss.map .string) := by
      refine ⟨hs1.1, ?_⟩
      rcases hs1.2 with h' | ⟨g, cap, cur, hv, h1, h2⟩
      · exact .inl h'
      · exact .inr ⟨g, cap, cur, hv, Nat.le_trans (by simp; omega) h1, h2⟩
    simp at hs2
    have n1 : some (w.heap.size + 1) ≠ (Value.slice (some ⟨w.heap.size + 1 + 1 + 1, 0, none⟩) ss.length ss.length).ownBlock := by simp [Value.ownBlock]
    have n2 : some (w.heap.size + 1 + 1) ≠ (Value.slice (some ⟨w.heap.size + 1 + 1 + 1, 0, none⟩) ss.length ss.length).ownBlock := by simp [Value.ownBlock]
    exact owns_setP (owns_setP (owns_setP (owns_setP (owns_setP (owns_setP hs2 n2) n2) n2) n1) n1) n1
  · exact (((((hb0.setCell (by simp; omega) _).setCell (by simp; omega) _).setCell (by simp; omega) _).setCell (by simp) _).setCell (by simp) _).setCell (by simp) _

set_option maxRecDepth 20000 in
set_option maxHeartbeats 1000000 in
theorem eqPrf_any (a a' : Option Addr) (cap cap' : Nat) (ss : List ByteArray) (th : Bool) (tx : ByteArray) (w : World) (hss : SS w a ss) (hss' : SS w a' ss) (hn : ss.length ≤ 1048576) :
    Calls Try.prog 11 #[.agg #[.slice a ss.length cap, .bool th, .string tx], .agg #[.slice a' ss.length cap', .bool th, .string tx]] w fun e w' => e = .returned (.bool true) ∧ Below w.heap.size w w' := by
  have hbA : Below w.heap.size w ((w.alloc (.cells #[.slice a ss.length cap, .bool th, .string tx] 30)).alloc (.cells #[.slice a' ss.length cap', .bool th, .string tx] 30)) := ((Below.refl _ _).alloc (Nat.le_refl _) _).alloc (by simp) _
  go_enter Try.func11, Try.ntmps11
  go_wp2_with fail
  refine (eq_any a a' cap cap' ss _ (hss.below hbA) (hss'.below hbA) hn).mono ?_
  rintro e w1 ⟨rfl, hb1⟩
  have d01 := hb1.cell (p := ⟨w.heap.size, 1, none⟩) (by simp; omega)
  have d02 := hb1.cell (p := ⟨w.heap.size, 2, none⟩) (by simp; omega)
  have d11 := hb1.cell (p := ⟨w.heap.size + 1, 1, none⟩) (by simp)
  have d12 := hb1.cell (p := ⟨w.heap.size + 1, 2, none⟩) (by simp)
  simp [go_sem] at d01 d02 d11 d12
  go_wp2
  go_ret
  exact ⟨rfl, hbA.trans (hb1.mono hbA.size)⟩

theorem pcStr : Try.prog.cellsOf 9 = 1 := by kernel_rfl
theorem pcRow : Try.prog.cellsOf 24 = 1 := by kernel_rfl
theorem pcBool : Try.prog.cellsOf 4 = 1 := by kernel_rfl
theorem pcPrf : Try.prog.cellsOf 26 = 3 := by kernel_rfl

set_option maxRecDepth 100000 in
theorem open_prf {H : Type} {enc : TypeId × Value → H} {W : World} {base : Nat} {v : Value} {d : DataW H} {p : List MemPlace} (hv : Value.okWide Try.prog W .any base 26 v) (h : DataW.Trod enc Try.prog W 0 (fun _ => true) true 26 v d p) :
    ∃ a cap ss th tx, v = .agg #[.slice a (List.length ss) cap, .bool th, .string tx] ∧ SS W a ss ∧ ss.length ≤ maxLen ∧ (∀ s ∈ ss, s.size ≤ maxLen) ∧ tx.size ≤ maxLen := by
  obtain ⟨cs, rfl, hsz⟩ := okWide_struct Try.underlying26 hv
  rw [pcPrf] at hsz
  obtain ⟨c0, c1, c2, rfl⟩ : ∃ c0 c1 c2, cs = #[c0, c1, c2] := by
    obtain ⟨l⟩ := cs
    match l, hsz with
    | [a, b, c], _ => exact ⟨a, b, c, rfl⟩
  obtain ⟨fuel, hf⟩ := h
  obtain ⟨y0, y1, y2, m, _, _, g0, g1, g2⟩ := Go.Deep.trod_struct3 Try.underlying26 hf
  simp only [pcStr, pcRow, pcBool, Value.cells, List.drop, List.take] at g0 g1 g2
  obtain ⟨s1, e1, _, hs⟩ := DataW.trod_string Try.underlying9 g2
  obtain ⟨b3, e3, _⟩ := DataW.trod_bool Try.underlying4 g1
  simp at e1 e3
  subst e1 e3
  rcases open_strings Try.underlying24 Try.underlying9 (by kernel_rfl) g0 with ⟨hcs, _⟩ | ⟨x, l, c, ss, hcs, _, hl, hm, hz, _, hcell, hws⟩
  · simp at hcs
    subst hcs
    exact ⟨none, 0, [], b3, s1, rfl, .inl rfl, Nat.zero_le _, fun s hs => by simp at hs, hs⟩
  · simp at hcs
    subst hcs
    have hz' : ss.length = c := by simpa using hz
    refine ⟨some x, c, ss.take l, b3, s1, by simp; omega, ?_, by simp; omega, fun s hs => hws s (List.mem_of_mem_take hs), hs⟩
    by_cases h0 : l = 0
    · left; simp [h0]
    · right
      obtain ⟨b, off, spot⟩ := x
      have hspot : spot = none := by simpa [Addr.add] using World.cell?_spot (hcell 0 (by omega))
      subst hspot
      refine ⟨b, off, rfl, fun i hi => ?_⟩
      have hi' : i < ss.length := by simp at hi; omega
      rw [← Go.WideShapes.add_plain, hcell i hi']
      simp [List.getD, hi']
end Go.Proofs.Ytnobhmljhijhcaa
