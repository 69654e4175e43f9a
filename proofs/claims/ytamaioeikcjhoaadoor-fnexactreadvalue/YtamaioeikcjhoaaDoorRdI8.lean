/-
  impl.ReadValue.
-/
import Derived.Test.YtamaioeikcjhoaaDoorAsW
namespace Go.Proofs.YtamaioeikcjhoaaDoor
open Go.RowKit

/-- What ReadValue answers, with atoms of its own. -/
def RvPost (l : List UInt8) (w : World) (e : Ending) (w' : World) : Prop :=
  Below w.heap.size w w' ∧ ((readV l = none ∧ e = .returned (.tuple #[.agg #[.slice none 0 0], .bool false])) ∨ (∃ xs v, readV l = some xs ∧ e = .returned (.tuple #[.agg #[v], .bool true]) ∧ w'.ownsRow w.heap.size 66 4 v xs.length (acells xs)))

set_option maxRecDepth 20000 in
set_option maxHeartbeats 2000000 in
theorem implRead_any (s : ByteArray) (hs : s.size ≤ 1048576) (w : World) (hg : w.cell? ⟨0, 0, none⟩ = some (.iface 108 (.agg #[.pointer (some ⟨1, 42, none⟩)]))) :
    Calls Tryd.prog 6 #[.string s] w fun e w' => RvPost s.data.toList w e w' := by
  obtain ⟨l, hl⟩ : ∃ l, l = s.data.toList := ⟨_, rfl⟩
  have hsl : s = mkL l := by rw [hl, mkL_data]
  have hlen : l.length ≤ 1048576 := by rw [hsl, mkL_size] at hs; exact hs
  rw [← hl, hsl]
  clear hl hsl hs
  have hRM : RM (w.heap.size + 1) ((w.alloc (.cells #[.slice none 0 0] 24)).alloc (.cells #[.string (mkL l), .slice none 0 0] 40)) l (.slice none 0 0) [] := ⟨by simp, by simp, fun j => by simp, World.ownsRow_nil _ _ _ _⟩
  have hb0 : Below w.heap.size w ((w.alloc (.cells #[.slice none 0 0] 24)).alloc (.cells #[.string (mkL l), .slice none 0 0] 40)) := ((Below.refl _ _).alloc (Nat.le_refl _) _).alloc (by simp) _
  have r0 : ((w.alloc (.cells #[.slice none 0 0] 24)).alloc (.cells #[.string (mkL l), .slice none 0 0] 40)).cell? ⟨w.heap.size, 0, none⟩ = some (.slice none 0 0) := by simp [go_sem]
  have rf : ((w.alloc (.cells #[.slice none 0 0] 24)).alloc (.cells #[.string (mkL l), .slice none 0 0] 40)).frozen? ⟨w.heap.size, 0, none⟩ = false := by simp [go_sem]
  have hcall := whole_any _ _ l _ hRM hlen
  go_enter Tryd.func6, Tryd.ntmps6
  go_wp2_with fail
  refine hcall.mono ?_
  rintro e w1 ⟨hb1, hpost⟩
  have q0 := (hb1.cell (p := ⟨w.heap.size, 0, none⟩) (by simp)).trans r0
  have qf := (hb1.frozen (p := ⟨w.heap.size, 0, none⟩) (by simp)).trans rf
  have hw1 : Below w.heap.size w w1 := hb0.trans (hb1.mono (by omega))
  have hg1 := cell_later hw1 hg
  have hrl : w.heap.size < w1.heap.size := lt_of_cellR q0
  clear hcall hRM hb0 r0 rf
  have halF : Below w1.heap.size w1 (w1.alloc (.cells #[.string ⟨#[]⟩] 45)) := (Below.refl _ _).alloc (Nat.le_refl _) _
  have p0 := cell_later halF q0
  have pf := (halF.frozen (p := ⟨w.heap.size, 0, none⟩) hrl).trans qf
  have hwF : Below w.heap.size w (w1.alloc (.cells #[.string ⟨#[]⟩] 45)) := hw1.trans (halF.mono hw1.size)
  rcases hpost with ⟨hn, y, rfl⟩ | ⟨xs, r, v1, hr, rfl, hM1⟩
  · have ha := as_hit y ⟨w1.heap.size, 0, none⟩ (.string ⟨#[]⟩) (w1.alloc (.cells #[.string ⟨#[]⟩] 45)) (cell_later halF hg1) (by simp) (by simp)
    unfold flt
    go_wp2_with fail
    refine ha.mono ?_
    rintro e w2 ⟨rfl, hw2⟩
    have hB : Below w1.heap.size w1 w2 := by
      rw [hw2]
      exact ((((((Below.refl _ _).alloc (Nat.le_refl _) _).alloc (by simp) _).alloc (by simp; omega) _).alloc (by simp; omega) _).alloc (by simp; omega) _).setCell (p := ⟨w1.heap.size, 0, none⟩) (Nat.le_refl _) _
    clear hw2 ha p0 pf hwF halF
    have p0 := cell_later hB q0
    have pf := (hB.frozen (p := ⟨w.heap.size, 0, none⟩) hrl).trans qf
    have HP : RKeep (RvPost l w (.returned (.tuple #[.agg #[.slice none 0 0], .bool false])) (w2.setCell ⟨w.heap.size, 0, none⟩ (.slice none 0 0))) := ⟨(hw1.trans (hB.mono hw1.size)).setCell (p := ⟨w.heap.size, 0, none⟩) (Nat.le_refl _) _, .inl ⟨hn, rfl⟩⟩
    have k0 : (w2.setCell ⟨w.heap.size, 0, none⟩ (.slice none 0 0)).cell? ⟨w.heap.size, 0, none⟩ = some (.slice none 0 0) := World.cell?_setCell_same _ _ _ p0
    clear hn hB
    go_wp2
    refine bodyPost_ret (v := .tuple #[.agg #[.slice none 0 0], .bool false]) ?_ rfl HP.out
    go_light
    simp [results, Tryd.results6, go_sem, k0]
  · obtain ⟨ad, cp, rfl⟩ := owns_slice hM1.row
    have hM2 := hM1.later halF
    have c1 := hM2.c1
    have ha := as_nil (.iface 47 (.pointer (some ⟨w1.heap.size, 0, none⟩))) (w1.alloc (.cells #[.string ⟨#[]⟩] 45))
    have HP : RKeep (RvPost l w (.returned (.tuple #[.agg #[.slice ad xs.length cp], .bool true])) ((w1.alloc (.cells #[.string ⟨#[]⟩] 45)).setCell ⟨w.heap.size, 0, none⟩ (.slice ad xs.length cp))) := ⟨hwF.setCell (p := ⟨w.heap.size, 0, none⟩) (Nat.le_refl _) _, .inr ⟨xs, _, hr, rfl, by
      have ho := hM2.row
      have hne : (Value.slice ad xs.length cp).ownBlock ≠ some w.heap.size := fun e => by have := owns_base ho _ e; omega
      have hk := ho.kept (row := some w.heap.size) (w' := (w1.alloc (.cells #[.string ⟨#[]⟩] 45)).setCell ⟨w.heap.size, 0, none⟩ (.slice ad xs.length cp)) ⟨rfl, rfl, rfl, by simp, fun k _ hk => Below.heap_setCell _ _ _ _ (fun e => hk (by rw [e]))⟩ (Or.inr hne)
      refine ⟨hk.1, ?_⟩
      rcases hk.2 with h' | ⟨g, cap, cur, hv, h1, h2⟩
      · exact .inl h'
      · exact .inr ⟨g, cap, cur, hv, by omega, h2⟩⟩⟩
    have k0 : ((w1.alloc (.cells #[.string ⟨#[]⟩] 45)).setCell ⟨w.heap.size, 0, none⟩ (.slice ad xs.length cp)).cell? ⟨w.heap.size, 0, none⟩ = some (.slice ad xs.length cp) := World.cell?_setCell_same _ _ _ p0
    clear hr hM1 hM2
    go_wp2_with fail
    refine ha.mono ?_
    rintro e w2 ⟨rfl, rfl⟩
    clear ha
    generalize w1.alloc (.cells #[.string ⟨#[]⟩] 45) = WF at *
    go_wp2
    refine bodyPost_ret (v := .tuple #[.agg #[.slice ad xs.length cp], .bool true]) ?_ rfl HP.out
    go_light
    simp [results, Tryd.results6, go_sem, k0]
end Go.Proofs.YtamaioeikcjhoaaDoor
