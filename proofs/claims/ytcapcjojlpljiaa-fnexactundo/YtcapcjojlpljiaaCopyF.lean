/-
  impl's copied, and change (a pointer's method that appends) where there is a change.
-/
import Derived.Test.YtcapcjojlpljiaaChOut
import Derived.Test.YtcapcjojlpljiaaClone
import Derived.Test.YtcapcjojlpljiaaLaterQ
import Derived.Deep.RegionHeld3
import Derived.Deep.RegionWith
namespace Go.Proofs.Ytcapcjojlpljiaa
open Go.RowKit

set_option maxRecDepth 100000 in
set_option maxHeartbeats 2000000 in
theorem copied_any (f : Fl) (w : World) (ht : f.text.size ≤ 281474976710656) :
    Calls Try.prog 59 #[flV f] w fun e w' => e = .returned (flV f) ∧ Below w.heap.size w w' := by
  unfold flV
  have hal : Below w.heap.size w ((w.alloc (.cells #[.bool f.there, .string f.text, .bool f.runs] 62)).alloc (.cells #[.bool false, .string ⟨#[]⟩, .bool false] 62)) := ((Below.refl _ _).alloc (Nat.le_refl _) _).alloc (by simp) _
  have d0 : ((w.alloc (.cells #[.bool f.there, .string f.text, .bool f.runs] 62)).alloc (.cells #[.bool false, .string ⟨#[]⟩, .bool false] 62)).cell? ⟨w.heap.size, 0, none⟩ = some (.bool f.there) := by simp
  have d1 : ((w.alloc (.cells #[.bool f.there, .string f.text, .bool f.runs] 62)).alloc (.cells #[.bool false, .string ⟨#[]⟩, .bool false] 62)).cell? ⟨w.heap.size, 1, none⟩ = some (.string f.text) := by simp
  have d2 : ((w.alloc (.cells #[.bool f.there, .string f.text, .bool f.runs] 62)).alloc (.cells #[.bool false, .string ⟨#[]⟩, .bool false] 62)).cell? ⟨w.heap.size, 2, none⟩ = some (.bool f.runs) := by simp
  have g0 : ((w.alloc (.cells #[.bool f.there, .string f.text, .bool f.runs] 62)).alloc (.cells #[.bool false, .string ⟨#[]⟩, .bool false] 62)).cell? ⟨w.heap.size + 1, 0, none⟩ = some (.bool false) := by simp
  have g1 : ((w.alloc (.cells #[.bool f.there, .string f.text, .bool f.runs] 62)).alloc (.cells #[.bool false, .string ⟨#[]⟩, .bool false] 62)).cell? ⟨w.heap.size + 1, 1, none⟩ = some (.string ⟨#[]⟩) := by simp
  have g2 : ((w.alloc (.cells #[.bool f.there, .string f.text, .bool f.runs] 62)).alloc (.cells #[.bool false, .string ⟨#[]⟩, .bool false] 62)).cell? ⟨w.heap.size + 1, 2, none⟩ = some (.bool false) := by simp
  have hsz : w.heap.size + 1 < ((w.alloc (.cells #[.bool f.there, .string f.text, .bool f.runs] 62)).alloc (.cells #[.bool false, .string ⟨#[]⟩, .bool false] 62)).heap.size := by simp
  have f0 : ∀ j, ((w.alloc (.cells #[.bool f.there, .string f.text, .bool f.runs] 62)).alloc (.cells #[.bool false, .string ⟨#[]⟩, .bool false] 62)).frozen? ⟨w.heap.size + 1, j, none⟩ = false := fun j => by simp
  go_enter Try.func59, Try.ntmps59
  go_wp2_with fail
  generalize hw2 : (w.alloc (.cells #[.bool f.there, .string f.text, .bool f.runs] 62)).alloc (.cells #[.bool false, .string ⟨#[]⟩, .bool false] 62) = w2 at *
  clear hw2
  obtain ⟨g, hg⟩ : ∃ g, g = w.heap.size + 1 := ⟨_, rfl⟩
  obtain ⟨g', hg'⟩ : ∃ g', g' = w.heap.size := ⟨_, rfl⟩
  have hgw : w.heap.size ≤ g := by omega
  rw [← hg] at g0 g1 g2 hsz f0 ⊢
  rw [← hg'] at d0 d1 d2 ⊢
  have HGW : Keep (w.heap.size ≤ g) := ⟨hgw⟩
  have hal2 : Below w.heap.size w w2 := hal
  clear hal hg hg' hgw
  have q0 : Below w2.heap.size w2 w2.drew := (Below.refl _ _).drew
  have kq : ∀ {W W' : World}, Below w2.heap.size w2 W → Below W.heap.size W W' → Below w2.heap.size w2 W' := fun h h' => h.trans (h'.mono h.size)
  have kF : ∀ {W : World}, Below w2.heap.size w2 W → ∀ j, W.frozen? ⟨g, j, none⟩ = false := fun h j => (h.frozen (p := ⟨g, j, none⟩) hsz).trans (f0 j)
  go_region_with (first | (go_at_call_of 58 f.text; refine (clone_any f.text _ ht).mono ?_; rintro e w3 ⟨rfl, hb3⟩; have q : Below w2.heap.size w2 w3 := (by first | exact kq q hb3 | exact kq q0 hb3); have p0 := cell_later q d0; have p1 := cell_later q d1; have p2 := cell_later q d2; have p3 := cell_later q g0; have p4 := cell_later q g1; have p5 := cell_later q g2; have pf := kF q))
  all_goals
    have hbl : Below w.heap.size w w3 := hal2.trans (q.mono hal2.size)
    go_wp2
    refine bodyPost_ret (v := .agg #[.bool f.there, .string f.text, .bool f.runs]) ?_ rfl ⟨rfl, ?_⟩
    · go_light
      simp [results, Try.results59, go_sem, p3, p4, p5]
    · have hgw := HGW.out
      exact ((hbl.setCell (p := ⟨g, 0, none⟩) hgw _).setCell (p := ⟨g, 1, none⟩) hgw _).setCell (p := ⟨g, 2, none⟩) hgw _
end Go.Proofs.Ytcapcjojlpljiaa
