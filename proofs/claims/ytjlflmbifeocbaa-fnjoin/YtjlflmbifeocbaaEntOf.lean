/-
  impl's entry of a file: its texts are copied.
-/
import Derived.Test.YtjlflmbifeocbaaEntB
import Derived.Test.YtjlflmbifeocbaaZba
import Derived.Test.YtjlflmbifeocbaaSplitP
import Derived.Test.YtjlflmbifeocbaaLaterQ
import Derived.Deep.RegionWith
namespace Go.Proofs.Ytjlflmbifeocbaa
open Go.RowKit

def EntPost (p t : ByteArray) (r : Bool) (w : World) (e : Ending) (w' : World) : Prop := e = .returned (.agg #[.string p, .string t, .bool r]) ∧ Below w.heap.size w w'

set_option maxRecDepth 100000 in
set_option maxHeartbeats 4000000 in
theorem entry_any (p t : ByteArray) (r : Bool) (w : World) (hp : p.size ≤ 281474976710656) (ht : t.size ≤ 281474976710656) :
    Calls Try.prog 40 #[.agg #[.bool true, .string t, .bool r], .string p] w fun e w' => EntPost p t r w e w' := by
  have hal : Below w.heap.size w ((w.alloc (.cells #[.bool true, .string t, .bool r] 54)).alloc (.cells #[.string ⟨#[]⟩, .string ⟨#[]⟩, .bool false] 57)) := ((Below.refl _ _).alloc (Nat.le_refl _) _).alloc (by simp) _
  have d1 : ((w.alloc (.cells #[.bool true, .string t, .bool r] 54)).alloc (.cells #[.string ⟨#[]⟩, .string ⟨#[]⟩, .bool false] 57)).cell? ⟨w.heap.size, 1, none⟩ = some (.string t) := by simp
  have d2 : ((w.alloc (.cells #[.bool true, .string t, .bool r] 54)).alloc (.cells #[.string ⟨#[]⟩, .string ⟨#[]⟩, .bool false] 57)).cell? ⟨w.heap.size, 2, none⟩ = some (.bool r) := by simp
  have g0 : ((w.alloc (.cells #[.bool true, .string t, .bool r] 54)).alloc (.cells #[.string ⟨#[]⟩, .string ⟨#[]⟩, .bool false] 57)).cell? ⟨w.heap.size + 1, 0, none⟩ = some (.string ⟨#[]⟩) := by simp
  have g1 : ((w.alloc (.cells #[.bool true, .string t, .bool r] 54)).alloc (.cells #[.string ⟨#[]⟩, .string ⟨#[]⟩, .bool false] 57)).cell? ⟨w.heap.size + 1, 1, none⟩ = some (.string ⟨#[]⟩) := by simp
  have g2 : ((w.alloc (.cells #[.bool true, .string t, .bool r] 54)).alloc (.cells #[.string ⟨#[]⟩, .string ⟨#[]⟩, .bool false] 57)).cell? ⟨w.heap.size + 1, 2, none⟩ = some (.bool false) := by simp
  have hsz : w.heap.size + 1 < ((w.alloc (.cells #[.bool true, .string t, .bool r] 54)).alloc (.cells #[.string ⟨#[]⟩, .string ⟨#[]⟩, .bool false] 57)).heap.size := by simp
  have f0 : ∀ j, ((w.alloc (.cells #[.bool true, .string t, .bool r] 54)).alloc (.cells #[.string ⟨#[]⟩, .string ⟨#[]⟩, .bool false] 57)).frozen? ⟨w.heap.size + 1, j, none⟩ = false := fun j => by simp
  go_enter Try.func40, Try.ntmps40
  go_wp2_with fail
  generalize hw2 : (w.alloc (.cells #[.bool true, .string t, .bool r] 54)).alloc (.cells #[.string ⟨#[]⟩, .string ⟨#[]⟩, .bool false] 57) = w2 at *
  clear hw2
  obtain ⟨g, hg⟩ : ∃ g, g = w.heap.size + 1 := ⟨_, rfl⟩
  obtain ⟨g', hg'⟩ : ∃ g', g' = w.heap.size := ⟨_, rfl⟩
  have hgw : w.heap.size ≤ g := by omega
  rw [← hg] at g0 g1 g2 hsz f0 ⊢
  rw [← hg'] at d1 d2 ⊢
  have HG : Keep (g' = w.heap.size) := ⟨hg'⟩
  have HGW : Keep (w.heap.size ≤ g) := ⟨hgw⟩
  have hal2 : Below w.heap.size w w2 := hal
  clear hal hg hg' hgw
  have q0 : Below w2.heap.size w2 w2.drew := (Below.refl _ _).drew
  have kq : ∀ {W W' : World}, Below w2.heap.size w2 W → Below W.heap.size W W' → Below w2.heap.size w2 W' := fun h h' => h.trans (h'.mono h.size)
  have kF : ∀ {W : World}, Below w2.heap.size w2 W → ∀ j, W.frozen? ⟨g, j, none⟩ = false := fun h j => (h.frozen (p := ⟨g, j, none⟩) hsz).trans (f0 j)
  go_region_with (first | (go_at_call_of 58 p; refine (clone_any p _ hp).mono ?_; rintro e w3 ⟨rfl, hb3⟩; have q : Below w2.heap.size w2 w3 := (by first | exact kq q hb3 | exact kq q0 hb3); have p1 := cell_later q d1; have p2 := cell_later q d2; have p3 := cell_later q g0; have p4 := cell_later q g1; have p5 := cell_later q g2; have pf := kF q) | (go_at_call_of 58 t; refine (clone_any t _ ht).mono ?_; rintro e w3 ⟨rfl, hb3⟩; have q : Below w2.heap.size w2 w3 := (by first | exact kq q hb3 | exact kq q0 hb3); have p1 := cell_later q d1; have p2 := cell_later q d2; have p3 := cell_later q g0; have p4 := cell_later q g1; have p5 := cell_later q g2; have pf := kF q))
  all_goals
    have hbl : Below w.heap.size w w3 := hal2.trans (q.mono hal2.size)
    go_wp2
    refine bodyPost_ret (v := .agg #[.string p, .string t, .bool r]) ?_ rfl ⟨rfl, ?_⟩
    · go_light
      simp [results, Try.results40, go_sem, p3, p4, p5]
    · have hgw := HGW.out
      exact ((hbl.setCell (p := ⟨g, 0, none⟩) hgw _).setCell (p := ⟨g, 1, none⟩) hgw _).setCell (p := ⟨g, 2, none⟩) hgw _
end Go.Proofs.Ytjlflmbifeocbaa
