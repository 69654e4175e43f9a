/-
  Get: what it gives, plain; impl's entry, Get.
-/
import Derived.Test.YtamdnmbeaclpkadFind
import Derived.Test.YtamdnmbeaclpkadTreeP
import Derived.Test.YtamdnmbeaclpkadClone
import Derived.Test.YtamdnmbeaclpkadLaterQ
import Derived.Deep.RegionWith
namespace Go.Proofs.Ytamdnmbeaclpkad
open Go.RowKit

/-- What Get gives. -/
def Got (ts : List En) (p : ByteArray) (o : Option En) : Prop :=
  (ValidTs ts ∧ ∃ e ∈ ts, e.path = p ∧ o = some e) ∨ ((¬ ValidTs ts ∨ ∀ e ∈ ts, e.path ≠ p) ∧ o = none)

def entV : Option En → Value
  | some e => .agg #[.string e.path, .string e.text, .bool e.runs]
  | none => .agg #[.string ⟨#[]⟩, .string ⟨#[]⟩, .bool false]

theorem path_once {ts : List En} (h : ValidTs ts) {e e' : En} (he : e ∈ ts) (he' : e' ∈ ts) (hp : e.path = e'.path) : e = e' := by
  obtain ⟨i, hi, rfl⟩ := List.getElem_of_mem he
  obtain ⟨j, hj, rfl⟩ := List.getElem_of_mem he'
  have key : ∀ i j (hi : i < ts.length) (hj : j < ts.length), ts[i].path = ts[j].path → ¬ j < i := fun i j hi hj hp hlt => by
    have := asc h.2 i hi j hlt hi hj
    rw [hp, less_irrefl] at this
    cases this
  have h1 := key i j hi hj hp
  have h2 := key j i hj hi hp.symm
  obtain rfl : i = j := by omega
  rfl

theorem got_one {ts : List En} {p : ByteArray} {o o' : Option En} (h : Got ts p o) (h' : Got ts p o') : o = o' := by
  rcases h with ⟨hv, e, he, hp, rfl⟩ | ⟨hn, rfl⟩ <;> rcases h' with ⟨hv', e', he', hp', rfl⟩ | ⟨hn', rfl⟩
  · rw [path_once hv he he' (hp.trans hp'.symm)]
  · rcases hn' with hn' | hn'
    · exact absurd hv hn'
    · exact absurd hp (hn' e he)
  · rcases hn with hn | hn
    · exact absurd hv' hn
    · exact absurd hp' (hn e' he')
  · rfl

def EntPost (p t : ByteArray) (r : Bool) (w : World) (e : Ending) (w' : World) : Prop := e = .returned (.agg #[.string p, .string t, .bool r]) ∧ Below w.heap.size w w'

set_option maxRecDepth 100000 in
set_option maxHeartbeats 4000000 in
theorem entry_any (b mb : Nat) (p t : ByteArray) (r : Bool) (w : World) (hob : w.heap[b]? = some (nodeObj (some (t, r)) mb)) (hp : p.size ≤ 281474976710656) (ht : t.size ≤ 281474976710656) :
    Calls Try.prog 34 #[.pointer (some ⟨b, 0, none⟩), .string p] w fun e w' => EntPost p t r w e w' := by
  obtain ⟨_, _, _, c1, c2⟩ := node_cells hob
  simp only [Option.map_some, Option.getD_some] at c1 c2
  have hal : Below w.heap.size w (w.alloc (.cells #[.string ⟨#[]⟩, .string ⟨#[]⟩, .bool false] 27)) := (Below.refl _ _).alloc (Nat.le_refl _) _
  have d1 := cell_later hal c1
  have d2 := cell_later hal c2
  have g0 : (w.alloc (.cells #[.string ⟨#[]⟩, .string ⟨#[]⟩, .bool false] 27)).cell? ⟨w.heap.size, 0, none⟩ = some (.string ⟨#[]⟩) := by simp
  have g1 : (w.alloc (.cells #[.string ⟨#[]⟩, .string ⟨#[]⟩, .bool false] 27)).cell? ⟨w.heap.size, 1, none⟩ = some (.string ⟨#[]⟩) := by simp
  have g2 : (w.alloc (.cells #[.string ⟨#[]⟩, .string ⟨#[]⟩, .bool false] 27)).cell? ⟨w.heap.size, 2, none⟩ = some (.bool false) := by simp
  have hsz : w.heap.size < (w.alloc (.cells #[.string ⟨#[]⟩, .string ⟨#[]⟩, .bool false] 27)).heap.size := by simp
  have f0 : ∀ j, (w.alloc (.cells #[.string ⟨#[]⟩, .string ⟨#[]⟩, .bool false] 27)).frozen? ⟨w.heap.size, j, none⟩ = false := fun j => by simp
  go_enter Try.func34, Try.ntmps34
  go_wp2_with fail
  generalize hw2 : w.alloc (.cells #[.string ⟨#[]⟩, .string ⟨#[]⟩, .bool false] 27) = w2 at *
  clear hw2
  generalize hg : w.heap.size = g at *
  have hgw : g ≤ g := Nat.le_refl _
  have hal2 : Below g w w2 := hal
  clear hal c1 c2
  have q0 : Below w2.heap.size w2 w2.drew := (Below.refl _ _).drew
  have kq : ∀ {W W' : World}, Below w2.heap.size w2 W → Below W.heap.size W W' → Below w2.heap.size w2 W' := fun h h' => h.trans (h'.mono h.size)
  have kF : ∀ {W : World}, Below w2.heap.size w2 W → ∀ j, W.frozen? ⟨g, j, none⟩ = false := fun h j => (h.frozen (p := ⟨g, j, none⟩) hsz).trans (f0 j)
  go_region_with (first | (go_at_call_of 45 p; refine (clone_any p _ hp).mono ?_; rintro e w3 ⟨rfl, hb3⟩; have q : Below w2.heap.size w2 w3 := (by first | exact kq q hb3 | exact kq q0 hb3); have p1 := cell_later q d1; have p2 := cell_later q d2; have p3 := cell_later q g0; have p4 := cell_later q g1; have p5 := cell_later q g2; have pf := kF q) | (go_at_call_of 45 t; refine (clone_any t _ ht).mono ?_; rintro e w3 ⟨rfl, hb3⟩; have q : Below w2.heap.size w2 w3 := (by first | exact kq q hb3 | exact kq q0 hb3); have p1 := cell_later q d1; have p2 := cell_later q d2; have p3 := cell_later q g0; have p4 := cell_later q g1; have p5 := cell_later q g2; have pf := kF q))
  all_goals
    have hbl : Below g w w3 := hal2.trans (q.mono (by omega))
    go_wp2
    refine bodyPost_ret (v := .agg #[.string p, .string t, .bool r]) ?_ rfl ⟨rfl, ?_⟩
    · go_light
      simp [results, Try.results34, go_sem, p3, p4, p5]
    · rw [hg]
      exact ((hbl.setCell (p := ⟨g, 0, none⟩) hgw _).setCell (p := ⟨g, 1, none⟩) hgw _).setCell (p := ⟨g, 2, none⟩) hgw _
end Go.Proofs.Ytamdnmbeaclpkad
