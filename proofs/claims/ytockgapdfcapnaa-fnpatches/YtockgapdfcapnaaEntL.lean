/-
  Entries that are a call's own: 'EL B w a ts': they lie in a block from B up, and may be written.
-/
import Derived.Test.YtockgapdfcapnaaEntB
import Derived.Test.YtockgapdfcapnaaBase
import Derived.Deep.AppendLies
namespace Go.Proofs.Ytockgapdfcapnaa
open Go.RowKit

def ecell (e : En) : List Value := [.string e.path, .string e.text, .bool e.runs]
/-- Entries as cells. -/
def ecells (us : List En) : List Value := us.flatMap ecell
theorem ecells_snoc (us : List En) (e : En) : ecells (us ++ [e]) = ecells us ++ ecell e := by simp [ecells]

theorem news_3 (w : World) (e : En) (t : TypeId) (n : Nat) (hn : w.heap.size = n) : ∀ j u, (ecell e)[j]? = some u → (w.alloc (.cells #[.string e.path, .string e.text, .bool e.runs] t)).cell? (Addr.add ⟨n, 0, none⟩ j) = some u := by
  intro j u hj
  subst hn
  rw [Go.WideShapes.add_plain, Nat.zero_add, World.cell?_alloc_new]
  match j, hj with
  | 0, hj => simpa [ecell] using hj
  | 1, hj => simpa [ecell] using hj
  | 2, hj => simpa [ecell] using hj
theorem one_3 (e : En) : ∀ u ∈ ecell e, u.oneCell' = true := by
  intro u hu
  simp [ecell] at hu
  rcases hu with rfl | rfl | rfl <;> rfl

/-- Entries that are a call's own. -/
def EL (B : Nat) (w : World) (a : Option Addr) (ts : List En) : Prop :=
  ts = [] ∨ ∃ g, a = some ⟨g, 0, none⟩ ∧ B ≤ g ∧ g < w.heap.size ∧ (∀ j, w.frozen? ⟨g, j, none⟩ = false) ∧
    ∀ i (h : i < ts.length), w.cell? ⟨g, i * 3, none⟩ = some (.string ts[i].path) ∧ w.cell? ⟨g, i * 3 + 1, none⟩ = some (.string ts[i].text) ∧ w.cell? ⟨g, i * 3 + 2, none⟩ = some (.bool ts[i].runs)

theorem EL.es {B : Nat} {w : World} {a : Option Addr} {ts : List En} (h : EL B w a ts) : ES w a ts := by
  rcases h with h | ⟨g, ha, _, _, _, hc⟩
  · exact .inl h
  · refine .inr ⟨g, 0, ha, fun i hi => ?_⟩
    rw [Nat.zero_add]
    exact hc i hi
theorem EL.nil (B : Nat) (w : World) (a : Option Addr) : EL B w a [] := .inl rfl
theorem EL.mono {B B' : Nat} {w : World} {a : Option Addr} {ts : List En} (h : EL B w a ts) (hB : B' ≤ B) : EL B' w a ts := by
  rcases h with h | ⟨g, ha, h1, h2⟩
  · exact .inl h
  · exact .inr ⟨g, ha, Nat.le_trans hB h1, h2⟩
/-- The block of a slice. -/
def blk (a : Option Addr) : Option Nat := a.map (·.block)
theorem EL.grown {B : Nat} {w w' : World} {a : Option Addr} {ts : List En} {row : Option Nat} (h : EL B w a ts) (hg : w.grownBy w' row) (hne : ∀ g, blk a = some g → B ≤ g → g < w.heap.size → some g ≠ row) : EL B w' a ts := by
  rcases h with h | ⟨g, rfl, h1, h2, h3, h4⟩
  · exact .inl h
  · have hk := hg.block g h2 (hne g rfl h1 h2)
    have hc : ∀ j, w'.cell? ⟨g, j, none⟩ = w.cell? ⟨g, j, none⟩ := fun j => World.cell?_of_block hk
    refine .inr ⟨g, rfl, h1, Nat.lt_of_lt_of_le h2 hg.size, fun j => ?_, fun i hi => ?_⟩
    · have := h3 j
      unfold World.frozen? at this ⊢
      simp only at this ⊢
      rw [hk]; exact this
    · rw [hc, hc, hc]; exact h4 i hi
theorem EL.below {B : Nat} {w w' : World} {a : Option Addr} {ts : List En} (h : EL B w a ts) (hb : Below w.heap.size w w') : EL B w' a ts :=
  h.grown (row := none) ⟨hb.os, hb.tape, hb.output, hb.size, fun k hk _ => hb.block k hk⟩ (fun _ _ _ _ => by simp)

theorem ecells_at : ∀ (us : List En) (i : Nat) (h : i < us.length), (ecells us)[i * 3]? = some (.string us[i].path) ∧ (ecells us)[i * 3 + 1]? = some (.string us[i].text) ∧ (ecells us)[i * 3 + 2]? = some (.bool us[i].runs)
  | [], i, h => by simp at h
  | e :: us, 0, _ => by simp [ecells, ecell]
  | e :: us, i + 1, h => by
    have ih := ecells_at us i (by simpa using h)
    have hs : ecells (e :: us) = .string e.path :: .string e.text :: .bool e.runs :: ecells us := by simp [ecells, ecell]
    rw [hs, show (i + 1) * 3 = i * 3 + 3 by omega]
    simpa using ih
theorem el_of_row {B : Nat} {w : World} {e : TypeId} {ad : Option Addr} {cap : Nat} {us : List En} (h : w.ownsRow B e 3 (.slice ad us.length cap) us.length (ecells us)) : EL B w ad us := by
  rcases h.2 with ⟨_, h0⟩ | ⟨g, cap', cur, hv, hB, hg, _⟩
  · exact .inl (List.eq_nil_of_length_eq_zero h0)
  · simp only [Value.slice.injEq, true_and] at hv
    obtain ⟨rfl, rfl⟩ := hv
    refine .inr ⟨g, rfl, hB, (Array.getElem?_eq_some_iff.1 hg).1, fun j => h.frozenAt j, fun i hi => ?_⟩
    rw [h.cellAt (i * 3) (by omega), h.cellAt (i * 3 + 1) (by omega), h.cellAt (i * 3 + 2) (by omega)]
    exact ecells_at us i hi
theorem EL.set {B : Nat} {w : World} {a : Option Addr} {ts : List En} (h : EL B w a ts) {g i : Nat} {u : Value} (hne : blk a ≠ some g) : EL B (w.setCell ⟨g, i, none⟩ u) a ts :=
  h.grown (row := some g) ⟨rfl, rfl, rfl, by simp, fun k _ hk => Below.heap_setCell _ _ _ _ (fun e => hk (by rw [e]))⟩ (fun k hk _ _ e => hne (by rw [hk, e]))

/-- A tree as it is handed back, alone. -/
def TreeQ (us : List En) (B : Nat) (e : Ending) (w' : World) : Prop := ∃ ad cap, e = .returned (.agg #[.slice ad us.length cap]) ∧ EL B w' ad us
/-- A tree as it is handed back. -/
def TreeV (ad : Option Addr) (n cap : Nat) (c : Int) : Value := .tuple #[.agg #[.slice ad n cap], .int .i64 c]

def TreeR (us : List En) (c : Int) (B : Nat) (e : Ending) (w' : World) : Prop := ∃ ad cap, e = .returned (TreeV ad us.length cap c) ∧ EL B w' ad us
end Go.Proofs.Ytockgapdfcapnaa
