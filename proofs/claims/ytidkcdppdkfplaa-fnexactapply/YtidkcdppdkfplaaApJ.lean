/-
  EntL, CmpB, LaterQ, ChangesL: laid as one text.
-/
import Derived.Test.YtidkcdppdkfplaaEntB
import Derived.Test.YtidkcdppdkfplaaBase
import Derived.Deep.AppendLies
import Derived.Test.YtidkcdppdkfplaaRows
import Derived.WalkKit
import Derived.WalkSpells
import Derived.Lib.Bytealg
import Derived.Laws.Externs
import Derived.Laws.Strings3
import Derived.WalkLawsBesides
import Derived.Below
import Derived.Deep.QuietTactic
import Derived.BigQuiet
import Derived.Deep.Light
import Derived.Deep.RegionWith
namespace Go.Proofs.Ytidkcdppdkfplaa
open Go.RowKit

def ecell (e : En) : List Value := [.string e.path, .string e.text, .bool e.runs]
/-- Entries as cells. -/
def ecells (us : List En) : List Value := us.flatMap ecell
theorem ecells_snoc (us : List En) (e : En) : ecells (us ++ [e]) = ecells us ++ ecell e := by simp [ecells]

theorem news_3 (w : World) (e : En) (t : TypeId) (n : Nat) (hn : w.heap.size = n) : ∀ j u, (ecell e)[j]? = some u → (w.alloc (.cells #[.string e.path, .string e.text, .bool e.runs] t)).cell? (Addr.add ⟨n, 0, none⟩ j) = some u := by
  intro j u hj
  subst hn
  rw [Go.WideShapes.add_plain, Nat.zero_add, World.cell?_alloc_new]
  match j, hj with
  | 0, hj => simpa [ecell] using hj
  | 1, hj => simpa [ecell] using hj
  | 2, hj => simpa [ecell] using hj
theorem one_3 (e : En) : ∀ u ∈ ecell e, u.oneCell' = true := by
  intro u hu
  simp [ecell] at hu
  rcases hu with rfl | rfl | rfl <;> rfl

/-- Entries that are a call's own. -/
def EL (B : Nat) (w : World) (a : Option Addr) (ts : List En) : Prop :=
  ts = [] ∨ ∃ g, a = some ⟨g, 0, none⟩ ∧ B ≤ g ∧ g < w.heap.size ∧ (∀ j, w.frozen? ⟨g, j, none⟩ = false) ∧
    ∀ i (h : i < ts.length), w.cell? ⟨g, i * 3, none⟩ = some (.string ts[i].path) ∧ w.cell? ⟨g, i * 3 + 1, none⟩ = some (.string ts[i].text) ∧ w.cell? ⟨g, i * 3 + 2, none⟩ = some (.bool ts[i].runs)

theorem EL.es {B : Nat} {w : World} {a : Option Addr} {ts : List En} (h : EL B w a ts) : ES w a ts := by
  rcases h with h | ⟨g, ha, _, _, _, hc⟩
  · exact .inl h
  · refine .inr ⟨g, 0, ha, fun i hi => ?_⟩
    rw [Nat.zero_add]
    exact hc i hi
theorem EL.nil (B : Nat) (w : World) (a : Option Addr) : EL B w a [] := .inl rfl
theorem EL.mono {B B' : Nat} {w : World} {a : Option Addr} {ts : List En} (h : EL B w a ts) (hB : B' ≤ B) : EL B' w a ts := by
  rcases h with h | ⟨g, ha, h1, h2⟩
  · exact .inl h
  · exact .inr ⟨g, ha, Nat.le_trans hB h1, h2⟩
/-- The block of a slice. -/
def blk (a : Option Addr) : Option Nat := a.map (·.block)
theorem EL.grown {B : Nat} {w w' : World} {a : Option Addr} {ts : List En} {row : Option Nat} (h : EL B w a ts) (hg : w.grownBy w' row) (hne : ∀ g, blk a = some g → B ≤ g → g < w.heap.size → some g ≠ row) : EL B w' a ts := by
  rcases h with h | ⟨g, rfl, h1, h2, h3, h4⟩
  · exact .inl h
  · have hk := hg.block g h2 (hne g rfl h1 h2)
    have hc : ∀ j, w'.cell? ⟨g, j, none⟩ = w.cell? ⟨g, j, none⟩ := fun j => World.cell?_of_block hk
    refine .inr ⟨g, rfl, h1, Nat.lt_of_lt_of_le h2 hg.size, fun j => ?_, fun i hi => ?_⟩
    · have := h3 j
      unfold World.frozen? at this ⊢
      simp only at this ⊢
      rw [hk]; exact this
    · rw [hc, hc, hc]; exact h4 i hi
theorem EL.below {B : Nat} {w w' : World} {a : Option Addr} {ts : List En} (h : EL B w a ts) (hb : Below w.heap.size w w') : EL B w' a ts :=
  h.grown (row := none) ⟨hb.os, hb.tape, hb.output, hb.size, fun k hk _ => hb.block k hk⟩ (fun _ _ _ _ => by simp)

theorem ecells_at : ∀ (us : List En) (i : Nat) (h : i < us.length), (ecells us)[i * 3]? = some (.string us[i].path) ∧ (ecells us)[i * 3 + 1]? = some (.string us[i].text) ∧ (ecells us)[i * 3 + 2]? = some (.bool us[i].runs)
  | [], i, h => by simp at h
  | e :: us, 0, _ => by simp [ecells, ecell]
  | e :: us, i + 1, h => by
    have ih := ecells_at us i (by simpa using h)
    have hs : ecells (e :: us) = .string e.path :: .string e.text :: .bool e.runs :: ecells us := by simp [ecells, ecell]
    rw [hs, show (i + 1) * 3 = i * 3 + 3 by omega]
    simpa using ih
theorem el_of_row {B : Nat} {w : World} {e : TypeId} {ad : Option Addr} {cap : Nat} {us : List En} (h : w.ownsRow B e 3 (.slice ad us.length cap) us.length (ecells us)) : EL B w ad us := by
  rcases h.2 with ⟨_, h0⟩ | ⟨g, cap', cur, hv, hB, hg, _⟩
  · exact .inl (List.eq_nil_of_length_eq_zero h0)
  · simp only [Value.slice.injEq, true_and] at hv
    obtain ⟨rfl, rfl⟩ := hv
    refine .inr ⟨g, rfl, hB, (Array.getElem?_eq_some_iff.1 hg).1, fun j => h.frozenAt j, fun i hi => ?_⟩
    rw [h.cellAt (i * 3) (by omega), h.cellAt (i * 3 + 1) (by omega), h.cellAt (i * 3 + 2) (by omega)]
    exact ecells_at us i hi
theorem EL.set {B : Nat} {w : World} {a : Option Addr} {ts : List En} (h : EL B w a ts) {g i : Nat} {u : Value} (hne : blk a ≠ some g) : EL B (w.setCell ⟨g, i, none⟩ u) a ts :=
  h.grown (row := some g) ⟨rfl, rfl, rfl, by simp, fun k _ hk => Below.heap_setCell _ _ _ _ (fun e => hk (by rw [e]))⟩ (fun k hk _ _ e => hne (by rw [hk, e]))

/-- A tree as it is handed back, alone. -/
def TreeQ (us : List En) (B : Nat) (e : Ending) (w' : World) : Prop := ∃ ad cap, e = .returned (.agg #[.slice ad us.length cap]) ∧ EL B w' ad us
/-- A tree as it is handed back. -/
def TreeV (ad : Option Addr) (n cap : Nat) (c : Int) : Value := .tuple #[.agg #[.slice ad n cap], .int .i64 c]

def TreeR (us : List En) (c : Int) (B : Nat) (e : Ending) (w' : World) : Prop := ∃ ad cap, e = .returned (TreeV ad us.length cap c) ∧ EL B w' ad us
end Go.Proofs.Ytidkcdppdkfplaa

namespace Go.Proofs.Ytidkcdppdkfplaa
open Go.RowKit Go.Lib

set_option maxHeartbeats 1000000 in
set_option maxRecDepth 100000 in
theorem cmpString_any (a b : ByteArray) (w : World) :
    Calls Try.prog 67 #[.string a, .string b] w fun e w' => e = .returned (.int .i64 (Lib.compareBytes a.data.toList b.data.toList)) ∧ w' = w := by
  go_enter Try.func67, Try.ntmps67
  go_wp2
  rw [run_callFunc_extern Try.func72 (by kernel_rfl) (by kernel_rfl) (by kernel_rfl) (e := Extern.BytealgCompare.compare) (by kernel_rfl), Lib.run_compareString]
  simp only [Result.andThen]
  rw [Oper.upon_value]
  go_wp2
  go_ret
  exact ⟨rfl, rfl⟩

set_option maxHeartbeats 1000000 in
theorem compare_any (a b : ByteArray) (w : World) :
    Calls Try.prog 59 #[.string a, .string b] w fun e w' => e = .returned (.int .i64 (Lib.compareBytes a.data.toList b.data.toList)) ∧ w' = w := by
  go_enter Try.func59, Try.ntmps59
  go_wp2_with (go_at_call 67; refine (cmpString_any _ _ _).mono ?_; rintro e w' ⟨rfl, rfl⟩)
  go_ret
  exact ⟨rfl, rfl⟩

theorem compare_neg : ∀ {a b : List UInt8}, Lib.compareBytes a b < 0 ↔ Op.bytesLess a b = true
  | [], [] => by simp [Lib.compareBytes, Op.bytesLess]
  | [], _ :: _ => by simp [Lib.compareBytes, Op.bytesLess]
  | _ :: _, [] => by simp [Lib.compareBytes, Op.bytesLess]
  | x :: a, y :: b => by
    have ih := compare_neg (a := a) (b := b)
    by_cases h : x < y
    · simp [Lib.compareBytes, Op.bytesLess, h]
    · by_cases h2 : y < x
      · have hne : ¬ x = y := fun e => by subst e; exact h h2
        simp [Lib.compareBytes, Op.bytesLess, h, h2, hne]
      · have he : x = y := by
          rw [UInt8.lt_iff_toNat_lt] at h h2
          exact UInt8.toNat_inj.1 (by omega)
        subst he
        simp [Lib.compareBytes, Op.bytesLess, h, ih]

end Go.Proofs.Ytidkcdppdkfplaa

namespace Go.Proofs.Ytidkcdppdkfplaa
open Go.RowKit

/-- A world that has grown out of w. -/
structure Later (w : World) where
  world : World
  kept : Below w.heap.size w world

theorem later_any (w : World) : Nonempty (Later w) := ⟨⟨w, Below.refl _ _⟩⟩

theorem wp_region_later {P : Program} {id : Nat} {Q : Exit → Act → World → Prop} {a : Act} {w : World} {l : List Oper} (hm : P.follows .mixedOrders = true) (hB : Region.lexB .any l.toArray = true)
    (h : wpQuiet P l.toArray (fun w' => ∃ x : Later w, w' = x.world) (fun a' => ∀ w', (∃ x : Later w, w' = x.world) → Q .normal a' w') l a) : (Code.region id l.toArray true).wp P Q a w :=
  wp_region_quiet (C := fun w' => ∃ x : Later w, w' = x.world) hm hB ⟨⟨_, (Below.refl _ _).drew⟩, rfl⟩ (by simpa using h)

/-- A callee's contract, in a later world. -/
theorem Later.call {P : Program} {f : FuncId} {args : Array Value} {w : World} {v : Value} (x : Later w)
    (h : Calls P f args x.world fun e w' => e = .returned v ∧ Below x.world.heap.size x.world w') : Calls P f args x.world fun e w'' => e = .returned v ∧ ∃ y : Later w, w'' = y.world :=
  h.mono fun _ w' ⟨he, hb⟩ => ⟨he, ⟨w', x.kept.trans (hb.mono x.kept.size)⟩, rfl⟩

end Go.Proofs.Ytidkcdppdkfplaa

namespace Go.Proofs.Ytidkcdppdkfplaa
open Go.RowKit

structure Fl where
  there : Bool
  text : ByteArray
  runs : Bool
structure Ch where
  path : ByteArray
  old : Fl
  new : Fl

def flV (f : Fl) : Value := .agg #[.bool f.there, .string f.text, .bool f.runs]
def chV (c : Ch) : Value := .agg #[.string c.path, .bool c.old.there, .string c.old.text, .bool c.old.runs, .bool c.new.there, .string c.new.text, .bool c.new.runs]

/-- A change's cells at a place. -/
def ChAt (w : World) (b o : Nat) (c : Ch) : Prop :=
  w.cell? ⟨b, o, none⟩ = some (.string c.path) ∧ w.cell? ⟨b, o + 1, none⟩ = some (.bool c.old.there) ∧ w.cell? ⟨b, o + 2, none⟩ = some (.string c.old.text) ∧ w.cell? ⟨b, o + 3, none⟩ = some (.bool c.old.runs) ∧
  w.cell? ⟨b, o + 4, none⟩ = some (.bool c.new.there) ∧ w.cell? ⟨b, o + 5, none⟩ = some (.string c.new.text) ∧ w.cell? ⟨b, o + 6, none⟩ = some (.bool c.new.runs)
theorem ChAt.later {w w' : World} {b o : Nat} {c : Ch} (h : ChAt w b o c) (hb : Below w.heap.size w w') : ChAt w' b o c :=
  ⟨cell_later hb h.1, cell_later hb h.2.1, cell_later hb h.2.2.1, cell_later hb h.2.2.2.1, cell_later hb h.2.2.2.2.1, cell_later hb h.2.2.2.2.2.1, cell_later hb h.2.2.2.2.2.2⟩

/-- The slice at address a (whatever where there is no element) holds the changes cs. -/
def CS (w : World) (a : Option Addr) (cs : List Ch) : Prop :=
  cs = [] ∨ ∃ b off, a = some ⟨b, off, none⟩ ∧ ∀ i (h : i < cs.length), ChAt w b (off + i * 7) cs[i]
theorem CS.below {w w' : World} {a : Option Addr} {cs : List Ch} (h : CS w a cs) (hb : Below w.heap.size w w') : CS w' a cs := by
  rcases h with h | ⟨b, off, ha, hc⟩
  · exact .inl h
  · exact .inr ⟨b, off, ha, fun i hi => (hc i hi).later hb⟩
theorem CS.at {w : World} {a : Option Addr} {cs : List Ch} (h : CS w a cs) {k : Nat} (hk : k < cs.length) : ∃ b off, a = some ⟨b, off, none⟩ ∧ ∀ i (h : i < cs.length), ChAt w b (off + i * 7) cs[i] := by
  rcases h with h | h
  · subst h; simp at hk
  · exact h

def sizeC (c : Ch) : Nat := c.path.size + c.old.text.size + c.new.text.size
def totalC (cs : List Ch) : Nat := (cs.map sizeC).sum
theorem totalC_take (cs : List Ch) (k : Nat) (h : k < cs.length) : totalC (cs.take (k + 1)) = totalC (cs.take k) + sizeC cs[k] := by
  rw [List.take_succ_eq_append_getElem h]; simp only [totalC, List.map_append, List.sum_append]; simp
theorem size_le_totalC (cs : List Ch) (a : Ch) (h : a ∈ cs) : sizeC a ≤ totalC cs := by
  induction cs with
  | nil => simp at h
  | cons x l ih =>
    simp only [totalC, List.map_cons, List.sum_cons] at ih ⊢
    rcases List.mem_cons.1 h with rfl | h
    · omega
    · have := ih h; omega
def chMax (c : Ch) : Prop := c.path.size ≤ maxLen ∧ c.old.text.size ≤ maxLen ∧ c.new.text.size ≤ maxLen

set_option maxRecDepth 20000 in
set_option maxHeartbeats 1000000 in
theorem szFile_any (f : Fl) (L : Int) (w : World) (hL : 0 ≤ L ∧ L ≤ 1048576) (hm : f.text.size ≤ maxLen) :
    Calls Try.prog 51 #[.agg #[.bool f.there, .string f.text, .bool f.runs], .int .i64 L] w fun e w' => e = .returned (.int .i64 (if L - f.text.size < 0 then -1 else L - f.text.size)) ∧ Below w.heap.size w w' := by
  unfold maxLen at hm
  by_cases h1 : L - f.text.size < 0
  · rw [if_pos h1]
    go_enter Try.func51, Try.ntmps51
    go_wp2
    go_ret
    exact ⟨rfl, (Below.refl _ _).alloc (Nat.le_refl _) _⟩
  · rw [if_neg h1]
    go_enter Try.func51, Try.ntmps51
    go_wp2
    go_ret
    exact ⟨rfl, (Below.refl _ _).alloc (Nat.le_refl _) _⟩

set_option maxRecDepth 20000 in
set_option maxHeartbeats 1000000 in
theorem szChange_any (c : Ch) (L : Int) (w : World) (hL : 0 ≤ L ∧ L ≤ 1048576) (hm : chMax c) :
    Calls Try.prog 36 #[chV c, .int .i64 L] w fun e w' => e = .returned (.int .i64 (if L - sizeC c < 0 then -1 else L - sizeC c)) ∧ Below w.heap.size w w' := by
  obtain ⟨hm1, hm2, hm3⟩ := hm
  have hm1' := hm1
  unfold maxLen at hm1
  unfold chV sizeC
  have hal : Below w.heap.size w (w.alloc (.cells #[.string c.path, .bool c.old.there, .string c.old.text, .bool c.old.runs, .bool c.new.there, .string c.new.text, .bool c.new.runs] 75)) := (Below.refl _ _).alloc (Nat.le_refl _) _
  have hc : ChAt (w.alloc (.cells #[.string c.path, .bool c.old.there, .string c.old.text, .bool c.old.runs, .bool c.new.there, .string c.new.text, .bool c.new.runs] 75)) w.heap.size 0 c := by simp [ChAt]
  by_cases h1 : L - c.path.size < 0
  · rw [if_pos (by omega)]
    go_enter Try.func36, Try.ntmps36
    go_wp2
    go_ret
    exact ⟨rfl, hal⟩
  by_cases h2 : L - c.path.size - c.old.text.size < 0
  · rw [if_pos (by omega)]
    go_enter Try.func36, Try.ntmps36
    go_wp2_with fail
    refine (szFile_any c.old _ _ (by omega) hm2).mono ?_
    rintro e w1 ⟨rfl, hb1⟩
    have hbw := hal.trans (hb1.mono hal.size)
    obtain ⟨d0, d1, d2, d3, d4, d5, d6⟩ := hc.later hb1
    simp only [Nat.zero_add] at d0 d1 d2 d3 d4 d5 d6
    clear hc
    rw [if_pos (by omega)]
    go_wp2
    go_ret
    exact ⟨rfl, hbw⟩
  by_cases h3 : L - c.path.size - c.old.text.size - c.new.text.size < 0
  · rw [if_pos (by omega)]
    go_enter Try.func36, Try.ntmps36
    go_wp2_with fail
    refine (szFile_any c.old _ _ (by omega) hm2).mono ?_
    rintro e w1 ⟨rfl, hb1⟩
    have hbw := hal.trans (hb1.mono hal.size)
    obtain ⟨d0, d1, d2, d3, d4, d5, d6⟩ := hc.later hb1
    simp only [Nat.zero_add] at d0 d1 d2 d3 d4 d5 d6
    clear hc
    rw [if_neg (by omega)]
    go_wp2_with fail
    refine (szFile_any c.new _ _ (by omega) hm3).mono ?_
    rintro e w2 ⟨rfl, hb2⟩
    have hbw2 := hbw.trans (hb2.mono hbw.size)
    rw [if_pos (by omega)]
    go_wp2
    go_ret
    exact ⟨rfl, hbw2⟩
  · rw [if_neg (by omega), show L - ((c.path.size + c.old.text.size + c.new.text.size : Nat) : Int) = L - c.path.size - c.old.text.size - c.new.text.size by omega]
    go_enter Try.func36, Try.ntmps36
    go_wp2_with fail
    refine (szFile_any c.old _ _ (by omega) hm2).mono ?_
    rintro e w1 ⟨rfl, hb1⟩
    have hbw := hal.trans (hb1.mono hal.size)
    obtain ⟨d0, d1, d2, d3, d4, d5, d6⟩ := hc.later hb1
    simp only [Nat.zero_add] at d0 d1 d2 d3 d4 d5 d6
    clear hc
    rw [if_neg (by omega)]
    go_wp2_with fail
    refine (szFile_any c.new _ _ (by omega) hm3).mono ?_
    rintro e w2 ⟨rfl, hb2⟩
    have hbw2 := hbw.trans (hb2.mono hbw.size)
    rw [if_neg (by omega)]
    go_wp2
    go_ret
    exact ⟨rfl, hbw2⟩

set_option maxRecDepth 20000 in
set_option maxHeartbeats 1000000 in
theorem toFile_any (f : Fl) (w : World) :
    Calls Try.prog 53 #[.agg #[.bool f.there, .string f.text, .bool f.runs]] w fun e w' => e = .returned (.agg #[.bool f.there, .string f.text, .bool f.runs]) ∧ Below w.heap.size w w' := by
  go_enter Try.func53, Try.ntmps53
  go_wp2
  refine bodyPost_ret (v := .agg #[.bool f.there, .string f.text, .bool f.runs]) ?_ rfl ⟨rfl, ?_⟩
  · go_light
    simp [results, Try.results53, go_sem]
  · exact (((Below.refl _ _).alloc (Nat.le_refl _) _).alloc (by simp) _).alloc (by simp; omega) _

set_option maxRecDepth 20000 in
set_option maxHeartbeats 1000000 in
theorem eqFile_any (f : Fl) (w : World) :
    Calls Try.prog 61 #[.agg #[.bool f.there, .string f.text, .bool f.runs], .agg #[.bool f.there, .string f.text, .bool f.runs]] w fun e w' => e = .returned (.bool true) ∧ Below w.heap.size w w' := by
  go_enter Try.func61, Try.ntmps61
  go_wp2
  go_ret
  exact ⟨rfl, ((Below.refl _ _).alloc (Nat.le_refl _) _).alloc (by simp) _⟩
end Go.Proofs.Ytidkcdppdkfplaa
