/-
  A row of bytes that is owned, told by its cells: for what '[]byte(s)' lays and what is appended to it.
-/
import Derived.Test.YtdjpohkionapiaaSpecForm
import Derived.Deep.AppendSrc
import Derived.Deep.MidRow
namespace Go.Proofs.Ytdjpohkionapiaa
open Go.RowKit

structure OwnC (w : World) (base g cap : Nat) (l : List UInt8) : Prop where
  ge : base ≤ g
  lt : g < w.heap.size
  le : l.length ≤ cap
  cells : ∀ j (h : j < l.length), w.cell? ⟨g, j, none⟩ = some (.int .u8 (l[j].toNat : Int))
  room : ∀ j, j < cap → (w.cell? ⟨g, j, none⟩).isSome = true ∧ w.frozen? ⟨g, j, none⟩ = false

theorem OwnC.below {w w' : World} {base g cap : Nat} {l : List UInt8} (h : OwnC w base g cap l) (hb : Below w.heap.size w w') : OwnC w' base g cap l := by
  have hblk := hb.block g h.lt
  refine ⟨h.ge, Nat.lt_of_lt_of_le h.lt hb.size, h.le, fun j hj => cell_later hb (h.cells j hj), fun j hj => ?_⟩
  rw [World.cell?_of_block (w := w) (a := ⟨g, j, none⟩) hblk, World.frozen?_of_block (w := w) (a := ⟨g, j, none⟩) hblk]
  exact h.room j hj

theorem OwnC.back {w : World} {base g cap : Nat} {l : List UInt8} (h : OwnC w base g cap l) : (convert 50 9 (.slice (some ⟨g, 0, none⟩) l.length cap)).run Try.prog w = .ok (.string ⟨l.toArray⟩) w :=
  run_convert_bytes_back (P := Try.prog) w 50 9 5 ⟨g, 0, none⟩ cap l Try.underlying50 Try.underlying5 Try.underlying9 (fun j hj => by
    rw [Go.WideShapes.add_plain, Nat.zero_add]
    exact h.cells j hj)

theorem size_cells (b : Nat) : ∀ (vs : List Value) (o : Nat) (w : World), (w.setCells b o vs).heap.size = w.heap.size
  | [], _, _ => rfl
  | _ :: r, o, _ => by rw [World.setCells, size_cells b r (o + 1)]; simp
theorem below_cells {B b : Nat} (hb : B ≤ b) {a : World} : ∀ (vs : List Value) (o : Nat) (w : World), Below B a w → Below B a (w.setCells b o vs)
  | [], _, _, h => h
  | _ :: r, o, _, h => below_cells hb r (o + 1) _ (h.setCell hb _)

/-- With room. -/
theorem OwnC.set {w : World} {base g cap : Nat} {l : List UInt8} (h : OwnC w base g cap l) (s : List UInt8) (hs : l.length + s.length ≤ cap) : OwnC (w.setCells g l.length (bc s)) base g cap (l ++ s) := by
  have hin := World.cell?_setCells_in g (bc s) l.length w (fun j hj => (h.room (l.length + j) (by rw [bc_len] at hj; omega)).1)
  refine ⟨h.ge, by rw [size_cells]; exact h.lt, by simp; omega, fun j hj => ?_, fun j hj => ?_⟩
  · by_cases hlt : j < l.length
    · rw [World.cell?_setCells_out g (bc s) l.length w ⟨g, j, none⟩ (fun _ _ => .inl hlt), h.cells j hlt, List.getElem_append_left hlt]
    · have hj' : j - l.length < s.length := by simp at hj; omega
      have e := hin (j - l.length) (by rw [bc_len]; exact hj')
      rw [show l.length + (j - l.length) = j by omega] at e
      rw [e, List.getElem_append_right (by omega)]
      simp [bc]
  · rw [World.frozen?_setCells]
    exact ⟨World.isSome_setCells g (bc s) l.length w _ (h.room j hj).1, (h.room j hj).2⟩

/-- '[]byte(s)'. -/
theorem conv_own (w : World) (base : Nat) (s : ByteArray) (hb : base ≤ w.heap.size) : ∃ cap w', (convert 9 50 (.string s)).run Try.prog w = .ok (.slice (some ⟨w.heap.size, 0, none⟩) s.size cap) w' ∧ OwnC w' base w.heap.size cap s.data.toList ∧ Below base w w' := by
  refine ⟨_, _, run_bytes_of_string (P := Try.prog) w 9 50 5 s Try.underlying9 Try.underlying50 Try.underlying5, ?_, ?_⟩
  · have hge := grownCap_ge w s.size 0 5
    have hsz : s.data.toList.length = s.size := by rw [Array.length_toList]; rfl
    generalize grownCap w s.size 0 5 = cap at *
    have hrow : (bytesRow s cap).size = cap := by
      have : s.data.size = s.size := rfl
      simp [bytesRow, this]; omega
    refine ⟨hb, by simp, by omega, fun j hj => ?_, fun j hj => ?_⟩
    · have := World.cell?_alloc_mark w.drew (bytesRow s cap) 5 ((bytesRow s cap).size, (bytesRow s cap).size + 1) j
      have h2 := bytesRow_at s cap j (by rw [hsz] at hj; exact hj)
      exact this.trans (h2.trans (by simp))
    · have h1 := World.cell?_alloc_mark w.drew (bytesRow s cap) 5 ((bytesRow s cap).size, (bytesRow s cap).size + 1) j
      have h2 := World.frozen?_alloc_mark w.drew (bytesRow s cap) 5 (bytesRow s cap).size ((bytesRow s cap).size + 1) j
      constructor
      · rw [show (⟨w.heap.size, j, none⟩ : Addr) = ⟨w.drew.heap.size, j, none⟩ from rfl, h1]
        simp [hrow, hj]
      · refine h2.trans ?_
        simp [hrow]
        omega
  · exact (Below.refl _ _).drew.alloc hb _

theorem bc_str (s : ByteArray) : Go.byteCells s = bc s.data.toList := rfl

/-- 'append(out, s...)'. -/
theorem append_own {w : World} {base g cap : Nat} {l : List UInt8} (h : OwnC w base g cap l) (s : ByteArray) (hn : l.length + s.size ≤ 1099511627776) (hb : base ≤ w.heap.size) (ty : TypeId) :
    ∃ g' cap' w', (Builtin.append_ #[50, 9] ty #[.slice (some ⟨g, 0, none⟩) l.length cap, .string s]).run Try.prog w = .ok (.slice (some ⟨g', 0, none⟩) (l.length + s.size) cap') w' ∧ OwnC w' base g' cap' (l ++ s.data.toList) ∧ Below base w w' := by
  obtain ⟨i0, hi, hz0, hz1, hz2⟩ := info_parts Try.infoByte
  have hsz : s.data.toList.length = s.size := by rw [Array.length_toList]; rfl
  have hsrc := Go.Src.ofString (P := Try.prog) w Try.underlying9 s
  rw [← hz1] at hsrc
  by_cases hroom : l.length + s.size ≤ cap
  · have hr := Go.run_append_room_src (P := Try.prog) w 50 9 ty 5 i0 Try.underlying50 hi g 0 l.length cap (.string s) s.size (Go.byteCells s) hsrc hroom
      (fun j hj => by rw [bc_str, bc_len, hsz] at hj; rw [hz1, Nat.zero_add, Nat.mul_one]; exact (h.room _ (by omega)).1)
      (fun j hj => by rw [bc_str, bc_len, hsz] at hj; rw [hz1, Nat.zero_add, Nat.mul_one]; exact (h.room _ (by omega)).2)
    rw [hz1, Nat.zero_add, Nat.mul_one, bc_str] at hr
    exact ⟨g, cap, _, hr, h.set s.data.toList (by rw [hsz]; exact hroom), below_cells h.ge _ _ _ (Below.refl _ _)⟩
  · have hold := run_firstCells_some (P := Try.prog) w.drew i0.size l.length ⟨g, 0, none⟩ l.length cap (bc l) (by rw [bc_len, hz1, Nat.mul_one]) (fun j v hj => by
      have hjl : j < l.length := by
        have := (List.getElem?_eq_some_iff.1 hj).1
        rwa [bc_len] at this
      rw [Go.WideShapes.add_plain, Nat.zero_add]
      refine (h.cells j hjl).trans ?_
      rw [← hj]
      simp [bc, hjl])
    have hr := Go.run_append_grow_src (P := Try.prog) w 50 9 ty 5 i0 _ Try.underlying50 hi hz0 (some ⟨g, 0, none⟩) l.length cap (bc l) hold (.string s) s.size (Go.byteCells s) hsrc (by omega) (by omega) (growslice_fits (by omega) (by rw [hz2]; omega))
    refine ⟨_, _, _, hr, ?_, (Below.refl _ _).drew.alloc hb _⟩
    have hge := grownCap_ge w (l.length + s.size) cap 5
    generalize grownCap w (l.length + s.size) cap 5 = cap' at *
    have hlen : (bc l ++ Go.byteCells s).length = l.length + s.size := by rw [bc_str, List.length_append, bc_len, bc_len, hsz]
    have hrow : ((bc l ++ Go.byteCells s).toArray ++ Builtin.zeroCells (Value.int .u8 0).cells (cap' - (l.length + s.size))).size = cap' := by
      have hz1 : (Value.int IntKind.u8 0).cells.size = 1 := rfl
      rw [Array.size_append, List.size_toArray, hlen, size_zeroCells, hz1]
      omega
    refine ⟨hb, by simp, by rw [List.length_append, hsz]; omega, fun j hj => ?_, fun j hj => ?_⟩
    · rw [show (⟨w.heap.size, j, none⟩ : Addr) = ⟨w.drew.heap.size, j, none⟩ from rfl, World.cell?_alloc_new]
      have hj' : j < (bc l ++ Go.byteCells s).length := by rw [hlen]; rw [List.length_append, hsz] at hj; exact hj
      rw [Array.getElem?_append_left (by simpa using hj')]
      have e : (bc l ++ Go.byteCells s) = bc (l ++ s.data.toList) := by rw [bc_str, bc_append]
      rw [e]
      simp only [bc, List.getElem?_toArray, List.getElem?_map, List.getElem?_eq_getElem hj, Option.map_some]
    · constructor
      · rw [show (⟨w.heap.size, j, none⟩ : Addr) = ⟨w.drew.heap.size, j, none⟩ from rfl, World.cell?_alloc_new]
        rw [Array.getElem?_eq_getElem (by rw [hrow]; exact hj)]
        rfl
      · have h2 := World.frozen?_alloc_mark w.drew ((bc l ++ Go.byteCells s).toArray ++ Builtin.zeroCells (Value.int .u8 0).cells (cap' - (l.length + s.size))) 5 0 0 j
        exact h2.trans (by simp)

/-- At a step of a region that draws its order. -/
theorem step_appC {ops : Array Oper} {o : Oper} {a : Act} {K : Act → World → Prop} {Q : Exit → Act → World → Prop} {E : Prop} {w : World} (hgd : o.guard = none) (sl x : Operand) (ho : o.op = .call { callee := .builtin .append, args := #[sl, x], argTypes := #[50, 9] })
    (base g cap : Nat) (l : List UInt8) (hs : a.eval sl = .slice (some ⟨g, 0, none⟩) l.length cap) (h : OwnC w base g cap l) (s : ByteArray) (hx : a.eval x = .string s) (hn : l.length + s.size ≤ 1099511627776) (hb : base ≤ w.heap.size)
    (hK : ∀ g' cap' w', OwnC w' base g' cap' (l ++ s.data.toList) → Below base w w' → K (a.put o.dst (.slice (some ⟨g', 0, none⟩) (l.length + s.size) cap')) w') :
    if Region.wanted o (yielded ops a.tmps) = true then Oper.wp Try.prog o a w K Q else E := by
  rw [if_pos (by simp [Region.wanted, hgd])]
  obtain ⟨g', cap', w', hr, h2, h3⟩ := append_own h s hn hb o.type
  unfold Oper.wp execOp
  simp only [ho, resolve, invoke, builtin, Sem.run_bind, Sem.run_pure, Result.andThen_ok, List.map_toArray, List.map_cons, List.map_nil, hs, hx, hr]
  exact hK g' cap' w' h2 h3

theorem formL_ge (l : List T) : l.length ≤ (formL l).length := by
  induction l with
  | nil => simp
  | cons t l ih =>
    have := form_pos t
    simp only [formL, List.length_append, List.length_cons]
    omega
end Go.Proofs.Ytdjpohkionapiaa
