/-
  Values that are drawn: what is known of them; a row of atoms in the making beside a reader.
-/
import Derived.Test.YtamaioeikcjhoaaDoorDrawTx
import Derived.Test.YtamaioeikcjhoaaDoorSd3
namespace Go.Proofs.YtamaioeikcjhoaaDoor
open Go.RowKit

/-- At most so many atoms, so much text, numbers of 64 bits. -/
def AOk (N M : Nat) (ts : List At) : Prop := ts.length ≤ N ∧ totalA ts ≤ M ∧ InR ts
theorem AOk.nil (N M : Nat) : AOk N M [] := ⟨Nat.zero_le _, by simp [totalA], fun a ha => by simp at ha⟩
theorem AOk.mono {N M N' M' : Nat} {ts : List At} (h : AOk N M ts) (hN : N ≤ N') (hM : M ≤ M') : AOk N' M' ts := ⟨Nat.le_trans h.1 hN, Nat.le_trans h.2.1 hM, h.2.2⟩
theorem AOk.append {N M N' M' : Nat} {ts us : List At} (h : AOk N M ts) (k : AOk N' M' us) : AOk (N + N') (M + M') (ts ++ us) :=
  ⟨by rw [List.length_append]; have := h.1; have := k.1; omega, by rw [totalA_append]; have := h.2.1; have := k.2.1; omega, inr_append h.2.2 k.2.2⟩
theorem AOk.one {a : At} (h : -9223372036854775808 ≤ a.n ∧ a.n < 9223372036854775808) : AOk 1 a.text.size [a] := ⟨Nat.le_refl _, by simp [totalA], inr_one h⟩
def OkN : Prop := (-9223372036854775808 : Int) ≤ 0 ∧ (0 : Int) < 9223372036854775808
theorem okN : OkN := by unfold OkN; omega

/-- Atoms in the making, beside a reader. -/
structure VMk (g : Nat) (a : Option Addr) (cap : Nat) (zs : List Int) (W wr : World) (p : Nat) (v : Value) (ys : List At) : Prop where
  rd : Rd wr g a cap zs p
  gr : W.grownBy wr (some g)
  row : wr.ownsRow W.heap.size 66 4 v ys.length (acells ys)
  lt : g < W.heap.size
theorem VMk.call {g : Nat} {a : Option Addr} {cap : Nat} {zs : List Int} {W wr w1 : World} {p p1 : Nat} {v : Value} {ys : List At} (h : VMk g a cap zs W wr p v ys) (hg : wr.grownBy w1 (some g)) (hr : Rd w1 g a cap zs p1) : VMk g a cap zs W w1 p1 v ys :=
  ⟨hr, gr_trans h.gr hg, owns_rd h.row hg h.lt, h.lt⟩
theorem VMk.below {g : Nat} {a : Option Addr} {cap : Nat} {zs : List Int} {W wr w1 : World} {p : Nat} {v : Value} {ys : List At} (h : VMk g a cap zs W wr p v ys) (hb : Below wr.heap.size wr w1) : VMk g a cap zs W w1 p v ys :=
  h.call (gr_below hb) (h.rd.below hb)
theorem VMk.app {g : Nat} {a : Option Addr} {cap : Nat} {zs : List Int} {W w1 w2 : World} {p : Nat} {v v2 : Value} {ys us : List At} (h : VMk g a cap zs W w1 p v ys) (hg : w1.grownBy w2 v.ownBlock) (hown : w2.ownsRow W.heap.size 66 4 v2 (ys.length + us.length) (acells ys ++ acells us)) : VMk g a cap zs W w2 p v2 (ys ++ us) :=
  ⟨h.rd.kept hg (fun k hk => by have := owns_base h.row k hk; have := h.lt; omega), gr_own h.gr hg (fun j e => owns_base h.row j e), by rw [List.length_append, acells_append]; exact hown, h.lt⟩
theorem VMk.app1 {g : Nat} {a : Option Addr} {cap : Nat} {zs : List Int} {W w1 w2 : World} {p : Nat} {v v2 : Value} {ys : List At} {e : At} (h : VMk g a cap zs W w1 p v ys) (hg : w1.grownBy w2 v.ownBlock) (hown : w2.ownsRow W.heap.size 66 4 v2 (ys.length + 1) (acells ys ++ e.cells)) : VMk g a cap zs W w2 p v2 (ys ++ [e]) :=
  h.app hg (us := [e]) (by simpa [acells] using hown)
theorem VMk.dr {g : Nat} {a : Option Addr} {cap : Nat} {zs : List Int} {W wr : World} {p0 p K : Nat} {v : Value} {ys : List At} (h : VMk g a cap zs W wr p v ys) (hp : p ≤ p0 + K) : Dr g a cap zs W wr p0 K := ⟨⟨p, hp, h.rd⟩, h.gr⟩
/-- A row of one element that was built. -/
theorem own_oneA (w : World) (B : Nat) (hB : B ≤ w.heap.size) (e : At) : (w.alloc (.cells #[.int .i64 e.kind, .int .i64 e.n, .string e.text, .int .i64 e.kids] 66)).ownsRow B 66 4 (.slice (some ⟨w.heap.size, 0, none⟩) 1 1) 1 (acells [e]) :=
  ⟨by simp [acells, At.cells], .inr ⟨w.heap.size, 1, #[.int .i64 e.kind, .int .i64 e.n, .string e.text, .int .i64 e.kids], rfl, hB, heap_alloc_new w _, Nat.le_refl _, by unfold maxLen; omega, rfl, by simp [acells, At.cells]⟩⟩

/-- Atoms that were drawn. -/
def DrA (g : Nat) (a : Option Addr) (cap : Nat) (zs : List Int) (w : World) (p K N M : Nat) (e : Ending) (w' : World) : Prop :=
  ∃ (gs cs : Nat) (ts : List At), e = .returned (.slice (some ⟨gs, 0, none⟩) ts.length cs) ∧ w'.ownsRow w.heap.size 66 4 (.slice (some ⟨gs, 0, none⟩) ts.length cs) ts.length (acells ts) ∧ 0 < ts.length ∧ AOk N M ts ∧ Dr g a cap zs w w' p K
/-- A value that was drawn. -/
def DrV (g : Nat) (a : Option Addr) (cap : Nat) (zs : List Int) (w : World) (p K N M : Nat) (e : Ending) (w' : World) : Prop :=
  ∃ (gs cs : Nat) (ts : List At), e = .returned (.agg #[.slice (some ⟨gs, 0, none⟩) ts.length cs]) ∧ w'.ownsRow w.heap.size 66 4 (.slice (some ⟨gs, 0, none⟩) ts.length cs) ts.length (acells ts) ∧ 0 < ts.length ∧ AOk N M ts ∧ Dr g a cap zs w w' p K

def dN : Nat → Nat
  | 0 => 1
  | j + 1 => 1 + 4 * (1 + dN j)
def dM : Nat → Nat
  | 0 => 20
  | j + 1 => 20 + 4 * (4 + dM j)
def dK : Nat → Nat
  | 0 => 12
  | j + 1 => 12 + 4 * (1 + dK j)
theorem dN_pos (j : Nat) : 1 ≤ dN j := by cases j <;> simp only [dN] <;> omega
theorem dM_pos (j : Nat) : 20 ≤ dM j := by cases j <;> simp only [dM] <;> omega
theorem dK_pos (j : Nat) : 12 ≤ dK j := by cases j <;> simp only [dK] <;> omega
end Go.Proofs.YtamaioeikcjhoaaDoor
