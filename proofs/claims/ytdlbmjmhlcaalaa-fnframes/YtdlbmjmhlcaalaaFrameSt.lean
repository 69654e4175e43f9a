/-
  impl's frame reader in memory; its method next.
-/
import Derived.Test.YtdlbmjmhlcaalaaFramePlain
import Derived.Deep.QuietTactic
import Derived.BigQuiet
import Derived.Deep.RegionWith
import Derived.Deep.RegionHeld3
namespace Go.Proofs.Ytdlbmjmhlcaalaa
open Go.RowKit

structure R where
  width : Nat
  room : Nat
  rest : ByteArray
  taken : Value
  bad : Bool
  past : Nat
  size : Nat
  payload : ByteArray

def R.val (r : R) : Nat → Value
  | 0 => .int .i64 r.width
  | 1 => .int .i64 r.room
  | 2 => .string r.rest
  | 3 => r.taken
  | 4 => .bool r.bad
  | 5 => .int .i64 r.past
  | 6 => .int .i64 r.size
  | _ => .string r.payload

structure RC (w : World) (g : Nat) (r : R) : Prop where
  cells : ∀ j, j < 8 → w.cell? ⟨g, j, none⟩ = some (r.val j)
  soft : ∀ j, w.frozen? ⟨g, j, none⟩ = false

theorem RC.lt {w : World} {g : Nat} {r : R} (h : RC w g r) : g < w.heap.size := by
  have h0 := h.cells 0 (by omega)
  unfold World.cell? at h0
  cases hx : w.heap[g]? with
  | none => simp [hx] at h0
  | some o => exact (Array.getElem?_eq_some_iff.1 hx).1
theorem RC.set {w : World} {g : Nat} {r : R} (h : RC w g r) (i : Nat) (v : Value) (r' : R) (hi : i < 8) (hv : r'.val i = v) (ho : ∀ j, j < 8 → j ≠ i → r'.val j = r.val j) : RC (w.setCell ⟨g, i, none⟩ v) g r' := by
  refine ⟨fun j hj => ?_, fun j => by simpa using h.soft j⟩
  by_cases hji : j = i
  · subst hji
    rw [World.cell?_setCell_same w _ _ (h.cells j hj), hv]
  · rw [World.cell?_setCell_other w _ _ _ (by simp), h.cells j hj, ho j hj hji]
theorem RC.drew {w : World} {g : Nat} {r : R} (h : RC w g r) : RC w.drew g r := ⟨h.cells, h.soft⟩
theorem RC.block {w w' : World} {g : Nat} {r : R} (h : RC w g r) (hb : w'.heap[g]? = w.heap[g]?) : RC w' g r :=
  ⟨fun j hj => by rw [World.cell?_of_block (w := w) (a := ⟨g, j, none⟩) hb]; exact h.cells j hj, fun j => by rw [World.frozen?_of_block (w := w) (a := ⟨g, j, none⟩) hb]; exact h.soft j⟩

/-- The reader at block g, its row of payloads beside it; both from B on. -/
structure St (B : Nat) (w : World) (g : Nat) (r : R) (ts : List ByteArray) : Prop where
  rc : RC w g r
  own : w.ownsRow B 9 1 r.taken ts.length (ts.map .string)
  apart : some g ≠ r.taken.ownBlock
  ge : B ≤ g
  nil : ts = [] → r.taken = .slice none 0 0

theorem St.size {B : Nat} {w : World} {g : Nat} {r : R} {ts : List ByteArray} (h : St B w g r ts) : B ≤ w.heap.size := by
  have := h.rc.lt; have := h.ge; omega
theorem St.below {B : Nat} {w w' : World} {g : Nat} {r : R} {ts : List ByteArray} (h : St B w g r ts) (hb : Below w.heap.size w w') : St B w' g r ts :=
  ⟨h.rc.block (hb.block g h.rc.lt), owns_below h.own hb, h.apart, h.ge, h.nil⟩
theorem owns_set {w : World} {base g : Nat} {e : TypeId} {size : Nat} {v u : Value} {n i : Nat} {xs : List Value} (h : w.ownsRow base e size v n xs) (hne : some g ≠ v.ownBlock) : (w.setCell ⟨g, i, none⟩ u).ownsRow base e size v n xs := by
  refine ⟨h.1, ?_⟩
  rcases h.2 with h' | ⟨k, cap, cur, hv, h1, h2, h3⟩
  · exact .inl h'
  · refine .inr ⟨k, cap, cur, hv, h1, ?_, h3⟩
    rw [Below.heap_setCell _ _ _ _ (by rintro rfl; exact hne (by rw [hv]; rfl))]; exact h2
theorem St.set {B : Nat} {w : World} {g : Nat} {r : R} {ts : List ByteArray} (h : St B w g r ts) (i : Nat) (v : Value) (r' : R) (hi : i < 8) (h3 : r'.taken = r.taken) (hv : r'.val i = v) (ho : ∀ j, j < 8 → j ≠ i → r'.val j = r.val j) : St B (w.setCell ⟨g, i, none⟩ v) g r' ts :=
  ⟨h.rc.set i v r' hi hv ho, by rw [h3]; exact owns_set h.own h.apart, by rw [h3]; exact h.apart, h.ge, by rw [h3]; exact h.nil⟩
theorem St.drew {B : Nat} {w : World} {g : Nat} {r : R} {ts : List ByteArray} (h : St B w g r ts) : St B w.drew g r ts :=
  h.below (Below.refl _ _).drew

def NextPost (B : Nat) (w : World) (g : Nat) (r : R) (ts : List ByteArray) (n : Nat) (e : Ending) (w' : World) : Prop :=
  (e = .returned (.tuple #[.string ⟨#[]⟩, .bool false]) ∧ r.rest.size < r.past + n ∧ St B w' g r ts ∧ Below B w w') ∨
  (e = .returned (.tuple #[.string (r.rest.extract r.past (r.past + n)), .bool true]) ∧ r.past + n ≤ r.rest.size ∧ St B w' g { r with past := r.past + n } ts ∧ Below B w w')

set_option maxRecDepth 20000 in
set_option maxHeartbeats 1000000 in
theorem next_any (B : Nat) (w : World) (g : Nat) (r : R) (ts : List ByteArray) (n : Nat) (h : St B w g r ts) (hs : r.rest.size ≤ 1099511627776) (hp : r.past ≤ r.rest.size) (hn : n ≤ 1000) :
    Calls Try.prog 54 #[.pointer (some ⟨g, 0, none⟩), .int .i64 n] w fun e w' => NextPost B w g r ts n e w' := by
  have h2 : w.cell? ⟨g, 2, none⟩ = some (.string r.rest) := h.rc.cells 2 (by omega)
  have h5 : w.cell? ⟨g, 5, none⟩ = some (.int .i64 r.past) := h.rc.cells 5 (by omega)
  have f5 := h.rc.soft 5
  by_cases hlt : r.rest.size < r.past + n
  · have hd : (r.rest.size : Int) - r.past < n := by omega
    go_enter Try.func54, Try.ntmps54
    go_wp2
    go_region
    all_goals (try go_wp2)
    go_ret2
    exact .inl ⟨rfl, hlt, h.drew, (Below.refl _ _).drew⟩
  · have hd : ¬ (r.rest.size : Int) - r.past < n := by omega
    go_enter Try.func54, Try.ntmps54
    go_wp2
    go_region
    all_goals (try go_wp2)
    go_region
    all_goals (try go_wp2)
    go_ret2
    refine .inr ⟨rfl, by omega, ?_, ((Below.refl _ _).setCell h.ge _).drew.drew⟩
    refine (h.set 5 _ { r with past := r.past + n } (by omega) rfl ?_ ?_).drew.drew
    · simp [R.val]
    · intro j hj hne
      match j, hj, hne with
      | 0, _, _ => rfl
      | 1, _, _ => rfl
      | 2, _, _ => rfl
      | 3, _, _ => rfl
      | 4, _, _ => rfl
      | 6, _, _ => rfl
      | 7, _, _ => rfl
end Go.Proofs.Ytdlbmjmhlcaalaa
