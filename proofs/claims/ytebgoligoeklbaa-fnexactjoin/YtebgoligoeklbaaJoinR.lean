/-
  Where spec.Join's regions stand that ask l6Change and lay what it gives into a box (two of them, alike).
-/
import Derived.Test.YtebgoligoeklbaaJnC
import Derived.Test.YtebgoligoeklbaaJnB
import Derived.Deep.AppendLies
namespace Go.Proofs.Ytebgoligoeklbaa
open Go.RowKit

def xTab (P N K D : Value) (s : ByteArray) (c : Ch) (bb : Bool) : Nat → Option Value
  | 0 => some P
  | 1 => some N
  | 2 => some K
  | 3 => some D
  | 4 => some (.string s)
  | 5 => some (.tuple #[.agg #[.string c.path, .bool c.old.there, .string c.old.text, .bool c.old.runs, .bool c.new.there, .string c.new.text, .bool c.new.runs], .bool bb])
  | 6 => some (.tuple #[.agg #[.string c.path, .bool c.old.there, .string c.old.text, .bool c.old.runs, .bool c.new.there, .string c.new.text, .bool c.new.runs], .bool bb])
  | 7 => some (.agg #[.string c.path, .bool c.old.there, .string c.old.text, .bool c.old.runs, .bool c.new.there, .string c.new.text, .bool c.new.runs])
  | 8 => some (.bool bb)
  | 11 => some (.bool bb)
  | _ => none

structure XV (T0 : Array Value) (ds : List Nat) (wr : World) (P N K D : Value) (s : ByteArray) (c : Ch) (bb : Bool) (p : Nat) (L : Array Bool) (a : Act) (w : World) : Prop where
  sl : Sl2 T0 ds (xTab P N K D s c bb) L a
  wd : Below wr.heap.size wr w
  bx : L.getD 9 false = true → ∃ fb, a.eval (.tmp p) = .pointer (some ⟨fb, 0, none⟩) ∧ wr.heap.size ≤ fb ∧ CBox fb (if L.getD 10 false = true then c else noCh) w

theorem XV.step {T0 : Array Value} {ds : List Nat} {wr : World} {P N K D : Value} {s : ByteArray} {c : Ch} {bb : Bool} {p : Nat} {L : Array Bool} {a : Act} {w w' : World} (h : XV T0 ds wr P N K D s c bb p L a w) (nd : ds.Nodup) {i : Nat} {v : Value} (hi : i < ds.length) (hd : ds[i] < T0.size) (h9 : i ≠ 9) (h10 : i ≠ 10) (hp : ds[i] ≠ p) (ht : xTab P N K D s c bb i = some v) (hb : Below w.heap.size w w') :
    XV T0 ds wr P N K D s c bb p (L.setIfInBounds i true) (a.put (some ds[i]) v) w' := by
  refine ⟨h.sl.put nd hi hd (fun u hu => by rw [ht] at hu; cases hu; rfl), h.wd.trans (hb.mono h.wd.size), fun hL => ?_⟩
  rw [getD_set_ne false h9] at hL
  obtain ⟨fb, e1, e2, e3⟩ := h.bx hL
  refine ⟨fb, ?_, e2, ?_⟩
  · rw [Act.eval_put (fun d hd' => by cases hd'; intro e'; injection e' with e'; exact hp e'.symm)]
    exact e1
  · rw [getD_set_ne false h10]
    exact e3.later hb
theorem XV.box {T0 : Array Value} {ds : List Nat} {wr : World} {P N K D : Value} {s : ByteArray} {c : Ch} {bb : Bool} {L : Array Bool} {a : Act} {w : World} {t : TypeId} (hi : 9 < ds.length) (h : XV T0 ds wr P N K D s c bb ds[9] L a w) (nd : ds.Nodup) (hd : ds[9] < T0.size) (h10 : L.getD 10 false = false) :
    XV T0 ds wr P N K D s c bb ds[9] (L.setIfInBounds 9 true) (a.put (some ds[9]) (.pointer (some ⟨w.heap.size, 0, none⟩))) (w.alloc (.cells #[.string ⟨#[]⟩, .bool false, .string ⟨#[]⟩, .bool false, .bool false, .string ⟨#[]⟩, .bool false] t)) := by
  refine ⟨h.sl.put nd hi hd (fun u hu => by cases hu), h.wd.alloc h.wd.size _, fun _ => ⟨w.heap.size, ?_, h.wd.size, ?_⟩⟩
  · show ((a.tmps.setIfInBounds ds[9] _).getD ds[9] undef) = _
    rw [Array.getD_eq_getD_getElem?, Array.getElem?_setIfInBounds_self_of_lt (by rw [h.sl.sz]; exact hd)]
    rfl
  · rw [getD_set_ne false (by omega), h10]
    exact ⟨by simp [noCh], by simp [noCh], by simp [noCh], by simp [noCh], by simp [noCh], by simp [noCh], by simp [noCh], fun j => by simp, by simp⟩
theorem XV.store {T0 : Array Value} {ds : List Nat} {wr : World} {P N K D : Value} {s : ByteArray} {c : Ch} {bb : Bool} {p fb : Nat} {L : Array Bool} {a : Act} {w : World} (h : XV T0 ds wr P N K D s c bb p L a w) (e1 : a.eval (.tmp p) = .pointer (some ⟨fb, 0, none⟩)) (e2 : wr.heap.size ≤ fb) (e3 : CBox fb noCh w) (hL : L.getD 10 true = false) :
    XV T0 ds wr P N K D s c bb p (L.setIfInBounds 10 true) a (((((((w.setCell ⟨fb, 0, none⟩ (.string c.path)).setCell ⟨fb, 1, none⟩ (.bool c.old.there)).setCell ⟨fb, 2, none⟩ (.string c.old.text)).setCell ⟨fb, 3, none⟩ (.bool c.old.runs)).setCell ⟨fb, 4, none⟩ (.bool c.new.there)).setCell ⟨fb, 5, none⟩ (.string c.new.text)).setCell ⟨fb, 6, none⟩ (.bool c.new.runs)) := by
  refine ⟨h.sl.skip rfl, box7_below _ _ _ _ _ _ _ h.wd e2, fun _ => ⟨fb, e1, e2, ?_⟩⟩
  have g10 : (L.setIfInBounds 10 true).getD 10 false = true := by
    have h1 := getD_false hL
    have h2 : 10 < L.size := by simpa using (List.getElem?_eq_some_iff.1 h1).1
    rw [Array.getD_eq_getD_getElem?, Array.getElem?_setIfInBounds_self_of_lt h2]
    rfl
  rw [g10]
  exact e3.set c

/-- An append, at a step of a region (RegV) outside of rounds. -/
theorem wpIn_append {n : Nat} {P : Program} {o : Oper} {a : Act} {w w' : World} {K : Act → World → Prop} {Q : Exit → Act → World → Prop} (s x : Operand) (t : TypeId) (ho : o.op = .call { callee := .builtin .append, args := #[s, x], argTypes := #[t, t] }) {v u v' : Value} (hs : a.eval s = v) (hx : a.eval x = u)
    (hr : (Builtin.append_ #[t, t] o.type #[v, u]).run P w = .ok v' w') (hK : K (a.put o.dst v') w') : o.wpIn Fence.wide n P a w K Q := by
  refine ⟨fun f _ => trivial, ?_⟩
  show Oper.uponIn Fence.wide n P o a K Q ((execOp a.eval o).run P w)
  unfold execOp
  simp only [ho, resolve, invoke, builtin, Sem.run_bind, Sem.run_pure, Result.andThen_ok, List.map_toArray, List.map_cons, List.map_nil, hs, hx, hr]
  exact hK

def aTab (ob fb gb : Nat) (v N K D : Value) (s : ByteArray) (f g : Fl) : Nat → Option Value
  | 0 => some (.pointer (some ⟨ob, 0, none⟩))
  | 1 => some v
  | 2 => some N
  | 3 => some K
  | 4 => some D
  | 5 => some (.string s)
  | 6 => some (.pointer (some ⟨fb, 1, none⟩))
  | 7 => some (.agg #[.bool f.there, .string f.text, .bool f.runs])
  | 8 => some (.pointer (some ⟨gb, 4, none⟩))
  | 9 => some (.agg #[.bool g.there, .string g.text, .bool g.runs])
  | 10 => some (.agg #[.string s, .bool f.there, .string f.text, .bool f.runs, .bool g.there, .string g.text, .bool g.runs])
  | 13 => some (.pointer (some ⟨ob, 0, none⟩))
  | _ => none
def aDs : List Nat := [107, 108, 109, 110, 111, 112, 113, 114, 115, 116, 117, 118, 119, 120, 1000]

/-- Where the region stands that puts a change behind a list. -/
structure AV (T0 : Array Value) (ob fb gb : Nat) (W0 X : World) (v N K D : Value) (s : ByteArray) (f g : Fl) (cs : List Ch) (L : Array Bool) (a : Act) (w : World) : Prop where
  sl : Sl2 T0 aDs (aTab ob fb gb v N K D s f g) L a
  w0 : L.getD 11 false = false → w = X.drew
  w1 : L.getD 11 false = true → L.getD 12 false = false → w = X.drew.alloc (.cells #[.string s, .bool f.there, .string f.text, .bool f.runs, .bool g.there, .string g.text, .bool g.runs] 54) ∧ a.eval (.tmp 118) = .slice (some ⟨X.heap.size, 0, none⟩) 1 1
  w2 : L.getD 12 false = true → L.getD 14 false = false → ∃ g2 cap, a.eval (.tmp 119) = .slice (some ⟨g2, 0, none⟩) (cs.length + 1) cap ∧ w.ownsRow W0.heap.size 54 7 (.slice (some ⟨g2, 0, none⟩) (cs.length + 1) cap) (cs.length + 1) (ccells cs ++ chL ⟨s, f, g⟩) ∧ (X.drew.alloc (.cells #[.string s, .bool f.there, .string f.text, .bool f.runs, .bool g.there, .string g.text, .bool g.runs] 54)).grownBy w v.ownBlock
  w3 : L.getD 14 false = true → ∃ v', OutCh ob W0 v' (cs ++ [⟨s, f, g⟩]) w

theorem aNd : aDs.Nodup := by decide
theorem AV.step {T0 : Array Value} {ob fb gb : Nat} {W0 X : World} {v N K D : Value} {s : ByteArray} {f g : Fl} {cs : List Ch} {L : Array Bool} {a : Act} {w : World} (h : AV T0 ob fb gb W0 X v N K D s f g cs L a w) {i : Nat} {u : Value} (hT : T0.size = 127) (hi : i < 14) (h11 : i ≠ 11) (h12 : i ≠ 12) (ht : aTab ob fb gb v N K D s f g i = some u) :
    AV T0 ob fb gb W0 X v N K D s f g cs (L.setIfInBounds i true) (a.put (some (107 + i)) u) w := by
  have hlen : i < aDs.length := by show i < 15; omega
  have hds : aDs[i] = 107 + i := by
    match i, hi with
    | 0, _ | 1, _ | 2, _ | 3, _ | 4, _ | 5, _ | 6, _ | 7, _ | 8, _ | 9, _ | 10, _ | 11, _ | 12, _ | 13, _ => rfl
  have hsl := h.sl.put aNd hlen (by rw [hds, hT]; omega) (v := u) (fun u' hu => by rw [ht] at hu; cases hu; rfl)
  rw [hds] at hsl
  have ev : ∀ k, k ≠ 107 + i → (a.put (some (107 + i)) u).eval (.tmp k) = a.eval (.tmp k) := fun k hk => Act.eval_put (fun d hd' => by cases hd'; intro e'; injection e' with e'; exact hk e')
  refine ⟨hsl, fun h1 => ?_, fun h1 h2 => ?_, fun h1 h2 => ?_, fun h1 => ?_⟩
  · rw [getD_set_ne false h11] at h1; exact h.w0 h1
  · rw [getD_set_ne false h11] at h1; rw [getD_set_ne false h12] at h2
    rw [ev 118 (by omega)]
    exact h.w1 h1 h2
  · rw [getD_set_ne false h12] at h1; rw [getD_set_ne false (by omega)] at h2
    obtain ⟨g2, cap, e1, e2, e3⟩ := h.w2 h1 h2
    exact ⟨g2, cap, by rw [ev 119 (by omega)]; exact e1, e2, e3⟩
  · rw [getD_set_ne false (by omega)] at h1; exact h.w3 h1
theorem AV.build {T0 : Array Value} {ob fb gb : Nat} {W0 X : World} {v N K D : Value} {s : ByteArray} {f g : Fl} {cs : List Ch} {L : Array Bool} {a : Act} (h : AV T0 ob fb gb W0 X v N K D s f g cs L a X.drew) (hT : T0.size = 127) (h12 : L.getD 12 false = false) (h14 : L.getD 14 false = false) (hL : L.getD 11 true = false) :
    AV T0 ob fb gb W0 X v N K D s f g cs (L.setIfInBounds 11 true) (a.put (some 118) (.slice (some ⟨X.heap.size, 0, none⟩) 1 1)) (X.drew.alloc (.cells #[.string s, .bool f.there, .string f.text, .bool f.runs, .bool g.there, .string g.text, .bool g.runs] 54)) := by
  have g11 : (L.setIfInBounds 11 true).getD 11 false = true := by
    have h1 := getD_false hL
    have h2 : 11 < L.size := by simpa using (List.getElem?_eq_some_iff.1 h1).1
    rw [Array.getD_eq_getD_getElem?, Array.getElem?_setIfInBounds_self_of_lt h2]
    rfl
  refine ⟨h.sl.put (i := 11) aNd (by decide) (show 118 < _ by rw [hT]; omega) (fun u hu => by cases hu), fun h1 => ?_, fun _ _ => ⟨rfl, ?_⟩, fun h1 _ => ?_, fun h1 => ?_⟩
  · rw [g11] at h1; cases h1
  · show ((a.tmps.setIfInBounds 118 _).getD 118 undef) = _
    rw [Array.getD_eq_getD_getElem?, Array.getElem?_setIfInBounds_self_of_lt (by rw [h.sl.sz, hT]; omega)]
    rfl
  · rw [getD_set_ne false (by omega), h12] at h1; cases h1
  · rw [getD_set_ne false (by omega), h14] at h1; cases h1
theorem AV.app {T0 : Array Value} {ob fb gb : Nat} {W0 X : World} {v N K D : Value} {s : ByteArray} {f g : Fl} {cs : List Ch} {L : Array Bool} {a : Act} {w w' : World} (h : AV T0 ob fb gb W0 X v N K D s f g cs L a w) (hT : T0.size = 127) (h11 : L.getD 11 false = true) (h14 : L.getD 14 false = false) (hL : L.getD 12 true = false) {g2 cap : Nat}
    (e2 : w'.ownsRow W0.heap.size 54 7 (.slice (some ⟨g2, 0, none⟩) (cs.length + 1) cap) (cs.length + 1) (ccells cs ++ chL ⟨s, f, g⟩)) (e3 : (X.drew.alloc (.cells #[.string s, .bool f.there, .string f.text, .bool f.runs, .bool g.there, .string g.text, .bool g.runs] 54)).grownBy w' v.ownBlock) :
    AV T0 ob fb gb W0 X v N K D s f g cs (L.setIfInBounds 12 true) (a.put (some 119) (.slice (some ⟨g2, 0, none⟩) (cs.length + 1) cap)) w' := by
  have g12 : (L.setIfInBounds 12 true).getD 12 false = true := by
    have h1 := getD_false hL
    have h2 : 12 < L.size := by simpa using (List.getElem?_eq_some_iff.1 h1).1
    rw [Array.getD_eq_getD_getElem?, Array.getElem?_setIfInBounds_self_of_lt h2]
    rfl
  refine ⟨h.sl.put (i := 12) aNd (by decide) (show 119 < _ by rw [hT]; omega) (fun u hu => by cases hu), fun h1 => ?_, fun _ h2 => ?_, fun _ _ => ⟨g2, cap, ?_, e2, e3⟩, fun h1 => ?_⟩
  · rw [getD_set_ne false (by omega), h11] at h1; cases h1
  · rw [g12] at h2; cases h2
  · show ((a.tmps.setIfInBounds 119 _).getD 119 undef) = _
    rw [Array.getD_eq_getD_getElem?, Array.getElem?_setIfInBounds_self_of_lt (by rw [h.sl.sz, hT]; omega)]
    rfl
  · rw [getD_set_ne false (by omega), h14] at h1; cases h1
theorem AV.last {T0 : Array Value} {ob fb gb : Nat} {W0 X : World} {v N K D : Value} {s : ByteArray} {f g : Fl} {cs : List Ch} {L : Array Bool} {a : Act} {w w' : World} (h : AV T0 ob fb gb W0 X v N K D s f g cs L a w) (h11 : L.getD 11 false = true) (h12 : L.getD 12 false = true) (hL : L.getD 14 true = false) (hE : ∃ v', OutCh ob W0 v' (cs ++ [⟨s, f, g⟩]) w') :
    AV T0 ob fb gb W0 X v N K D s f g cs (L.setIfInBounds 14 true) a w' := by
  have g14 : (L.setIfInBounds 14 true).getD 14 false = true := by
    have h1 := getD_false hL
    have h2 : 14 < L.size := by simpa using (List.getElem?_eq_some_iff.1 h1).1
    rw [Array.getD_eq_getD_getElem?, Array.getElem?_setIfInBounds_self_of_lt h2]
    rfl
  refine ⟨h.sl.skip rfl, fun h1 => ?_, fun _ h2 => ?_, fun _ h2 => ?_, fun _ => hE⟩
  · rw [getD_set_ne false (by omega), h11] at h1; cases h1
  · rw [getD_set_ne false (by omega), h12] at h2; cases h2
  · rw [g14] at h2; cases h2
end Go.Proofs.Ytebgoligoeklbaa
