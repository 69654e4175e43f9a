/-
  Where spec.Apply's region stands that lays a file and puts the tree anew.
-/
import Derived.Test.YtidkcdppdkfplaaApC
import Derived.Test.YtidkcdppdkfplaaLyS
namespace Go.Proofs.Ytidkcdppdkfplaa
open Go.RowKit

def yTab (P C K : Value) (tb b1 o : Nat) (s : ByteArray) (f : Fl) : Nat → Option Value
  | 0 => some P
  | 1 => some (.pointer (some ⟨tb, 0, none⟩))
  | 2 => some C
  | 3 => some K
  | 4 => some (.pointer (some ⟨b1, o, none⟩))
  | 5 => some (.pointer (some ⟨b1, o, none⟩))
  | 6 => some (.string s)
  | 7 => some (.pointer (some ⟨tb, 0, none⟩))
  | 8 => some C
  | 9 => some K
  | 10 => some (.pointer (some ⟨b1, o, none⟩))
  | 11 => some (.pointer (some ⟨b1, o + 4, none⟩))
  | 12 => some (.agg #[.bool f.there, .string f.text, .bool f.runs])
  | _ => none
def yDs : List Nat := [50, 51, 52, 53, 54, 55, 56, 57, 58, 59, 60, 61, 62, 63, 1000]
theorem yNd : yDs.Nodup := by decide

structure YV (T0 : Array Value) (X : World) (P C K : Value) (tb b1 o : Nat) (us : List En) (s : ByteArray) (f : Fl) (E : World → Prop) (L : Array Bool) (a : Act) (w : World) : Prop where
  sl : Sl2 T0 yDs (yTab P C K tb b1 o s f) L a
  w0 : L.getD 13 false = false → w = X.drew
  w1 : L.getD 13 false = true → L.getD 14 false = false → ∃ ad cap vs, a.eval (.tmp 63) = .agg #[.slice ad vs.length cap] ∧ LayRel us s f vs ∧ EL X.heap.size w ad vs ∧ Below X.heap.size X w ∧ vs.length ≤ us.length + 1
  w3 : L.getD 14 false = true → E w

theorem YV.step {T0 : Array Value} {X : World} {P C K : Value} {tb b1 o : Nat} {us : List En} {s : ByteArray} {f : Fl} {E : World → Prop} {L : Array Bool} {a : Act} {w : World} (h : YV T0 X P C K tb b1 o us s f E L a w) {i : Nat} {u : Value} (hT : T0.size = 69) (hi : i < 13) (ht : yTab P C K tb b1 o s f i = some u) :
    YV T0 X P C K tb b1 o us s f E (L.setIfInBounds i true) (a.put (some (50 + i)) u) w := by
  have hlen : i < yDs.length := by show i < 15; omega
  have hds : yDs[i] = 50 + i := by
    match i, hi with
    | 0, _ | 1, _ | 2, _ | 3, _ | 4, _ | 5, _ | 6, _ | 7, _ | 8, _ | 9, _ | 10, _ | 11, _ | 12, _ => rfl
  have hsl := h.sl.put yNd hlen (by rw [hds, hT]; omega) (v := u) (fun u' hu => by rw [ht] at hu; cases hu; rfl)
  rw [hds] at hsl
  have ev : ∀ k, k ≠ 50 + i → (a.put (some (50 + i)) u).eval (.tmp k) = a.eval (.tmp k) := fun k hk => Act.eval_put (fun d hd' => by cases hd'; intro e'; injection e' with e'; exact hk e')
  refine ⟨hsl, fun h1 => ?_, fun h1 h2 => ?_, fun h1 => ?_⟩
  · rw [getD_set_ne false (by omega)] at h1; exact h.w0 h1
  · rw [getD_set_ne false (by omega)] at h1; rw [getD_set_ne false (by omega)] at h2
    obtain ⟨ad, cap, vs, e1, e2⟩ := h.w1 h1 h2
    exact ⟨ad, cap, vs, by rw [ev 63 (by omega)]; exact e1, e2⟩
  · rw [getD_set_ne false (by omega)] at h1; exact h.w3 h1
theorem YV.call {T0 : Array Value} {X : World} {P C K : Value} {tb b1 o : Nat} {us : List En} {s : ByteArray} {f : Fl} {E : World → Prop} {L : Array Bool} {a : Act} {w w' : World} (h : YV T0 X P C K tb b1 o us s f E L a w) (hT : T0.size = 69) (hL : L.getD 13 true = false) (h14 : L.getD 14 false = false) {ad : Option Addr} {cap : Nat} {vs : List En}
    (e2 : LayRel us s f vs) (e3 : EL X.heap.size w' ad vs) (e4 : Below X.heap.size X w') (e5 : vs.length ≤ us.length + 1) :
    YV T0 X P C K tb b1 o us s f E (L.setIfInBounds 13 true) (a.put (some 63) (.agg #[.slice ad vs.length cap])) w' := by
  have g13 : (L.setIfInBounds 13 true).getD 13 false = true := by
    have h1 := getD_false hL
    have h2 : 13 < L.size := by simpa using (List.getElem?_eq_some_iff.1 h1).1
    rw [Array.getD_eq_getD_getElem?, Array.getElem?_setIfInBounds_self_of_lt h2]
    rfl
  refine ⟨h.sl.put (i := 13) yNd (by decide) (show 63 < _ by rw [hT]; omega) (fun u hu => by cases hu), fun h1 => ?_, fun _ _ => ⟨ad, cap, vs, ?_, e2, e3, e4, e5⟩, fun h1 => ?_⟩
  · rw [g13] at h1; cases h1
  · show ((a.tmps.setIfInBounds 63 _).getD 63 undef) = _
    rw [Array.getD_eq_getD_getElem?, Array.getElem?_setIfInBounds_self_of_lt (by rw [h.sl.sz, hT]; omega)]
    rfl
  · rw [getD_set_ne false (by omega), h14] at h1; cases h1
theorem YV.last {T0 : Array Value} {X : World} {P C K : Value} {tb b1 o : Nat} {us : List En} {s : ByteArray} {f : Fl} {E : World → Prop} {L : Array Bool} {a : Act} {w w' : World} (h : YV T0 X P C K tb b1 o us s f E L a w) (h13 : L.getD 13 false = true) (hL : L.getD 14 true = false) (hE : E w') :
    YV T0 X P C K tb b1 o us s f E (L.setIfInBounds 14 true) a w' := by
  have g14 : (L.setIfInBounds 14 true).getD 14 false = true := by
    have h1 := getD_false hL
    have h2 : 14 < L.size := by simpa using (List.getElem?_eq_some_iff.1 h1).1
    rw [Array.getD_eq_getD_getElem?, Array.getElem?_setIfInBounds_self_of_lt h2]
    rfl
  refine ⟨h.sl.skip rfl, fun h1 => ?_, fun _ h2 => ?_, fun _ => hE⟩
  · rw [getD_set_ne false (by omega), h13] at h1; cases h1
  · rw [g14] at h2; cases h2
end Go.Proofs.Ytidkcdppdkfplaa
