/-
  How a form is read, plainly: a reader over bytes, after impl's; it reads just the forms.
-/
import Derived.Test.YtamaioeikcjhoaaDoorValPlain
import Derived.Test.YtamaioeikcjhoaaDoorFormPlain
namespace Go.Proofs.YtamaioeikcjhoaaDoor
open Go.RowKit

theorem ba0 {s : ByteArray} (h : s.size = 0) : s = ⟨#[]⟩ := by
  obtain ⟨d⟩ := s
  have h : d.size = 0 := h
  rw [Array.size_eq_zero_iff.1 h]

/-! Short numbers. -/
def shB : Nat → Nat
  | 0 => 18446744073709551616
  | 1 => 144115188075855872
  | 2 => 1125899906842624
  | 3 => 8796093022208
  | 4 => 68719476736
  | 5 => 536870912
  | 6 => 4194304
  | 7 => 32768
  | 8 => 256
  | _ => 2
theorem shB_succ : ∀ k, k < 9 → shB k = 128 * shB (k + 1)
  | 0, _ | 1, _ | 2, _ | 3, _ | 4, _ | 5, _ | 6, _ | 7, _ | 8, _ => by rfl
  | k + 9, h => by omega
theorem shB_pos (k : Nat) : 0 < shB k := by unfold shB; split <;> omega
def pSh : Nat → List UInt8 → Option (Nat × List UInt8)
  | _, [] => none
  | k, b :: r => if k = 9 ∧ 1 < b.toNat then none else if 0 < k ∧ b.toNat = 0 then none else if b.toNat < 128 then some (b.toNat, r) else (pSh (k + 1) r).map fun x => (b.toNat - 128 + 128 * x.1, x.2)
theorem pSh_sound : ∀ (l : List UInt8) (k n : Nat) (r : List UInt8), k ≤ 9 → pSh k l = some (n, r) → l = shortL n ++ r ∧ n < shB k ∧ (0 < k → 0 < n)
  | [], k, n, r, _, h => by simp [pSh] at h
  | b :: l, k, n, r, hk, h => by
    have hb : b.toNat < 256 := UInt8.toNat_lt b
    unfold pSh at h
    split at h
    · cases h
    rename_i h1
    split at h
    · cases h
    rename_i h2
    split at h
    · rename_i h3
      simp only [Option.some.injEq, Prod.mk.injEq] at h
      obtain ⟨rfl, rfl⟩ := h
      rw [shortL_small h3]
      refine ⟨by simp, ?_, fun hk0 => by omega⟩
      by_cases h9 : k = 9
      · subst h9
        show b.toNat < 2
        omega
      · have := shB_succ k (by omega)
        have := shB_pos (k + 1)
        omega
    · rename_i h3
      simp only [Option.map_eq_some_iff, Prod.mk.injEq] at h
      obtain ⟨⟨x, r'⟩, hx, rfl, rfl⟩ := h
      have hk9 : k ≠ 9 := fun e => h1 ⟨e, by omega⟩
      obtain ⟨e1, e2, e3⟩ := pSh_sound l (k + 1) x r' (by omega) hx
      have e3 := e3 (by omega)
      dsimp only at *
      have hs := shB_succ k (by omega)
      refine ⟨?_, by omega, fun _ => by omega⟩
      rw [shortL_big (by omega), show (b.toNat - 128 + 128 * x) % 128 = b.toNat - 128 by omega, show (b.toNat - 128 + 128 * x) / 128 = x by omega, show b.toNat - 128 + 128 = b.toNat by omega, e1]
      simp
theorem pSh_full (n : Nat) : ∀ (k : Nat) (r : List UInt8), k ≤ 9 → n < shB k → (0 < k → 0 < n) → pSh k (shortL n ++ r) = some (n, r) := by
  induction n using Nat.strongRecOn with
  | ind n ih =>
    intro k r hk hn h0
    by_cases hs : n < 128
    · rw [shortL_small hs]
      have hb : (UInt8.ofNat n).toNat = n := by simp; omega
      unfold pSh
      simp only [List.cons_append, List.nil_append, hb]
      rw [if_neg (fun h => by have := h.1; subst this; have : n < 2 := hn; omega), if_neg (fun h => by have := h0 h.1; omega), if_pos hs]
    · have hk9 : k < 9 := by
        rcases Nat.lt_or_ge k 9 with h | h
        · exact h
        · have : k = 9 := by omega
          subst this
          have : n < 2 := hn
          omega
      rw [shortL_big (by omega)]
      have hb : (UInt8.ofNat (n % 128 + 128)).toNat = n % 128 + 128 := by simp; omega
      unfold pSh
      simp only [List.cons_append, hb]
      rw [if_neg (fun h => by omega), if_neg (fun h => by omega), if_neg (by omega), ih (n / 128) (by omega) (k + 1) r (by omega) (by have := shB_succ k hk9; omega) (fun _ => by omega)]
      simp only [Option.map_some, Option.some.injEq, Prod.mk.injEq, and_true]
      omega

/-! Numbers of either sign. -/
def zag (u : Nat) : Int := if u % 2 = 1 then -((u / 2 : Nat) : Int) - 1 else ((u / 2 : Nat) : Int)
theorem zag_in {u : Nat} (h : u < 18446744073709551616) : -9223372036854775808 ≤ zag u ∧ zag u < 9223372036854775808 := by unfold zag; split <;> omega
theorem zig_zag {u : Nat} (h : u < 18446744073709551616) : zig (zag u) = u := by
  unfold zag zig
  split
  · rw [if_pos (by omega)]; omega
  · rw [if_neg (by omega)]; omega
theorem zag_zig {n : Int} (h1 : -9223372036854775808 ≤ n) (h2 : n < 9223372036854775808) : zag (zig n) = n := by
  by_cases h : n < 0
  · have e : zig n = ((-2 * n - 1) % 18446744073709551616).toNat := by rw [zig, if_pos h]
    unfold zag
    split <;> omega
  · have e : zig n = ((2 * n) % 18446744073709551616).toNat := by rw [zig, if_neg h]
    unfold zag
    split <;> omega

/-! Atoms. -/
def flagA (n : Int) : At := ⟨1, n, ⟨#[]⟩, 0⟩
def numA (n : Int) : At := ⟨2, n, ⟨#[]⟩, 0⟩
def textA (s : ByteArray) : At := ⟨3, 0, s, 0⟩
def listA (n : Nat) : At := ⟨4, 0, ⟨#[]⟩, n⟩
def recA (n : Nat) : At := ⟨5, 0, ⟨#[]⟩, 2 * n⟩
def T.atoms : T → List At
  | ⟨.inl (.inl n)⟩ => [flagA n]
  | ⟨.inl (.inr n)⟩ => [numA n]
  | ⟨.inr (.inl s)⟩ => [textA s]
  | ⟨.inr (.inr (.inl ks))⟩ => (ks.map fun k => k.atoms).flatten ++ [listA ks.length]
  | ⟨.inr (.inr (.inr (ns, vs)))⟩ => (List.zipWith (fun n xs => textA n :: xs) ns (vs.map fun v => v.atoms)).flatten ++ [recA vs.length]
def ascF : Option ByteArray → List ByteArray → Prop
  | _, [] => True
  | o, n :: r => (∀ x, o = some x → lessB x n = true) ∧ ascF (some n) r
def T.good : T → Prop
  | ⟨.inl (.inl n)⟩ => n = 0 ∨ n = 1
  | ⟨.inl (.inr n)⟩ => -9223372036854775808 ≤ n ∧ n < 9223372036854775808
  | ⟨.inr (.inl s)⟩ => s.size ≤ 1500
  | ⟨.inr (.inr (.inl ks))⟩ => ∀ k ∈ ks, k.good
  | ⟨.inr (.inr (.inr (ns, vs)))⟩ => ns.length = vs.length ∧ (∀ n ∈ ns, n.size ≤ 1500) ∧ ascF none ns ∧ ∀ v ∈ vs, v.good
def atL (ks : List T) : List At := (ks.map fun k => k.atoms).flatten
def atF (ns : List ByteArray) (vs : List T) : List At := (List.zipWith (fun n xs => textA n :: xs) ns (vs.map fun v => v.atoms)).flatten
theorem atoms_list (ks : List T) : (T.list ks).atoms = atL ks ++ [listA ks.length] := by rw [T.atoms]; rfl
theorem atoms_recd (ns : List ByteArray) (vs : List T) : (T.recd ns vs).atoms = atF ns vs ++ [recA vs.length] := by rw [T.atoms]; rfl
theorem atL_cons (t : T) (ks : List T) : atL (t :: ks) = t.atoms ++ atL ks := by simp [atL]
theorem atL_append (a b : List T) : atL (a ++ b) = atL a ++ atL b := by simp [atL]
theorem atF_cons (n : ByteArray) (ns : List ByteArray) (v : T) (vs : List T) : atF (n :: ns) (v :: vs) = textA n :: (v.atoms ++ atF ns vs) := by simp [atF]
theorem good_list {ks : List T} : (T.list ks).good ↔ ∀ k ∈ ks, k.good := by rw [T.good]
theorem good_recd {ns : List ByteArray} {vs : List T} : (T.recd ns vs).good ↔ (ns.length = vs.length ∧ (∀ n ∈ ns, n.size ≤ 1500) ∧ ascF none ns ∧ ∀ v ∈ vs, v.good) := by rw [T.good]
theorem atoms_pos (t : T) : 0 < t.atoms.length := by cases t using T.five <;> rw [T.atoms] <;> simp
theorem atL_le : ∀ (ks : List T), ks.length ≤ (atL ks).length
  | [] => by simp
  | t :: ks => by rw [atL_cons]; have := atL_le ks; have := atoms_pos t; simp; omega
theorem atF_le : ∀ (ns : List ByteArray) (vs : List T), ns.length = vs.length → 2 * vs.length ≤ (atF ns vs).length
  | [], [], _ => by simp
  | n :: ns, v :: vs, h => by rw [atF_cons]; have := atF_le ns vs (by simpa using h); have := atoms_pos v; simp; omega
  | [], _ :: _, h => by simp at h
  | _ :: _, [], h => by simp at h

/-! The reader. -/
def pCount (most : Nat) (l : List UInt8) : Option (Nat × List UInt8) := (pSh 0 l).bind fun x => if x.1 ≤ most then some x else none
def pText (l : List UInt8) : Option (ByteArray × List UInt8) := (pCount 1500 l).bind fun x => if x.1 ≤ x.2.length then some (⟨(x.2.take x.1).toArray⟩, x.2.drop x.1) else none
def pKids (p : Nat → List UInt8 → Option (List At × List UInt8)) : Nat → Nat → List UInt8 → Option (List At × List UInt8)
  | 0, _, l => some ([], l)
  | n + 1, room, l => (p room l).bind fun x => (pKids p n (room - x.1.length) x.2).map fun y => (x.1 ++ y.1, y.2)
def upB (o : Option ByteArray) (s : ByteArray) : Bool := match o with
  | some x => lessB x s
  | none => true
def pFlds (p : Nat → List UInt8 → Option (List At × List UInt8)) : Nat → Option ByteArray → Nat → List UInt8 → Option (List At × List UInt8)
  | 0, _, _, l => some ([], l)
  | n + 1, o, room, l => (pText l).bind fun t => if 0 < room ∧ upB o t.1 = true then (p (room - 1) t.2).bind fun x => (pFlds p n (some t.1) (room - 1 - x.1.length) x.2).map fun y => (textA t.1 :: (x.1 ++ y.1), y.2) else none
def pVal : Nat → Nat → List UInt8 → Option (List At × List UInt8)
  | 0, _, _ => none
  | _ + 1, _, [] => none
  | f + 1, room, c :: r =>
    if c = 1 then (match r with
      | [] => none
      | b :: r' => if b.toNat ≤ 1 ∧ 0 < room then some ([flagA b.toNat], r') else none)
    else if c = 2 then (pSh 0 r).bind fun x => if 0 < room then some ([numA (zag x.1)], x.2) else none
    else if c = 3 then (pText r).bind fun x => if 0 < room then some ([textA x.1], x.2) else none
    else if c = 4 then (pCount 300 r).bind fun x => (pKids (pVal f) x.1 room x.2).bind fun y => if y.1.length < room then some (y.1 ++ [listA x.1], y.2) else none
    else if c = 5 then (pCount 300 r).bind fun x => (pFlds (pVal f) x.1 none room x.2).bind fun y => if y.1.length < room then some (y.1 ++ [recA x.1], y.2) else none
    else none

theorem pCount_full {n most : Nat} (h : n ≤ most) (hm : most < 18446744073709551616) (r : List UInt8) : pCount most (shortL n ++ r) = some (n, r) := by
  unfold pCount
  rw [pSh_full n 0 r (by omega) (show n < 18446744073709551616 by omega) (fun h => by omega)]
  simp [h]
theorem pCount_sound {n most : Nat} {l r : List UInt8} (h : pCount most l = some (n, r)) : l = shortL n ++ r ∧ n ≤ most := by
  unfold pCount at h
  rw [Option.bind_eq_some_iff] at h
  obtain ⟨⟨x, y⟩, h1, h2⟩ := h
  split at h2
  · simp only [Option.some.injEq, Prod.mk.injEq] at h2
    obtain ⟨rfl, rfl⟩ := h2
    exact ⟨(pSh_sound l 0 _ _ (by omega) h1).1, by assumption⟩
  · cases h2
theorem pText_full {s : ByteArray} (h : s.size ≤ 1500) (r : List UInt8) : pText (shortL s.size ++ (s.data.toList ++ r)) = some (s, r) := by
  unfold pText
  rw [pCount_full h (by omega)]
  have hl : s.data.toList.length = s.size := (Array.length_toList : s.data.toList.length = s.data.size)
  simp only [Option.bind_some]
  rw [if_pos (by rw [List.length_append]; omega), ← hl, List.take_left, List.drop_left]
theorem pText_sound {l r : List UInt8} {s : ByteArray} (h : pText l = some (s, r)) : l = shortL s.size ++ (s.data.toList ++ r) ∧ s.size ≤ 1500 := by
  unfold pText at h
  rw [Option.bind_eq_some_iff] at h
  obtain ⟨⟨x, y⟩, h1, h2⟩ := h
  obtain ⟨e1, e2⟩ := pCount_sound h1
  dsimp only at h2
  split at h2
  · rename_i h3
    simp only [Option.some.injEq, Prod.mk.injEq] at h2
    obtain ⟨rfl, rfl⟩ := h2
    have hz : (⟨(y.take x).toArray⟩ : ByteArray).size = x := by show (y.take x).toArray.size = x; simp; omega
    rw [hz]
    exact ⟨by rw [e1]; simp, e2⟩
  · cases h2

theorem pKids_full {f : Nat} (ih : ∀ (t : T) (room : Nat) (r : List UInt8), t.good → t.nest < f → t.atoms.length ≤ room → room ≤ 300 → pVal f room (t.form ++ r) = some (t.atoms, r)) : ∀ (ks : List T) (room : Nat) (r : List UInt8), (∀ k ∈ ks, k.good) → (∀ k ∈ ks, k.nest < f) → (atL ks).length ≤ room → room ≤ 300 → pKids (pVal f) ks.length room (formL ks ++ r) = some (atL ks, r)
  | [], room, r, _, _, _, _ => by simp [pKids, formL, atL]
  | t :: ks, room, r, hg, hn, hl, hr => by
    rw [atL_cons, List.length_append] at hl
    simp only [List.length_cons, pKids, formL, List.append_assoc]
    rw [ih t room _ (hg t (by simp)) (hn t (by simp)) (by omega) hr]
    simp only [Option.bind_some]
    rw [pKids_full ih ks (room - t.atoms.length) r (fun k hk => hg k (by simp [hk])) (fun k hk => hn k (by simp [hk])) (by omega) (by omega), atL_cons]
    rfl
theorem pFlds_full {f : Nat} (ih : ∀ (t : T) (room : Nat) (r : List UInt8), t.good → t.nest < f → t.atoms.length ≤ room → room ≤ 300 → pVal f room (t.form ++ r) = some (t.atoms, r)) : ∀ (ns : List ByteArray) (vs : List T) (o : Option ByteArray) (room : Nat) (r : List UInt8), ns.length = vs.length → (∀ n ∈ ns, n.size ≤ 1500) → ascF o ns → (∀ k ∈ vs, k.good) → (∀ k ∈ vs, k.nest < f) → (atF ns vs).length ≤ room → room ≤ 300 → pFlds (pVal f) vs.length o room (formF ns vs ++ r) = some (atF ns vs, r)
  | [], [], o, room, r, _, _, _, _, _, _, _ => by simp [pFlds, formF, atF]
  | [], _ :: _, _, _, _, h, _, _, _, _, _, _ => by simp at h
  | _ :: _, [], _, _, _, h, _, _, _, _, _, _ => by simp at h
  | n :: ns, v :: vs, o, room, r, hl, hz, ha, hg, hn, hr, h3 => by
    rw [atF_cons, List.length_cons, List.length_append] at hr
    simp only [List.length_cons, pFlds, formF, List.headD_cons, List.tail_cons, List.append_assoc]
    rw [pText_full (hz n (by simp))]
    simp only [Option.bind_some]
    have hu : upB o n = true := by
      cases o with
      | none => rfl
      | some x => exact ha.1 x rfl
    rw [if_pos ⟨by omega, hu⟩, ih v (room - 1) _ (hg v (by simp)) (hn v (by simp)) (by omega) (by omega)]
    simp only [Option.bind_some]
    rw [pFlds_full ih ns vs (some n) (room - 1 - v.atoms.length) r (by simpa using hl) (fun x hx => hz x (by simp [hx])) ha.2 (fun k hk => hg k (by simp [hk])) (fun k hk => hn k (by simp [hk])) (by omega) (by omega), atF_cons]
    rfl
theorem pVal_full : ∀ (f : Nat) (t : T) (room : Nat) (r : List UInt8), t.good → t.nest < f → t.atoms.length ≤ room → room ≤ 300 → pVal f room (t.form ++ r) = some (t.atoms, r)
  | 0, t, room, r, _, h, _, _ => by omega
  | f + 1, t, room, r, hg, hn, hl, hr => by
    have h0 : 0 < room := Nat.lt_of_lt_of_le (atoms_pos t) hl
    cases t using T.five with
    | flag n =>
      have hn' : n = 0 ∨ n = 1 := by rw [T.good] at hg; exact hg
      rcases hn' with rfl | rfl <;> simp [T.form, T.atoms, pVal, h0, flagA]
    | num n =>
      have hn' : -9223372036854775808 ≤ n ∧ n < 9223372036854775808 := by rw [T.good] at hg; exact hg
      simp only [T.form, List.cons_append, pVal]
      rw [if_neg (by decide), if_pos trivial, pSh_full (zig n) 0 r (by omega) (zig_lt n) (fun h => by omega)]
      simp [h0, zag_zig hn'.1 hn'.2, T.atoms]
    | text s =>
      have hs : s.size ≤ 1500 := by rw [T.good] at hg; exact hg
      simp only [T.form, List.cons_append, pVal, List.append_assoc]
      rw [if_neg (by decide), if_neg (by decide), if_pos trivial, pText_full hs]
      simp [h0, T.atoms]
    | list ks =>
      rw [atoms_list, List.length_append, List.length_singleton] at hl
      have hk := atL_le ks
      simp only [T.form_list, List.cons_append, pVal, List.append_assoc]
      rw [if_neg (by decide), if_neg (by decide), if_neg (by decide), if_pos trivial, pCount_full (by omega) (by omega)]
      simp only [Option.bind_some]
      rw [pKids_full (fun t room r => pVal_full f t room r) ks room r (good_list.1 hg) (fun k hk => by have := nestL_mem hk; have : (T.list ks).nest = nestL ks := T.nest_list ks; omega) (by omega) hr]
      simp only [Option.bind_some]
      rw [if_pos (by omega), atoms_list]
    | recd ns vs =>
      obtain ⟨g1, g2, g3, g4⟩ := good_recd.1 hg
      rw [atoms_recd, List.length_append, List.length_singleton] at hl
      have hk := atF_le ns vs g1
      simp only [T.form_recd, List.cons_append, pVal, List.append_assoc]
      rw [if_neg (by decide), if_neg (by decide), if_neg (by decide), if_neg (by decide), if_pos trivial, pCount_full (by omega) (by omega)]
      simp only [Option.bind_some]
      rw [pFlds_full (fun t room r => pVal_full f t room r) ns vs none room r g1 g2 g3 g4 (fun k hk => by have := nestL_mem hk; have : (T.recd ns vs).nest = nestL vs := T.nest_recd ns vs; omega) (by omega) hr]
      simp only [Option.bind_some]
      rw [if_pos (by omega), atoms_recd]

def SoundV (f : Nat) (p : Nat → List UInt8 → Option (List At × List UInt8)) : Prop := ∀ (room : Nat) (l : List UInt8) (xs : List At) (r : List UInt8), p room l = some (xs, r) → ∃ t : T, t.good ∧ t.nest < f ∧ xs = t.atoms ∧ l = t.form ++ r ∧ xs.length ≤ room
theorem pKids_sound {f : Nat} {p : Nat → List UInt8 → Option (List At × List UInt8)} (ih : SoundV f p) : ∀ (n room : Nat) (l : List UInt8) (xs : List At) (r : List UInt8), pKids p n room l = some (xs, r) → ∃ ks : List T, ks.length = n ∧ (∀ k ∈ ks, k.good) ∧ (∀ k ∈ ks, k.nest < f) ∧ xs = atL ks ∧ l = formL ks ++ r ∧ xs.length ≤ room
  | 0, room, l, xs, r, h => by
    simp only [pKids, Option.some.injEq, Prod.mk.injEq] at h
    obtain ⟨rfl, rfl⟩ := h
    exact ⟨[], rfl, by simp, by simp, rfl, by simp [formL], by simp⟩
  | n + 1, room, l, xs, r, h => by
    simp only [pKids, Option.bind_eq_some_iff, Option.map_eq_some_iff] at h
    obtain ⟨⟨x, y⟩, h1, ⟨z, q⟩, h2, h3⟩ := h
    dsimp only at h2 h3
    cases h3
    obtain ⟨t, t1, t2, t3, t4, t5⟩ := ih room l x y h1
    obtain ⟨ks, k1, k2, k3, k4, k5, k6⟩ := pKids_sound ih n _ _ _ _ h2
    refine ⟨t :: ks, by simp [k1], fun k hk => ?_, fun k hk => ?_, by rw [atL_cons, t3, k4], by simp [formL, t4, k5], by rw [List.length_append]; omega⟩
    · rcases List.mem_cons.1 hk with rfl | hk
      · exact t1
      · exact k2 k hk
    · rcases List.mem_cons.1 hk with rfl | hk
      · exact t2
      · exact k3 k hk
theorem pFlds_sound {f : Nat} {p : Nat → List UInt8 → Option (List At × List UInt8)} (ih : SoundV f p) : ∀ (n : Nat) (o : Option ByteArray) (room : Nat) (l : List UInt8) (xs : List At) (r : List UInt8), pFlds p n o room l = some (xs, r) → ∃ (ns : List ByteArray) (vs : List T), ns.length = n ∧ vs.length = n ∧ (∀ x ∈ ns, x.size ≤ 1500) ∧ ascF o ns ∧ (∀ k ∈ vs, k.good) ∧ (∀ k ∈ vs, k.nest < f) ∧ xs = atF ns vs ∧ l = formF ns vs ++ r ∧ xs.length ≤ room
  | 0, o, room, l, xs, r, h => by
    simp only [pFlds, Option.some.injEq, Prod.mk.injEq] at h
    obtain ⟨rfl, rfl⟩ := h
    exact ⟨[], [], rfl, rfl, by simp, trivial, by simp, by simp, rfl, by simp [formF], by simp⟩
  | n + 1, o, room, l, xs, r, h => by
    simp only [pFlds, Option.bind_eq_some_iff] at h
    obtain ⟨⟨s, l1⟩, h1, h⟩ := h
    obtain ⟨e1, e2⟩ := pText_sound h1
    dsimp only at h
    split at h
    · rename_i hc
      simp only [Option.bind_eq_some_iff, Option.map_eq_some_iff] at h
      obtain ⟨⟨x, y⟩, h2, ⟨z, q⟩, h3, h4⟩ := h
      dsimp only at h2 h3 h4
      cases h4
      obtain ⟨t, t1, t2, t3, t4, t5⟩ := ih _ _ x y h2
      obtain ⟨ns, vs, k0, k1, k2, k3, k4, k5, k6, k7, k8⟩ := pFlds_sound ih n _ _ _ _ _ h3
      refine ⟨s :: ns, t :: vs, by simp [k0], by simp [k1], fun k hk => ?_, ⟨fun x hx => ?_, k3⟩, fun k hk => ?_, fun k hk => ?_, by rw [atF_cons, t3, k6], ?_, by simp only [List.length_cons, List.length_append]; omega⟩
      · rcases List.mem_cons.1 hk with rfl | hk
        · exact e2
        · exact k2 k hk
      · have := hc.2
        rw [hx] at this
        exact this
      · rcases List.mem_cons.1 hk with rfl | hk
        · exact t1
        · exact k4 k hk
      · rcases List.mem_cons.1 hk with rfl | hk
        · exact t2
        · exact k5 k hk
      · rw [e1, t4, k7]
        simp [formF]
    · cases h
theorem nestL_lt {ks : List T} {f : Nat} (h : ∀ k ∈ ks, k.nest < f) : nestL ks ≤ f := by
  induction ks with
  | nil => simp [nestL]
  | cons t l ih =>
    have := h t (by simp)
    have := ih (fun k hk => h k (by simp [hk]))
    simp only [nestL]
    omega
theorem pVal_sound : ∀ f, SoundV f (pVal f)
  | 0, room, l, xs, r, h => by simp [pVal] at h
  | f + 1, room, [], xs, r, h => by simp [pVal] at h
  | f + 1, room, c :: l, xs, r, h => by
    unfold pVal at h
    split at h
    · rename_i hc
      subst hc
      split at h
      · cases h
      · rename_i b l'
        split at h
        · rename_i hb
          simp only [Option.some.injEq, Prod.mk.injEq] at h
          obtain ⟨rfl, rfl⟩ := h
          refine ⟨.flag b.toNat, by rw [T.good]; omega, by simp [T.nest], by rw [T.atoms], ?_, by simp; omega⟩
          simp only [T.form, List.cons_append, List.nil_append, List.cons.injEq, true_and, and_true]
          refine UInt8.toNat_inj.1 ?_
          have := hb.1
          simp
          omega
        · cases h
    split at h
    · rename_i hc
      subst hc
      rw [Option.bind_eq_some_iff] at h
      obtain ⟨⟨n, l1⟩, h1, h2⟩ := h
      dsimp only at h2
      split at h2
      · simp only [Option.some.injEq, Prod.mk.injEq] at h2
        obtain ⟨rfl, rfl⟩ := h2
        obtain ⟨e1, e2, _⟩ := pSh_sound l 0 n l1 (by omega) h1
        have e2 : n < 18446744073709551616 := e2
        have hz := zag_in e2
        exact ⟨.num (zag n), by rw [T.good]; exact hz, by simp [T.nest], by rw [T.atoms], by simp [T.form, zig_zag e2, e1], by simp; omega⟩
      · cases h2
    split at h
    · rename_i hc
      subst hc
      rw [Option.bind_eq_some_iff] at h
      obtain ⟨⟨s, l1⟩, h1, h2⟩ := h
      dsimp only at h2
      split at h2
      · simp only [Option.some.injEq, Prod.mk.injEq] at h2
        obtain ⟨rfl, rfl⟩ := h2
        obtain ⟨e1, e2⟩ := pText_sound h1
        exact ⟨.text s, by rw [T.good]; exact e2, by simp [T.nest], by rw [T.atoms], by simp [T.form, e1], by simp; omega⟩
      · cases h2
    split at h
    · rename_i hc
      subst hc
      simp only [Option.bind_eq_some_iff] at h
      obtain ⟨⟨n, l1⟩, h1, ⟨y, l2⟩, h2, h3⟩ := h
      dsimp only at h2 h3
      split at h3
      · rename_i hy
        simp only [Option.some.injEq, Prod.mk.injEq] at h3
        obtain ⟨rfl, rfl⟩ := h3
        obtain ⟨e1, e2⟩ := pCount_sound h1
        obtain ⟨ks, k1, k2, k3, k4, k5, k6⟩ := pKids_sound (pVal_sound f) n room l1 y l2 h2
        refine ⟨.list ks, good_list.2 k2, ?_, by rw [atoms_list, k4, k1], by simp [T.form_list, e1, k5, k1], by simp; omega⟩
        have := nestL_lt k3
        have : (T.list ks).nest = nestL ks := T.nest_list ks
        omega
      · cases h3
    split at h
    · rename_i hc
      subst hc
      simp only [Option.bind_eq_some_iff] at h
      obtain ⟨⟨n, l1⟩, h1, ⟨y, l2⟩, h2, h3⟩ := h
      dsimp only at h2 h3
      split at h3
      · rename_i hy
        simp only [Option.some.injEq, Prod.mk.injEq] at h3
        obtain ⟨rfl, rfl⟩ := h3
        obtain ⟨e1, e2⟩ := pCount_sound h1
        obtain ⟨ns, vs, k0, k1, k2, k3, k4, k5, k6, k7, k8⟩ := pFlds_sound (pVal_sound f) n none room l1 y l2 h2
        refine ⟨.recd ns vs, good_recd.2 ⟨by omega, k2, k3, k4⟩, ?_, by rw [atoms_recd, k6, k1], by simp [T.form_recd, e1, k7, k1], by simp; omega⟩
        have := nestL_lt k5
        have : (T.recd ns vs).nest = nestL vs := T.nest_recd ns vs
        omega
      · cases h3
    · cases h
end Go.Proofs.YtamaioeikcjhoaaDoor
