/-
  spec's desk, plainly: where lists and records are being read.
-/
import Derived.Test.YtamaioeikcjhoaaDoorSdQ
namespace Go.Proofs.YtamaioeikcjhoaaDoor
open Go.RowKit

theorem dk_news {w : World} {B g n cap : Nat} {e : TypeId} {zs : List At} (h : w.ownsRow B e 4 (.slice (some ⟨g, 0, none⟩) n cap) n (acells zs)) : ∀ j u, (acells zs)[j]? = some u → w.cell? (Addr.add ⟨g, 0, none⟩ j) = some u := by
  intro j u hj
  have hl : j < (acells zs).length := by
    rcases Nat.lt_or_ge j (acells zs).length with h' | h'
    · exact h'
    · rw [List.getElem?_eq_none h'] at hj; cases hj
  rw [Go.WideShapes.add_plain, Nat.zero_add, h.cellAt j (by rw [← h.1]; exact hl)]
  exact hj

def LI (s : ByteArray) (p1 n1 : Nat) (bad1 : Bool) (m f k : Nat) (ys : List At) (p2 n2 : Nat) (bad2 : Bool) : Prop :=
  ∀ ks r, ks.length = m → (∀ x ∈ ks, T.good x) → (∀ x ∈ ks, T.nest x < f) → bad1 = false → rst s p1 = formL ks ++ r → n1 + (atL ks).length ≤ 300 → ys = atL (ks.take k) ∧ bad2 = false ∧ n2 = n1 + ys.length ∧ rst s p2 = formL (ks.drop k) ++ r
theorem LI.start (s : ByteArray) (p1 n1 : Nat) (bad1 : Bool) (m f : Nat) : LI s p1 n1 bad1 m f 0 [] p1 n1 bad1 := fun ks r _ _ _ hb hr _ => ⟨by simp [atL], hb, by simp, by simpa using hr⟩
theorem LI.step {s : ByteArray} {p1 n1 : Nat} {bad1 : Bool} {m f k : Nat} {ys zs : List At} {p2 n2 p3 n3 : Nat} {bad2 bad3 : Bool} (h : LI s p1 n1 bad1 m f k ys p2 n2 bad2) (hk : k < m) (hv : VF s p2 n2 f zs p3 n3 bad3) : LI s p1 n1 bad1 m f (k + 1) (ys ++ zs) p3 n3 bad3 := by
  intro ks r hl hg hne hb hr hn
  obtain ⟨e1, e2, e3, e4⟩ := h ks r hl hg hne hb hr hn
  have hkl : k < ks.length := by omega
  have hd : ks.drop k = ks[k] :: ks.drop (k + 1) := List.drop_eq_getElem_cons hkl
  have hm : ks[k] ∈ ks := List.getElem_mem hkl
  have hs : atL ks = atL (ks.take k) ++ (ks[k].atoms ++ atL (ks.drop (k + 1))) := by
    conv => lhs; rw [← List.take_append_drop k ks]
    rw [atL_append, hd, atL_cons]
  rw [hd, formL, List.append_assoc] at e4
  have hs2 : (atL ks).length = ys.length + (ks[k].atoms.length + (atL (ks.drop (k + 1))).length) := by rw [hs, e1, List.length_append, List.length_append]
  obtain ⟨x1, x2, x3, x4⟩ := hv ks[k] _ (hg _ hm) (hne _ hm) e4 (by omega)
  refine ⟨?_, x2, ?_, x4⟩
  · rw [List.take_succ_eq_append_getElem hkl, atL_append, ← e1, x1]
    simp [atL]
  · rw [x3, e3, List.length_append, x1]; omega
theorem LI.done {s : ByteArray} {p n p1 : Nat} {bad1 : Bool} {m f k : Nat} {ys : List At} {p2 n2 : Nat} {bad2 : Bool} (h : LI s p1 (n + 1) bad1 m f k ys p2 n2 bad2) (hk : k ≤ m) (he : m ≤ k ∨ bad2 = true) (hc : rst s p = 4 :: rst s (p + 1)) (HK : ∀ q r, q ≤ s.size → rst s (p + 1) = shortL q ++ r → m = q ∧ rst s p1 = r ∧ bad1 = false) : VF s p n (f + 1) (ys ++ [⟨((4 : Nat) : Int), 0, ⟨#[]⟩, (m : Int)⟩]) p2 n2 bad2 := by
  intro t r hgd hne hr hn
  rw [hc] at hr
  obtain ⟨ks, rfl, hk2⟩ := fh_4 hr
  have hat := atoms_list ks
  rw [hat, List.length_append, List.length_singleton] at hn
  have hle := atL_le ks
  have hsz : ks.length ≤ s.size := by
    have h1 := rst_len s (p + 1)
    rw [hk2, List.length_append, List.length_append] at h1
    have h2 : ∀ ks : List T, ks.length ≤ (formL ks).length := by
      intro ks
      induction ks with
      | nil => simp
      | cons t ks ih =>
        rw [formL, List.length_append, List.length_cons]
        have : 0 < t.form.length := List.length_pos_iff.2 (form_ne t)
        omega
    have := h2 ks
    omega
  obtain ⟨y1, y2, y3⟩ := HK ks.length _ hsz hk2
  obtain ⟨e1, e2, e3, e4⟩ := h ks r y1.symm (good_list.1 hgd) (fun x hx => by have := nestL_mem hx; have : (T.list ks).nest = nestL ks := T.nest_list ks; omega) y3 y2 (by omega)
  obtain rfl : k = m := by
    rcases he with he | he
    · omega
    · rw [e2] at he; cases he
  rw [y1, List.take_length] at e1
  rw [y1, List.drop_length, formL, List.nil_append] at e4
  refine ⟨?_, e2, ?_, e4⟩
  · rw [hat, e1, ← y1]; rfl
  · rw [e3, e1, hat, List.length_append, List.length_singleton]; omega

theorem atF_split : ∀ (ns : List ByteArray) (vs : List T) (k : Nat), ns.length = vs.length → atF ns vs = atF (ns.take k) (vs.take k) ++ atF (ns.drop k) (vs.drop k)
  | [], [], k, _ => by simp [atF]
  | [], _ :: _, k, h => by simp at h
  | _ :: _, [], k, h => by simp at h
  | a :: ns, t :: vs, 0, h => by simp [atF]
  | a :: ns, t :: vs, k + 1, h => by
    have ih := atF_split ns vs k (by simpa using h)
    rw [List.take_succ_cons, List.take_succ_cons, List.drop_succ_cons, List.drop_succ_cons, atF_cons, atF_cons, ih]
    simp
theorem atF_one (a : ByteArray) (t : T) : atF [a] [t] = textA a :: t.atoms := by rw [atF_cons]; simp [atF]
def RI (s : ByteArray) (p1 n1 : Nat) (bad1 : Bool) (m f k : Nat) (ys : List At) (p2 n2 : Nat) (bad2 : Bool) : Prop :=
  ∀ (ns : List ByteArray) vs r, ns.length = m → vs.length = m → (∀ x ∈ vs, T.good x) → (∀ x ∈ vs, T.nest x < f) → bad1 = false → rst s p1 = formF ns vs ++ r → n1 + (atF ns vs).length ≤ 300 → ys = atF (ns.take k) (vs.take k) ∧ bad2 = false ∧ n2 = n1 + ys.length ∧ rst s p2 = formF (ns.drop k) (vs.drop k) ++ r
theorem RI.start (s : ByteArray) (p1 n1 : Nat) (bad1 : Bool) (m f : Nat) : RI s p1 n1 bad1 m f 0 [] p1 n1 bad1 := fun ns vs r _ _ _ _ hb hr _ => ⟨by simp [atF], hb, by simp, by simpa using hr⟩
theorem RI.step {s : ByteArray} {p1 n1 : Nat} {bad1 : Bool} {m f k : Nat} {ys zs : List At} {tx : ByteArray} {p2 n2 p3 p4 n4 : Nat} {bad2 bad3 bad4 : Bool} (h : RI s p1 n1 bad1 m f k ys p2 n2 bad2) (hk : k < m) (ht : ∀ (q : ByteArray) r, rst s p2 = shortL q.size ++ (q.data.toList ++ r) → tx = q ∧ rst s p3 = r ∧ bad3 = false) (hv : bad3 = false → VF s p3 (n2 + 1) f zs p4 n4 bad4) : RI s p1 n1 bad1 m f (k + 1) (ys ++ [textA tx] ++ zs) p4 n4 bad4 := by
  intro ns vs r hl1 hl2 hg hne hb hr hn
  obtain ⟨e1, e2, e3, e4⟩ := h ns vs r hl1 hl2 hg hne hb hr hn
  have hk1 : k < ns.length := by omega
  have hk2 : k < vs.length := by omega
  have hd1 : ns.drop k = ns[k] :: ns.drop (k + 1) := List.drop_eq_getElem_cons hk1
  have hd2 : vs.drop k = vs[k] :: vs.drop (k + 1) := List.drop_eq_getElem_cons hk2
  have hm : vs[k] ∈ vs := List.getElem_mem hk2
  have hs := atF_split ns vs k (by omega)
  rw [hd1, hd2, atF_cons] at hs
  have hs2 : (atF ns vs).length = ys.length + (1 + (vs[k].atoms.length + (atF (ns.drop (k + 1)) (vs.drop (k + 1))).length)) := by rw [hs, e1, List.length_append, List.length_cons, List.length_append]; omega
  rw [hd1, hd2, formF, List.headD_cons, List.tail_cons, List.append_assoc, List.append_assoc, List.append_assoc] at e4
  obtain ⟨x1, x2, x3⟩ := ht ns[k] _ e4
  obtain ⟨z1, z2, z3, z4⟩ := hv x3 vs[k] _ (hg _ hm) (hne _ hm) x2 (by omega)
  refine ⟨?_, z2, ?_, z4⟩
  · have hs3 := atF_split (ns.take (k + 1)) (vs.take (k + 1)) k (by simp; omega)
    rw [hs3, List.take_take, List.take_take, Nat.min_eq_left (by omega), ← e1, x1, z1]
    have h1 : (ns.take (k + 1)).drop k = [ns[k]] := by rw [List.take_succ_eq_append_getElem hk1, List.drop_left' (by simp; omega)]
    have h2 : (vs.take (k + 1)).drop k = [vs[k]] := by rw [List.take_succ_eq_append_getElem hk2, List.drop_left' (by simp; omega)]
    rw [h1, h2, atF_one]
    simp
  · rw [z3, e3, z1]; simp; omega
theorem RI.done {s : ByteArray} {p n p1 : Nat} {bad1 : Bool} {m f k : Nat} {ys : List At} {p2 n2 : Nat} {bad2 : Bool} (h : RI s p1 (n + 1) bad1 m f k ys p2 n2 bad2) (hk : k ≤ m) (he : m ≤ k ∨ bad2 = true) (hc : rst s p = 5 :: rst s (p + 1)) (HK : ∀ q r, q ≤ s.size → rst s (p + 1) = shortL q ++ r → m = q ∧ rst s p1 = r ∧ bad1 = false) : VF s p n (f + 1) (ys ++ [⟨((5 : Nat) : Int), 0, ⟨#[]⟩, 2 * (m : Int)⟩]) p2 n2 bad2 := by
  intro t r hgd hne hr hn
  rw [hc] at hr
  obtain ⟨ns, vs, rfl, hk2⟩ := fh_5 hr
  obtain ⟨g1, g2, g3, g4⟩ := good_recd.1 hgd
  have hat := atoms_recd ns vs
  rw [hat, List.length_append, List.length_singleton] at hn
  have hsz : vs.length ≤ s.size := by
    have h1 := rst_len s (p + 1)
    rw [hk2, List.length_append, List.length_append] at h1
    have h2 : ∀ (vs : List T) (ns : List ByteArray), vs.length ≤ (formF ns vs).length := by
      intro vs
      induction vs with
      | nil => simp
      | cons t vs ih =>
        intro ns
        rw [formF, List.length_append, List.length_append, List.length_cons]
        have : 0 < t.form.length := List.length_pos_iff.2 (form_ne t)
        have := ih ns.tail
        omega
    have := h2 vs ns
    omega
  obtain ⟨y1, y2, y3⟩ := HK vs.length _ hsz hk2
  obtain ⟨e1, e2, e3, e4⟩ := h ns vs r (by omega) y1.symm g4 (fun x hx => by have := nestL_mem hx; have : (T.recd ns vs).nest = nestL vs := T.nest_recd ns vs; omega) y3 y2 (by omega)
  obtain rfl : k = m := by
    rcases he with he | he
    · omega
    · rw [e2] at he; cases he
  rw [y1, ← g1, List.take_length, g1, List.take_length] at e1
  rw [y1, ← g1, List.drop_length, g1, List.drop_length, formF, List.nil_append] at e4
  refine ⟨?_, e2, ?_, e4⟩
  · rw [hat, e1, ← y1]; rfl
  · rw [e3, e1, hat, List.length_append, List.length_singleton]; omega
end Go.Proofs.YtamaioeikcjhoaaDoor
