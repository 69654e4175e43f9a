/-
  Lines of a directory's text; what such a text reads as: plain.
-/
import Derived.Test.YtlgdfeacnalekaaDoorSplitP
import Derived.Test.YtlgdfeacnalekaaDoorCutSp
import Derived.Test.YtlgdfeacnalekaaDoorLinesP
import Derived.Lib.SlTrimSet
namespace Go.Proofs.YtlgdfeacnalekaaDoor
open Go.RowKit Go.Lib

/-- A line: what begins it, its name, its digits. -/
structure DL where
  kind : UInt8
  name : ByteArray
  dig : ByteArray
def hexB (b : UInt8) : Bool := (decide (48 ≤ b.toNat) && decide (b.toNat ≤ 57)) || (decide (97 ≤ b.toNat) && decide (b.toNat ≤ 102))
def kindOk (c : UInt8) : Bool := c == 100 || c == 102 || c == 120
structure LnOk (w : Nat) (d : DL) : Prop where
  kind : kindOk d.kind = true
  name : partOk pathB d.name = true
  len : d.dig.size = 2 * w
  hex : d.dig.data.toList.all hexB = true
/-- The line's text without its newline. -/
def lnT (d : DL) : List UInt8 := d.kind :: 32 :: (d.name.data.toList ++ 32 :: d.dig.data.toList)
theorem lnT_len (d : DL) : (lnT d).length = d.name.size + d.dig.size + 3 := by
  unfold lnT
  rw [List.length_cons, List.length_cons, List.length_append, List.length_cons, ← Lib.size_eq, ← Lib.size_eq]
  omega
theorem ba_ext {x y : ByteArray} (h : x.data.toList = y.data.toList) : x = y := WideShapes.bytes_inj h
theorem lnT_inj {w : Nat} {d d' : DL} (h : LnOk w d) (h' : LnOk w d') (e : lnT d = lnT d') : d = d' := by
  have hl := congrArg List.length e
  rw [lnT_len, lnT_len, h.len, h'.len] at hl
  unfold lnT at e
  injection e with e1 e2
  injection e2 with _ e3
  have hn : d.name.data.toList.length = d'.name.data.toList.length := by rw [← Lib.size_eq, ← Lib.size_eq]; omega
  obtain ⟨e4, e5⟩ := List.append_inj e3 hn
  injection e5 with _ e6
  obtain ⟨k, n, g⟩ := d
  obtain ⟨k', n', g'⟩ := d'
  dsimp only at e1 e4 e6
  rw [e1, ba_ext e4, ba_ext e6]
theorem part_no32 {s : ByteArray} (h : partOk pathB s = true) : (32 : UInt8) ∉ s.data.toList := fun hm => by
  simp only [partOk, Bool.and_eq_true, List.all_eq_true] at h
  have := h.2 32 hm
  revert this
  decide
theorem part_no10 {s : ByteArray} (h : partOk pathB s = true) : (10 : UInt8) ∉ s.data.toList := fun hm => by
  simp only [partOk, Bool.and_eq_true, List.all_eq_true] at h
  have := h.2 10 hm
  revert this
  decide
theorem part_pos {s : ByteArray} (h : partOk pathB s = true) : 1 ≤ s.size := by
  simp only [partOk, Bool.and_eq_true, decide_eq_true_eq] at h
  exact h.1.1.1.1
theorem hex_no10 {l : List UInt8} (h : l.all hexB = true) : (10 : UInt8) ∉ l := fun hm => by
  have := List.all_eq_true.1 h 10 hm
  revert this
  decide
theorem lnT_no10 {w : Nat} {d : DL} (h : LnOk w d) : (10 : UInt8) ∉ lnT d := by
  unfold lnT
  simp only [List.mem_cons, List.mem_append, not_or]
  refine ⟨fun e => ?_, by decide, part_no10 h.name, by decide, hex_no10 h.hex⟩
  have := h.kind
  rw [← e] at this
  revert this
  decide

/-- What the pieces of a text (each with its newline) read as, names behind 'last'. -/
def RdR (w : Nat) : ByteArray → List (List UInt8) → List DL → Prop
  | _, [], ds => ds = []
  | last, p :: ps, ds => ∃ d r, ds = d :: r ∧ p = lnT d ++ [10] ∧ LnOk w d ∧ Op.bytesLess last.toList d.name.toList = true ∧ RdR w d.name ps r
theorem RdR.one {w : Nat} : ∀ {ps : List (List UInt8)} {last last' : ByteArray} {ds ds' : List DL}, RdR w last ps ds → RdR w last' ps ds' → ds = ds'
  | [], _, _, _, _, h, h' => by rw [show _ = [] from h, show _ = [] from h']
  | p :: ps, _, _, _, _, ⟨d, r, e1, e2, e3, _, e5⟩, ⟨d', r', f1, f2, f3, _, f5⟩ => by
    have : lnT d = lnT d' := List.append_cancel_right (e2.symm.trans f2)
    obtain rfl := lnT_inj e3 f3 this
    rw [e1, f1, RdR.one e5 f5]
/-- The name of the last line so far. -/
def lstN (ds : List DL) : ByteArray := match ds.getLast? with
  | some d => d.name
  | none => ⟨#[]⟩
theorem lstN_snoc (ds : List DL) (d : DL) : lstN (ds ++ [d]) = d.name := by simp [lstN]
/-- What has been read so far, and what is left. -/
def RdS (w : Nat) (all : List (List UInt8)) (ds : List DL) (ps : List (List UInt8)) : Prop := ∀ es, RdR w ⟨#[]⟩ all es ↔ ∃ r, es = ds ++ r ∧ RdR w (lstN ds) ps r
theorem RdS.start (w : Nat) (all : List (List UInt8)) : RdS w all [] all := fun es => ⟨fun h => ⟨es, rfl, h⟩, fun ⟨r, e, h⟩ => by rw [e]; exact h⟩
theorem RdS.step {w : Nat} {all : List (List UInt8)} {ds : List DL} {p : List UInt8} {ps : List (List UInt8)} (h : RdS w all ds (p :: ps)) {d : DL} (e : p = lnT d ++ [10]) (hk : LnOk w d) (hl : Op.bytesLess (lstN ds).toList d.name.toList = true) : RdS w all (ds ++ [d]) ps := fun es => by
  rw [h es]
  constructor
  · rintro ⟨r, rfl, d', r', rfl, f2, f3, _, f5⟩
    have : lnT d = lnT d' := List.append_cancel_right (e.symm.trans f2)
    obtain rfl := lnT_inj hk f3 this
    exact ⟨r', by simp, by rw [lstN_snoc]; exact f5⟩
  · rintro ⟨r, rfl, h1⟩
    rw [lstN_snoc] at h1
    exact ⟨d :: r, by simp, d, r, rfl, e, hk, hl, h1⟩
theorem RdS.bad {w : Nat} {all : List (List UInt8)} {ds : List DL} {p : List UInt8} {ps : List (List UInt8)} (h : RdS w all ds (p :: ps)) (hb : ∀ d, p = lnT d ++ [10] → LnOk w d → Op.bytesLess (lstN ds).toList d.name.toList = true → False) : ∀ es, ¬ RdR w ⟨#[]⟩ all es := fun es he => by
  obtain ⟨r, _, d, r', _, e2, e3, e4, _⟩ := (h es).1 he
  exact hb d e2 e3 e4
theorem RdS.done {w : Nat} {all : List (List UInt8)} {ds : List DL} (h : RdS w all ds []) : RdR w ⟨#[]⟩ all ds := (h ds).2 ⟨[], by simp, rfl⟩

/-- Where a text is cut at its first space. -/
theorem cutS_at {s : ByteArray} {x y : List UInt8} (e : s.data.toList = x ++ 32 :: y) (hx : (32 : UInt8) ∉ x) : cutHeadS s = mkB x ∧ cutRestS s = mkB y := by
  have hat : s.data.toList[x.length]? = some 32 := by rw [e]; simp
  have hno : ∀ k, k < x.length → s.data.toList[k]? ≠ some 32 := fun k hk h => by
    rw [e, List.getElem?_append_left hk] at h
    exact hx (List.mem_of_getElem? h)
  rcases space_cases s with hix | ⟨i, hix, _⟩
  · exact absurd hat (indexByte_none hix _)
  · obtain ⟨h1, h2⟩ := indexByte_some hix
    have hi : i = x.length := by
      rcases Nat.lt_trichotomy i x.length with h | h | h
      · exact absurd h1 (hno i h)
      · exact h
      · exact absurd hat (h2 _ h)
    subst hi
    have e1 : cutHeadS s = s.extract 0 x.length := by simp [cutHeadS, hix]
    have e2 : cutRestS s = s.extract (x.length + 1) s.size := by simp [cutRestS, hix]
    rw [e1, e2, extract_mkB, extract_mkB]
    refine ⟨by rw [e]; simp, ?_⟩
    rw [Lib.size_eq, e]
    congr 1
    simp only [List.length_append, List.length_cons]
    rw [show x.length + 1 = (x ++ [32]).length by simp, show x ++ 32 :: y = (x ++ [32]) ++ y by simp, List.drop_left, List.take_of_length_le (by simp; omega)]
theorem cutS_none {s : ByteArray} (h : (32 : UInt8) ∉ s.data.toList) : cutHeadS s = s ∧ cutRestS s = ByteArray.empty := by
  rcases space_cases s with hix | ⟨i, hix, _⟩
  · exact ⟨by simp [cutHeadS, hix], by simp [cutRestS, hix]⟩
  · exact absurd (List.mem_of_getElem? (indexByte_some hix).1) h
theorem cutS_cases (s : ByteArray) : (∃ x y, s.data.toList = x ++ 32 :: y ∧ (32 : UInt8) ∉ x ∧ cutHeadS s = mkB x ∧ cutRestS s = mkB y) ∨ ((32 : UInt8) ∉ s.data.toList ∧ cutHeadS s = s ∧ cutRestS s = ByteArray.empty) := by
  by_cases h : (32 : UInt8) ∈ s.data.toList
  · left
    rcases space_cases s with hix | ⟨i, hix, _⟩
    · obtain ⟨k, hk, e⟩ := List.getElem_of_mem h
      exact absurd (by rw [List.getElem?_eq_getElem hk, e]) (indexByte_none hix k)
    · obtain ⟨h1, h2⟩ := indexByte_some hix
      have hi : i < s.data.toList.length := (List.getElem?_eq_some_iff.1 h1).1
      have e : s.data.toList = s.data.toList.take i ++ 32 :: s.data.toList.drop (i + 1) := by
        conv => lhs; rw [← List.take_append_drop i s.data.toList, List.drop_eq_getElem_cons hi]
        have := (List.getElem?_eq_some_iff.1 h1).2
        rw [this]
      have hno : (32 : UInt8) ∉ s.data.toList.take i := fun hm => by
        obtain ⟨k, hk, e'⟩ := List.getElem_of_mem hm
        rw [List.getElem_take] at e'
        have hk' : k < i := by simp at hk; omega
        exact h2 k hk' (by rw [List.getElem?_eq_getElem (by omega), e'])
      exact ⟨_, _, e, hno, cutS_at e hno⟩
  · exact .inr ⟨h, cutS_none h⟩

/-- impl's reading of a line: three pieces, and whether they are one. -/
def cutOk (w : Nat) (l : ByteArray) : Bool := (((cutHeadS l).toList == [100]) || (((cutHeadS l).toList == [102]) || ((cutHeadS l).toList == [120]))) && partOk pathB (cutHeadS (cutRestS l)) && decide ((cutRestS (cutRestS l)).size = 2 * w) && (cutRestS (cutRestS l)).data.toList.all hexB
theorem toL (s : ByteArray) : s.toList = s.data.toList := Lib.toList_data s
theorem cutOk_line {w : Nat} {l : ByteArray} (hw : 1 ≤ w) (h : cutOk w l = true) : ∃ k, (cutHeadS l) = ⟨#[k]⟩ ∧ l.data.toList = lnT ⟨k, cutHeadS (cutRestS l), cutRestS (cutRestS l)⟩ ∧ LnOk w ⟨k, cutHeadS (cutRestS l), cutRestS (cutRestS l)⟩ := by
  unfold cutOk at h
  simp only [Bool.and_eq_true, Bool.or_eq_true, beq_iff_eq, decide_eq_true_eq] at h
  obtain ⟨⟨⟨hk, hp⟩, hn⟩, hx⟩ := h
  obtain ⟨k, hkk, hk1⟩ : ∃ k, kindOk k = true ∧ (cutHeadS l).data.toList = [k] := by
    rw [toL] at hk
    rcases hk with h | h | h
    · exact ⟨100, rfl, h⟩
    · exact ⟨102, rfl, h⟩
    · exact ⟨120, rfl, h⟩
  have hpp := part_pos hp
  rcases cutS_cases l with ⟨x, y, e, _, e1, e2⟩ | ⟨_, _, e2⟩
  · rcases cutS_cases (cutRestS l) with ⟨x', y', f, _, f1, f2⟩ | ⟨_, f1, f2⟩
    · refine ⟨k, ba_ext hk1, ?_, ⟨hkk, hp, hn, hx⟩⟩
      rw [e1, mkB_list] at hk1
      have g : y = x' ++ 32 :: y' := by rw [← f, e2, mkB_list]
      unfold lnT
      dsimp only
      rw [e, hk1, g, f1, f2, mkB_list, mkB_list]
      rfl
    · exfalso
      rw [f2] at hn
      have : ByteArray.empty.size = 0 := rfl
      omega
  · exfalso
    rw [e2] at hpp
    have : cutHeadS ByteArray.empty = ByteArray.empty := (cutS_none (by simp)).1
    rw [this] at hpp
    simp at hpp
theorem line_cutOk {w : Nat} {d : DL} (h : LnOk w d) : cutOk w (mkB (lnT d)) = true ∧ cutHeadS (mkB (lnT d)) = ⟨#[d.kind]⟩ ∧ cutHeadS (cutRestS (mkB (lnT d))) = d.name ∧ cutRestS (cutRestS (mkB (lnT d))) = d.dig := by
  have hk : d.kind ≠ 32 := fun e => by have := h.kind; rw [e] at this; revert this; decide
  obtain ⟨e1, e2⟩ := cutS_at (s := mkB (lnT d)) (x := [d.kind]) (y := d.name.data.toList ++ 32 :: d.dig.data.toList) (by rw [mkB_list]; rfl) (by simpa using hk.symm)
  obtain ⟨f1, f2⟩ := cutS_at (s := cutRestS (mkB (lnT d))) (x := d.name.data.toList) (y := d.dig.data.toList) (by rw [e2, mkB_list]) (part_no32 h.name)
  rw [mkB_data] at f1 f2
  have e1' : cutHeadS (mkB (lnT d)) = ⟨#[d.kind]⟩ := by rw [e1]; rfl
  refine ⟨?_, e1', f1, f2⟩
  unfold cutOk
  rw [f1, f2, e1', h.name, h.hex, h.len]
  have hkk := h.kind
  unfold kindOk at hkk
  rw [toL]
  simp only [Bool.or_eq_true, beq_iff_eq] at hkk
  rcases hkk with (h1 | h1) | h1 <;> rw [h1] <;> simp
theorem hexS_contains (b : UInt8) : ([48, 49, 50, 51, 52, 53, 54, 55, 56, 57, 97, 98, 99, 100, 101, 102] : List UInt8).contains b = hexB b := by
  rw [Bool.eq_iff_iff]
  simp only [hexB, Bool.or_eq_true, Bool.and_eq_true, decide_eq_true_eq, List.contains_iff_mem, List.mem_cons, List.not_mem_nil, or_false, ← UInt8.toNat_inj]
  simp only [UInt8.reduceToNat]
  omega
theorem dw_nil {p : UInt8 → Bool} : ∀ {l : List UInt8}, l.dropWhile p = [] ↔ ∀ x ∈ l, p x = true
  | [] => by simp
  | a :: l => by
    rw [List.dropWhile_cons]
    by_cases h : p a = true
    · rw [if_pos h, dw_nil (l := l)]
      simp [h]
    · rw [if_neg h]
      simp [h]
theorem trimS_nil {l : List UInt8} : Lib.trimS l [48, 49, 50, 51, 52, 53, 54, 55, 56, 57, 97, 98, 99, 100, 101, 102] = [] ↔ l.all hexB = true := by
  have hf : (fun x => ([48, 49, 50, 51, 52, 53, 54, 55, 56, 57, 97, 98, 99, 100, 101, 102] : List UInt8).contains x) = hexB := funext hexS_contains
  unfold Lib.trimS Lib.trimLeftS Lib.trimRightS
  rw [hf, dw_nil, List.all_eq_true]
  constructor
  · intro h x hx
    by_cases hall : ∀ y ∈ l.reverse, hexB y = true
    · exact hall x (by simpa using hx)
    · exfalso
      have hne : l.reverse.dropWhile hexB ≠ [] := fun e => hall (dw_nil.1 e)
      obtain ⟨a, t, e⟩ := List.exists_cons_of_ne_nil hne
      have ha : hexB a = false := by
        have := List.head?_dropWhile_not hexB l.reverse
        rw [e] at this
        simpa using this
      have := h a (by rw [e]; simp)
      rw [ha] at this
      cases this
  · intro h x hx
    rw [List.mem_reverse] at hx
    exact h x (by have := List.dropWhile_sublist hexB |>.mem hx; simpa using this)

/-- spec's reading of a line: by its places. -/
def placeOk (w : Nat) (l : List UInt8) : Bool := decide (2 * w + 4 ≤ l.length) && kindOk (l.getD 0 0) && (l.getD 1 0 == 32) && (l.getD (l.length - (2 * w + 1)) 0 == 32) && partOk pathB (mkB ((l.drop 2).take (l.length - (2 * w + 1) - 2))) && (l.drop (l.length - (2 * w + 1) + 1)).all hexB
def placeL (w : Nat) (l : List UInt8) : DL := ⟨l.getD 0 0, mkB ((l.drop 2).take (l.length - (2 * w + 1) - 2)), mkB (l.drop (l.length - (2 * w + 1) + 1))⟩
theorem placeOk_line {w : Nat} {l : List UInt8} (h : placeOk w l = true) : l = lnT (placeL w l) ∧ LnOk w (placeL w l) := by
  unfold placeOk at h
  simp only [Bool.and_eq_true, beq_iff_eq, decide_eq_true_eq] at h
  obtain ⟨⟨⟨⟨⟨h1, h2⟩, h3⟩, h4⟩, h5⟩, h6⟩ := h
  refine ⟨?_, ⟨h2, h5, ?_, by rw [show (placeL w l).dig = mkB (l.drop (l.length - (2 * w + 1) + 1)) from rfl, mkB_list]; exact h6⟩⟩
  · match l, h1 with
    | a :: b :: r, h1 =>
      simp only [List.getD_cons_zero, List.getD_cons_succ] at h3
      subst h3
      unfold lnT placeL
      simp only [List.getD_cons_zero, List.length_cons, mkB_list, List.drop_succ_cons, List.drop_zero] at h4 ⊢
      congr 2
      have hk : r.length + 1 + 1 - (2 * w + 1) = (r.length - (2 * w + 1)) + 2 := by simp only [List.length_cons] at h1; omega
      rw [hk] at h4 ⊢
      have h4' : r.getD (r.length - (2 * w + 1)) 0 = 32 := by simpa using h4
      have hlt : r.length - (2 * w + 1) < r.length := by simp only [List.length_cons] at h1; omega
      rw [show r.length - (2 * w + 1) + 2 - 2 = r.length - (2 * w + 1) by omega, show r.length - (2 * w + 1) + 2 = (r.length - (2 * w + 1) + 1) + 1 from rfl, List.drop_succ_cons]
      conv => lhs; rw [← List.take_append_drop (r.length - (2 * w + 1)) r, List.drop_eq_getElem_cons hlt]
      rw [List.getD_eq_getElem?_getD, List.getElem?_eq_getElem hlt, Option.getD_some] at h4'
      rw [h4']
  · show (mkB (l.drop (l.length - (2 * w + 1) + 1))).size = 2 * w
    rw [mkB_size, List.length_drop]
    omega
theorem line_placeOk {w : Nat} {d : DL} (h : LnOk w d) : placeOk w (lnT d) = true := by
  have hl := lnT_len d
  have hp := part_pos h.name
  rw [h.len] at hl
  have hk : (lnT d).length - (2 * w + 1) = d.name.data.toList.length + 2 := by rw [hl, ← Lib.size_eq]; omega
  have e1 : ((lnT d).drop 2).take (d.name.data.toList.length + 2 - 2) = d.name.data.toList := by unfold lnT; simp
  have e2 : (lnT d).drop (d.name.data.toList.length + 2 + 1) = d.dig.data.toList := by
    unfold lnT
    rw [show d.name.data.toList.length + 2 + 1 = (d.name.data.toList.length + 1) + 2 by omega]
    simp only [List.drop_succ_cons]
    rw [show d.name.data.toList ++ 32 :: d.dig.data.toList = (d.name.data.toList ++ [32]) ++ d.dig.data.toList by simp, show d.name.data.toList.length + 1 = (d.name.data.toList ++ [32]).length by simp, List.drop_left]
  have e3 : (lnT d).getD (d.name.data.toList.length + 2) 0 = 32 := by
    unfold lnT
    simp
  unfold placeOk
  rw [hk, e1, e2, e3, mkB_data, h.name, h.hex]
  simp only [Bool.and_eq_true, decide_eq_true_eq, and_true, beq_self_eq_true]
  exact ⟨⟨by omega, h.kind⟩, rfl⟩
end Go.Proofs.YtlgdfeacnalekaaDoor
