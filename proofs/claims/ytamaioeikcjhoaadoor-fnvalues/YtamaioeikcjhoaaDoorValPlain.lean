/-
  Values, plainly: trees, how a list of atoms is built into one, and when it is a value. No program is named here.
-/
import GoSem.Claim
import GoSem.Op.String
namespace Go.Proofs.YtamaioeikcjhoaaDoor

structure At where
  kind : Int
  n : Int
  text : ByteArray
  kids : Int

/-- A tree: a flag, a number, a text, a list, a record (its names, its values). -/
structure T where
  body : (Int ⊕ Int) ⊕ ByteArray ⊕ List T ⊕ (List ByteArray × List T)
abbrev T.flag (n : Int) : T := ⟨.inl (.inl n)⟩
abbrev T.num (n : Int) : T := ⟨.inl (.inr n)⟩
abbrev T.text (s : ByteArray) : T := ⟨.inr (.inl s)⟩
abbrev T.list (ks : List T) : T := ⟨.inr (.inr (.inl ks))⟩
abbrev T.recd (ns : List ByteArray) (vs : List T) : T := ⟨.inr (.inr (.inr (ns, vs)))⟩
theorem T.five {motive : T → Prop} (t : T) (flag : ∀ n, motive (T.flag n)) (num : ∀ n, motive (T.num n)) (text : ∀ s, motive (T.text s)) (list : ∀ ks, motive (T.list ks)) (recd : ∀ ns vs, motive (T.recd ns vs)) : motive t :=
  match t with
  | ⟨.inl (.inl n)⟩ => flag n
  | ⟨.inl (.inr n)⟩ => num n
  | ⟨.inr (.inl s)⟩ => text s
  | ⟨.inr (.inr (.inl ks))⟩ => list ks
  | ⟨.inr (.inr (.inr (ns, vs)))⟩ => recd ns vs

def T.nest : T → Nat
  | ⟨.inl _⟩ => 0
  | ⟨.inr (.inl _)⟩ => 0
  | ⟨.inr (.inr (.inl ks))⟩ => (ks.map fun k => k.nest + 1).foldr max 0
  | ⟨.inr (.inr (.inr (_, vs)))⟩ => (vs.map fun k => k.nest + 1).foldr max 0
def nestL : List T → Nat
  | [] => 0
  | t :: r => max (t.nest + 1) (nestL r)
theorem nestL_map (ks : List T) : (ks.map fun k => k.nest + 1).foldr max 0 = nestL ks := by
  induction ks with
  | nil => rfl
  | cons t r ih => simp only [List.map_cons, List.foldr_cons, nestL, ih]
theorem T.nest_flag (n : Int) : (T.flag n).nest = 0 := by rw [T.nest]
theorem T.nest_num (n : Int) : (T.num n).nest = 0 := by rw [T.nest]
theorem T.nest_text (s : ByteArray) : (T.text s).nest = 0 := by rw [T.nest]
theorem T.nest_list (ks : List T) : (T.list ks).nest = nestL ks := by rw [T.nest, nestL_map]
theorem T.nest_recd (ns : List ByteArray) (vs : List T) : (T.recd ns vs).nest = nestL vs := by rw [T.nest, nestL_map]

theorem nestL_append (l r : List T) : nestL (l ++ r) = max (nestL l) (nestL r) := by
  induction l with
  | nil => simp [nestL]
  | cons t l ih => simp only [List.cons_append, nestL, ih]; omega
theorem nestL_snoc (l : List T) (t : T) : nestL (l ++ [t]) = max (nestL l) (t.nest + 1) := by
  rw [nestL_append]; simp [nestL]
theorem nestL_mem {l : List T} {t : T} (h : t ∈ l) : t.nest + 1 ≤ nestL l := by
  induction l with
  | nil => simp at h
  | cons x l ih =>
    simp only [nestL]
    rcases List.mem_cons.1 h with rfl | h
    · omega
    · have := ih h; omega

theorem T.ind {P : T → Prop} (flag : ∀ n, P (T.flag n)) (num : ∀ n, P (T.num n)) (text : ∀ s, P (T.text s)) (list : ∀ ks, (∀ t ∈ ks, P t) → P (T.list ks)) (recd : ∀ ns vs, (∀ t ∈ vs, P t) → P (T.recd ns vs)) (t : T) : P t := by
  have key : ∀ (d : Nat) (t : T), t.nest < d → P t := by
    intro d
    induction d with
    | zero => intro t h; omega
    | succ d ih =>
      intro t h
      cases t using T.five with
      | flag n => exact flag n
      | num n => exact num n
      | text s => exact text s
      | list ks =>
        rw [T.nest_list] at h
        exact list ks fun t ht => ih t (by have := nestL_mem ht; omega)
      | recd ns ks =>
        rw [T.nest_recd] at h
        exact recd ns ks fun t ht => ih t (by have := nestL_mem ht; omega)
  exact key _ t (Nat.lt_succ_self _)

/-- b < a as texts. -/
abbrev lessB (a b : ByteArray) : Bool := Op.bytesLess a.toList b.toList

theorem less_tri : ∀ (x y : List UInt8), Op.bytesLess x y = false → Op.bytesLess y x = true ∨ x = y
  | [], [], _ => .inr rfl
  | _ :: _, [], _ => .inl rfl
  | [], _ :: _, h => by simp [Op.bytesLess] at h
  | a :: x, b :: y, h => by
    simp only [Op.bytesLess, Bool.or_eq_false_iff, Bool.and_eq_false_iff, decide_eq_false_iff_not] at h
    obtain ⟨h1, h2⟩ := h
    by_cases e : a = b
    · subst e
      rcases h2 with h2 | h2
      · simp at h2
      · rcases less_tri x y h2 with h | h
        · left; simp [Op.bytesLess, h]
        · right; rw [h]
    · left
      have : b < a := by
        rcases Nat.lt_trichotomy a.toNat b.toNat with h | h | h
        · exact absurd (UInt8.lt_iff_toNat_lt.2 h) h1
        · exact absurd (UInt8.toNat_inj.1 h) e
        · exact UInt8.lt_iff_toNat_lt.2 h
      simp [Op.bytesLess, this]
theorem less_asym : ∀ (x y : List UInt8), Op.bytesLess x y = true → Op.bytesLess y x = false ∧ (y == x) = false
  | _, [], h => by simp [Op.bytesLess] at h
  | [], _ :: _, _ => by simp [Op.bytesLess]
  | a :: x, b :: y, h => by
    simp only [Op.bytesLess, Bool.or_eq_true, decide_eq_true_eq, Bool.and_eq_true, beq_iff_eq] at h
    rcases h with h | ⟨rfl, h⟩
    · have hn : ¬ b < a := fun h' => by
        have h1 := UInt8.lt_iff_toNat_lt.1 h
        have h2 := UInt8.lt_iff_toNat_lt.1 h'
        omega
      have hne : ¬ b = a := fun e => by subst e; exact hn h
      simp [Op.bytesLess, hn, hne]
    · obtain ⟨h1, h2⟩ := less_asym x y h
      have hn : ¬ a < a := fun h' => by have h1 := UInt8.lt_iff_toNat_lt.1 h'; omega
      have h2' : ¬ y = x := by simpa using h2
      simp [Op.bytesLess, h1, hn, h2']

/-- What impl asks ('name <= last' is no) is what the specification asks ('last >= name' is no). -/
theorem less_both (last name : ByteArray) : (lessB name last || name.toList == last.toList) = !lessB last name := by
  unfold lessB
  cases h : Op.bytesLess last.toList name.toList with
  | true => obtain ⟨h1, h2⟩ := less_asym _ _ h; simp [h1]; simpa using h2
  | false => rcases less_tri _ _ h with h1 | h1 <;> simp [h1]

/-- The names of the first j pairs of kids, ascending; nothing if one is no text or does not ascend. -/
def nm (ks : List T) : Nat → Option (List ByteArray)
  | 0 => some []
  | j + 1 => (nm ks j).bind fun ns => match ks[2 * j]? with
    | some ⟨.inr (.inl s)⟩ => match ns.getLast? with
      | none => some (ns ++ [s])
      | some l => if lessB l s then some (ns ++ [s]) else none
    | _ => none

theorem nm_len {ks : List T} : ∀ {j : Nat} {ns : List ByteArray}, nm ks j = some ns → ns.length = j
  | 0, ns, h => by simp [nm] at h; simp [← h]
  | j + 1, ns, h => by
    simp only [nm, Option.bind_eq_some_iff] at h
    obtain ⟨ns', h1, h2⟩ := h
    have := nm_len h1
    split at h2
    · split at h2
      · simp at h2; rw [← h2]; simp; omega
      · split at h2
        · simp at h2; rw [← h2]; simp; omega
        · simp at h2
    · simp at h2

theorem nm_mono {ks : List T} {j : Nat} (h : nm ks j = none) : ∀ m, j ≤ m → nm ks m = none := by
  intro m hm
  induction hm with
  | refl => exact h
  | step _ ih => simp [nm, ih]

def odds : List T → List T
  | [] => []
  | [_] => []
  | _ :: v :: r => v :: odds r

/-- What an atom with its kids is as a tree, if it is one. -/
def mkT (a : At) (ks : List T) : Option T :=
  if a.kind = 1 then (if a.text.size = 0 ∧ a.kids = 0 ∧ (a.n = 0 ∨ a.n = 1) then some (.flag a.n) else none)
  else if a.kind = 2 then (if a.text.size = 0 ∧ a.kids = 0 then some (.num a.n) else none)
  else if a.kind = 3 then (if a.n = 0 ∧ a.kids = 0 ∧ a.text.size ≤ 1500 then some (.text a.text) else none)
  else if a.kind = 4 then (if a.n = 0 ∧ a.text.size = 0 then some (.list ks) else none)
  else if a.kind = 5 then (if ks.length % 2 = 0 ∧ a.n = 0 ∧ a.text.size = 0 then (nm ks (ks.length / 2)).map fun ns => .recd ns (odds ks) else none)
  else none

/-- One atom more on the stack. -/
def stepT (a : At) (st : List T) : Option (List T) :=
  if 0 ≤ a.kids ∧ a.kids ≤ st.length then
    (mkT a (st.drop (st.length - a.kids.toNat))).map fun t => st.take (st.length - a.kids.toNat) ++ [t]
  else none

def bldT (ts : List At) : Option (List T) := ts.foldlM (fun st a => stepT a st) []

theorem bldT_snoc (ts : List At) (a : At) : bldT (ts ++ [a]) = (bldT ts).bind (stepT a) := by
  unfold bldT
  rw [List.foldlM_append]
  cases List.foldlM (fun st a => stepT a st) [] ts with
  | none => rfl
  | some st => simp

theorem bldT_take (ts : List At) (k : Nat) (h : k < ts.length) : bldT (ts.take (k + 1)) = (bldT (ts.take k)).bind (stepT ts[k]) := by
  rw [List.take_succ_eq_append_getElem h, bldT_snoc]

theorem bldT_none (ts : List At) (k : Nat) (h : bldT (ts.take k) = none) : ∀ m, k ≤ m → m ≤ ts.length → bldT (ts.take m) = none := by
  intro m hm
  induction hm with
  | refl => exact fun _ => h
  | step hle ih =>
    intro hl
    rw [bldT_take ts _ (by omega), ih (by omega)]
    rfl

/-- The value's tree, if it is one. -/
def valT (ts : List At) : Option T :=
  if ts.length ≤ 300 then match bldT ts with
    | some [t] => if t.nest ≤ 12 then some t else none
    | _ => none
  else none

theorem valT_none_of (ts : List At) (k : Nat) (hk : k ≤ ts.length) (h : bldT (ts.take k) = none) : valT ts = none := by
  have := bldT_none ts k h ts.length hk (Nat.le_refl _)
  rw [List.take_length] at this
  simp [valT, this]

/-- All kids' nest is the tree's. -/
theorem odds_nest : ∀ (ks : List T) (_ : ks.length % 2 = 0) (_ : ∀ j (h : 2 * j < ks.length), ∃ s, ks[2 * j] = .text s), nestL (odds ks) = nestL ks
  | [], _, _ => rfl
  | [_], h, _ => by simp at h
  | k :: v :: r, h, he => by
    obtain ⟨s, hs⟩ := he 0 (by simp)
    simp at hs
    subst hs
    have hr := odds_nest r (by simp at h; omega) (fun j hj => by
      obtain ⟨s, hs⟩ := he (j + 1) (by simp; omega)
      exact ⟨s, by simpa [Nat.mul_add] using hs⟩)
    simp only [odds, nestL, hr, T.nest_text]
    omega

theorem nm_text {ks : List T} : ∀ {m : Nat} {ns : List ByteArray}, nm ks m = some ns → ∀ j, j < m → ∃ s, ks[2 * j]? = some (.text s)
  | 0, _, _, j, hj => absurd hj (by omega)
  | m + 1, ns, h, j, hj => by
    simp only [nm, Option.bind_eq_some_iff] at h
    obtain ⟨ns', h1, h2⟩ := h
    by_cases e : j = m
    · subst e
      split at h2
      · rename_i s hs; exact ⟨s, hs⟩
      · simp at h2
    · exact nm_text h1 j (by omega)

theorem mkT_nest {a : At} {ks : List T} {t : T} (hk : (ks.length : Int) = a.kids) (h : mkT a ks = some t) : t.nest = nestL ks := by
  have hnil : a.kids = 0 → ks = [] := fun e => List.eq_nil_of_length_eq_zero (by omega)
  unfold mkT at h
  split at h
  · split at h
    · rename_i _ hc; simp at h; subst h; rw [hnil hc.2.1, T.nest_flag]; rfl
    · simp at h
  split at h
  · split at h
    · rename_i _ hc; simp at h; subst h; rw [hnil hc.2, T.nest_num]; rfl
    · simp at h
  split at h
  · split at h
    · rename_i _ hc; simp at h; subst h; rw [hnil hc.2.1, T.nest_text]; rfl
    · simp at h
  split at h
  · split at h
    · simp at h; subst h; rw [T.nest_list]
    · simp at h
  split at h
  · split at h
    · rename_i _ hc
      obtain ⟨ns, h1, h2⟩ := Option.map_eq_some_iff.1 h
      subst h2
      rw [T.nest_recd]
      refine odds_nest ks hc.1 fun j hj => ?_
      obtain ⟨s, hs⟩ := nm_text h1 j (by omega)
      rw [List.getElem?_eq_getElem hj] at hs
      exact ⟨s, by simpa using hs⟩
    · simp at h
  · simp at h

/-- Once something on the stack is too deep, something on it stays so. -/
theorem deep_stays (ts : List At) (k : Nat) (st : List T) (hb : bldT (ts.take k) = some st) (hd : ∃ t ∈ st, 12 < t.nest) : ∀ m, k ≤ m → m ≤ ts.length → ∀ st', bldT (ts.take m) = some st' → ∃ t ∈ st', 12 < t.nest := by
  intro m hm
  induction hm with
  | refl => intro _ st' h; rw [hb] at h; simp at h; subst h; exact hd
  | @step m hle ih =>
    intro hl st' h
    rw [bldT_take ts m (by omega), Option.bind_eq_some_iff] at h
    obtain ⟨st1, h1, h2⟩ := h
    obtain ⟨t, ht, hn⟩ := ih (by omega) st1 h1
    unfold stepT at h2
    split at h2
    · rename_i hc
      obtain ⟨u, hu, rfl⟩ := Option.map_eq_some_iff.1 h2
      have hsplit : t ∈ st1.take (st1.length - ts[m].kids.toNat) ∨ t ∈ st1.drop (st1.length - ts[m].kids.toNat) := by
        rw [← List.mem_append, List.take_append_drop]; exact ht
      rcases hsplit with h' | h'
      · exact ⟨t, List.mem_append_left _ h', hn⟩
      · refine ⟨u, by simp, ?_⟩
        have h3 := mkT_nest (by simp; omega) hu
        have h4 := nestL_mem h'
        omega
    · simp at h2

theorem valT_deep (ts : List At) (k : Nat) (hk : k ≤ ts.length) (st : List T) (hb : bldT (ts.take k) = some st) (hd : ∃ t ∈ st, 12 < t.nest) : valT ts = none := by
  unfold valT
  split
  · split
    · rename_i t ht
      obtain ⟨u, hu, hn⟩ := deep_stays ts k st hb hd ts.length hk (Nat.le_refl _) [t] (by rw [List.take_length]; exact ht)
      simp at hu
      subst hu
      rw [if_neg (by omega)]
    · rfl
  · rfl
end Go.Proofs.YtamaioeikcjhoaaDoor
