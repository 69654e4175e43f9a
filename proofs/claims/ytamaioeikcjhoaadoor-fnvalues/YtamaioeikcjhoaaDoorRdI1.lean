/-
  impl's reader of forms: its box, its smallest steps.
-/
import Derived.Test.YtamaioeikcjhoaaDoorReadQ
import Derived.Test.YtamaioeikcjhoaaDoorShort
import Derived.Laws.BitsAllLaws
import Derived.Deep.AppendLies
import Derived.Deep.RegionLaw
import Derived.Shelf.RegionOpen
namespace Go.Proofs.YtamaioeikcjhoaaDoor
open Go.RowKit

/-- A fact that no tactic rewrites with. -/
structure RKeep (p : Prop) : Prop where
  out : p
/-- Bytes as a text. -/
def mkL (l : List UInt8) : ByteArray := ⟨l.toArray⟩
theorem mkL_size (l : List UInt8) : (mkL l).size = l.length := by show l.toArray.size = _; simp
theorem mkL_list (l : List UInt8) : (mkL l).data.toList = l := by show l.toArray.toList = l; simp
theorem mkL_toList (l : List UInt8) : (mkL l).toList = l := by rw [ByteArray.toList_eq, mkL_list]
theorem mkL_data (s : ByteArray) : mkL s.data.toList = s := by show (⟨s.data.toList.toArray⟩ : ByteArray) = s; simp
theorem mkL_drop (l : List UInt8) (k : Nat) : (mkL l).extract k l.length = mkL (l.drop k) := by
  apply WideShapes.bytes_inj
  rw [mkL_list, ByteArray.data_extract, mkL]
  simp
  exact List.take_of_length_le (by simp)
theorem mkL_take (l : List UInt8) (k : Nat) : (mkL l).extract 0 k = mkL (l.take k) := by
  apply WideShapes.bytes_inj
  rw [mkL_list, ByteArray.data_extract, mkL]
  simp
theorem mkL_get (l : List UInt8) (k : Nat) (_h : k < l.length) (h' : k < (mkL l).size) : (mkL l)[k] = l[k] := by
  rfl
theorem lt_of_cellR {W : World} {b j : Nat} {u : Value} (h : W.cell? ⟨b, j, none⟩ = some u) : b < W.heap.size := by
  rcases Nat.lt_or_ge b W.heap.size with h' | h'
  · exact h'
  · simp [World.cell?, Array.getElem?_eq_none h'] at h

def acells (xs : List At) : List Value := xs.flatMap At.cells
theorem acells_len (xs : List At) : (acells xs).length = xs.length * 4 := by
  induction xs with
  | nil => rfl
  | cons x xs ih => simp [acells, At.cells] at ih ⊢; omega
/-- The reader in its box. -/
structure RM (b : Nat) (W : World) (l : List UInt8) (v : Value) (xs : List At) : Prop where
  c0 : W.cell? ⟨b, 0, none⟩ = some (.string (mkL l))
  c1 : W.cell? ⟨b, 1, none⟩ = some v
  fz : ∀ j, W.frozen? ⟨b, j, none⟩ = false
  row : W.ownsRow (b + 1) 66 4 v xs.length (acells xs)
theorem RM.later {b : Nat} {W W' : World} {l : List UInt8} {v : Value} {xs : List At} (h : RM b W l v xs) (hb : Below W.heap.size W W') : RM b W' l v xs :=
  ⟨cell_later hb h.c0, cell_later hb h.c1, fun j => (hb.frozen (p := ⟨b, j, none⟩) (lt_of_cellR h.c0)).trans (h.fz j), owns_below h.row hb⟩
theorem RM.put {b : Nat} {W : World} {l : List UInt8} {v : Value} {xs : List At} (h : RM b W l v xs) (l' : List UInt8) : RM b (W.setCell ⟨b, 0, none⟩ (.string (mkL l'))) l' v xs := by
  refine ⟨World.cell?_setCell_same _ _ _ h.c0, (World.cell?_setCell_other _ _ _ _ (by simp)).trans h.c1, fun j => by simp [h.fz j], ?_⟩
  refine h.row.kept (row := some b) ⟨rfl, rfl, rfl, by simp, fun k _ hk => Below.heap_setCell _ _ _ _ (fun e => hk (by rw [e]))⟩ (Or.inr (fun e => ?_))
  have := owns_base h.row b e
  omega
def flt (why : ByteArray) : Value := .iface 45 (.agg #[.string why])

def OnePost (b : Nat) (W : World) (l : List UInt8) (v : Value) (xs : List At) (e : Ending) (W' : World) : Prop :=
  Below b W W' ∧ ((l = [] ∧ ∃ y, e = .returned (.tuple #[.int .u8 0, flt y])) ∨ (∃ c r, l = c :: r ∧ e = .returned (.tuple #[.int .u8 c.toNat, .nilIface]) ∧ RM b W' r v xs))

set_option maxRecDepth 20000 in
set_option maxHeartbeats 1000000 in
theorem oneByte_any (b : Nat) (W : World) (l : List UInt8) (v : Value) (xs : List At) (h : RM b W l v xs) :
    Calls Tryd.prog 50 #[.pointer (some ⟨b, 0, none⟩)] W fun e W' => OnePost b W l v xs e W' := by
  have c0 := h.c0
  have fz := h.fz
  cases l with
  | nil =>
    have hz : ((mkL []).toList == []) = true := by rw [mkL_toList]; rfl
    go_enter Tryd.func50, Tryd.ntmps50
    go_wp2
    refine bodyPost_ret (v := .tuple #[.int .u8 0, flt ⟨#[99, 117, 116, 32, 115, 104, 111, 114, 116]⟩]) ?_ rfl ⟨Below.refl _ _, .inl ⟨rfl, _, rfl⟩⟩
    go_light
    simp [results, Tryd.results50, go_sem, flt]
  | cons c r =>
    have hz : ((mkL (c :: r)).toList == []) = false := by rw [mkL_toList]; rfl
    have hsz := mkL_size (c :: r)
    have hlt : 0 < (mkL (c :: r)).size := by rw [hsz]; simp
    have hg : (mkL (c :: r))[0] = c := mkL_get (c :: r) 0 (by simp) hlt
    have hd : (mkL (c :: r)).extract 1 (mkL (c :: r)).size = mkL r := by rw [hsz, mkL_drop]; rfl
    have hP : RKeep (RM b (W.setCell ⟨b, 0, none⟩ (.string (mkL r))) r v xs) := ⟨h.put r⟩
    have hB : RKeep (Below b W (W.setCell ⟨b, 0, none⟩ (.string (mkL r)))) := ⟨(Below.refl _ _).setCell (p := ⟨b, 0, none⟩) (Nat.le_refl _) _⟩
    clear h hsz
    generalize mkL (c :: r) = s at *
    go_enter Tryd.func50, Tryd.ntmps50
    go_wp2
    refine bodyPost_ret (v := .tuple #[.int .u8 c.toNat, .nilIface]) ?_ rfl ⟨hB.out, .inr ⟨c, r, rfl, rfl, hP.out⟩⟩
    go_light
    simp [results, Tryd.results50, go_sem]

theorem RM.ne {b : Nat} {W : World} {l : List UInt8} {v : Value} {xs : List At} (h : RM b W l v xs) : v.ownBlock ≠ some b := fun e => by have := owns_base h.row b e; omega
theorem frozen_ofR {w w' : World} {g j : Nat} (h : w'.heap[g]? = w.heap[g]?) (hf : w.frozen? ⟨g, j, none⟩ = false) : w'.frozen? ⟨g, j, none⟩ = false := by
  unfold World.frozen? at hf ⊢
  simp only at hf ⊢
  rw [h]; exact hf
theorem RM.mid {b : Nat} {W W1 w2 : World} {l : List UInt8} {v : Value} {xs : List At} (s : RM b W l v xs) (hb : Below W.heap.size W W1) (hg : W1.grownBy w2 v.ownBlock) : w2.cell? ⟨b, 0, none⟩ = some (.string (mkL l)) ∧ w2.cell? ⟨b, 1, none⟩ = some v ∧ ∀ j, w2.frozen? ⟨b, j, none⟩ = false := by
  have s1 := s.later hb
  have hh := hg.block b (lt_of_cellR s1.c0) (fun e => s1.ne e.symm)
  exact ⟨(World.cell?_of_block hh).trans s1.c0, (World.cell?_of_block hh).trans s1.c1, fun j => frozen_ofR hh (s1.fz j)⟩
theorem acells_snoc (xs : List At) (a : At) : acells (xs ++ [a]) = acells xs ++ a.cells := by simp [acells]
theorem RM.append {b g2 cap2 : Nat} {W W1 w2 : World} {l : List UInt8} {v : Value} {xs : List At} {a : At} (s : RM b W l v xs) (hb : Below W.heap.size W W1) (hg : W1.grownBy w2 v.ownBlock) (hown : w2.ownsRow (b + 1) 66 4 (.slice (some ⟨g2, 0, none⟩) (xs.length + 1) cap2) (xs.length + 1) (acells xs ++ a.cells)) :
    RM b (w2.setCell ⟨b, 1, none⟩ (.slice (some ⟨g2, 0, none⟩) (xs.length + 1) cap2)) l (.slice (some ⟨g2, 0, none⟩) (xs.length + 1) cap2) (xs ++ [a]) ∧ Below b W (w2.setCell ⟨b, 1, none⟩ (.slice (some ⟨g2, 0, none⟩) (xs.length + 1) cap2)) := by
  obtain ⟨h0, h1, hf⟩ := s.mid hb hg
  have s1 := s.later hb
  have hne : (Value.slice (some ⟨g2, 0, none⟩) (xs.length + 1) cap2).ownBlock ≠ some b := fun e => by have := owns_base hown b e; omega
  have hbl : b < W.heap.size := lt_of_cellR s.c0
  refine ⟨⟨(World.cell?_setCell_other _ _ _ _ (by simp)).trans h0, World.cell?_setCell_same _ _ _ h1, fun j => (World.frozen?_setCell _ _ _ _).trans (hf j), ?_⟩, ?_⟩
  · rw [acells_snoc, List.length_append]
    exact hown.kept (row := some b) ⟨rfl, rfl, rfl, by simp, fun k _ hk => Below.heap_setCell _ _ _ _ (fun e => hk (by rw [e]))⟩ (Or.inr hne)
  · refine Below.setCell (p := ⟨b, 1, none⟩) ?_ (Nat.le_refl _) _
    exact (hb.mono (Nat.le_of_lt hbl)).grown hg (Nat.le_trans (Nat.le_of_lt hbl) hb.size) (fun j e => by have := owns_base s1.row j e; omega)
theorem news_4 (w : World) (e : At) (t : TypeId) (n : Nat) (hn : w.heap.size = n) : ∀ j u, e.cells[j]? = some u → (w.alloc (.cells #[.int .i64 e.kind, .int .i64 e.n, .string e.text, .int .i64 e.kids] t)).cell? (Addr.add ⟨n, 0, none⟩ j) = some u := by
  intro j u hj
  subst hn
  rw [Go.WideShapes.add_plain, Nat.zero_add, World.cell?_alloc_new]
  match j, hj with
  | 0, hj => simpa [At.cells] using hj
  | 1, hj => simpa [At.cells] using hj
  | 2, hj => simpa [At.cells] using hj
  | 3, hj => simpa [At.cells] using hj
theorem one_4 (e : At) : ∀ u ∈ e.cells, u.oneCell' = true := by
  intro u hu
  simp [At.cells] at hu
  rcases hu with rfl | rfl | rfl | rfl <;> rfl
def AddPost (b : Nat) (W : World) (l : List UInt8) (xs : List At) (a : At) (e : Ending) (W' : World) : Prop :=
  Below b W W' ∧ ((xs.length = 300 ∧ ∃ y, e = .returned (flt y)) ∨ (xs.length < 300 ∧ e = .returned .nilIface ∧ ∃ v', RM b W' l v' (xs ++ [a])))

set_option maxRecDepth 20000 in
set_option maxHeartbeats 1000000 in
theorem add_any (b : Nat) (W : World) (l : List UInt8) (v : Value) (xs : List At) (a : At) (h : RM b W l v xs) (hx : xs.length ≤ 300) :
    Calls Tryd.prog 62 #[.pointer (some ⟨b, 0, none⟩), .agg #[.int .i64 a.kind, .int .i64 a.n, .string a.text, .int .i64 a.kids]] W fun e W' => AddPost b W l xs a e W' := by
  obtain ⟨i0, hi, hz0, hz1, hzb⟩ := info_parts Tryd.infoAtom
  have hbW : b ≤ W.heap.size := Nat.le_of_lt (lt_of_cellR h.c0)
  have hA : Below W.heap.size W (W.alloc (.cells #[.int .i64 a.kind, .int .i64 a.n, .string a.text, .int .i64 a.kids] 66)) := (Below.refl _ _).alloc (Nat.le_refl _) _
  have hst := h.later hA
  have a0 : (W.alloc (.cells #[.int .i64 a.kind, .int .i64 a.n, .string a.text, .int .i64 a.kids] 66)).cell? ⟨W.heap.size, 0, none⟩ = some (.int .i64 a.kind) := by simp
  have a1 : (W.alloc (.cells #[.int .i64 a.kind, .int .i64 a.n, .string a.text, .int .i64 a.kids] 66)).cell? ⟨W.heap.size, 1, none⟩ = some (.int .i64 a.n) := by simp
  have a2 : (W.alloc (.cells #[.int .i64 a.kind, .int .i64 a.n, .string a.text, .int .i64 a.kids] 66)).cell? ⟨W.heap.size, 2, none⟩ = some (.string a.text) := by simp
  have a3 : (W.alloc (.cells #[.int .i64 a.kind, .int .i64 a.n, .string a.text, .int .i64 a.kids] 66)).cell? ⟨W.heap.size, 3, none⟩ = some (.int .i64 a.kids) := by simp
  obtain ⟨ad, cp, rfl⟩ := owns_slice h.row
  have c1 := hst.c1
  by_cases h300 : xs.length = 300
  · have hq : (xs.length : Int) = 300 := by omega
    have hq2 : ((xs.length : Int) == 300) = true := by simpa using hq
    have HQ : RKeep (xs.length = 300) := ⟨h300⟩
    clear h300
    go_enter Tryd.func62, Tryd.ntmps62
    go_wp2
    refine bodyPost_ret (v := flt ⟨#[116, 111, 111, 32, 109, 97, 110, 121, 32, 97, 116, 111, 109, 115]⟩) ?_ rfl ⟨hA.mono hbW, .inl ⟨HQ.out, _, rfl⟩⟩
    go_light
    simp [results, Tryd.results62, go_sem, flt]
  · have hq : ¬ (xs.length : Int) = 300 := by omega
    have hq2 : ((xs.length : Int) == 300) = false := by simpa using hq
    go_enter Tryd.func62, Tryd.ntmps62
    go_upto_region 3 with fail
    have hbA : RKeep (Below b W (W.alloc (.cells #[.int .i64 a.kind, .int .i64 a.n, .string a.text, .int .i64 a.kids] 66))) := ⟨hA.mono hbW⟩
    have hba : b < (W.alloc (.cells #[.int .i64 a.kind, .int .i64 a.n, .string a.text, .int .i64 a.kids] 66)).heap.size := lt_of_cellR hst.c0
    generalize W.alloc (.cells #[.int .i64 a.kind, .int .i64 a.n, .string a.text, .int .i64 a.kids] 66) = Wa at *
    generalize W.heap.size = ab at *
    have hb1 : Below Wa.heap.size Wa ((Wa.alloc (.cells #[.int .i64 a.kind, .int .i64 a.n, .string a.text, .int .i64 a.kids] 66)).drew) := ((Below.refl _ _).alloc (Nat.le_refl _) _).drew
    have o1a : ∀ o, (Wa.alloc o).cell? ⟨b, 1, none⟩ = some (.slice ad xs.length cp) := fun o => cell_later ((Below.refl _ _).alloc (Nat.le_refl _) _) c1
    go_region_law (refine step_append_lies _ rfl _ _ 22 rfl (b + 1) 66 i0 _ 4 40 Tryd.underlying22 hi hz0 hz1 hzb rfl (by decide) (.slice ad xs.length cp) xs.length (acells xs) rfl (by exact owns_below hst.row hb1) ⟨Wa.heap.size, 0, none⟩ 1 1 a.cells rfl rfl (by exact news_4 _ _ _ _ (by simp)) (by exact one_4 _) (by omega) (by unfold maxLen; omega) (by omega) (by simp; omega) (Wa.heap.size + 1) (by simp) ?_; intro g3 cap3 w3 hown3 hgrow3 hat3 hlt3; obtain ⟨hc0, hc3, hf3⟩ := hst.mid hb1 hgrow3)
    all_goals
      obtain ⟨hst3, hbb3⟩ := hst.append hb1 hgrow3 hown3
      have HP : RKeep (AddPost b W l xs a (.returned .nilIface) (w3.setCell ⟨b, 1, none⟩ (.slice (some ⟨g3, 0, none⟩) (xs.length + 1) cap3))) := ⟨hbA.out.trans hbb3, .inr ⟨by omega, rfl, _, hst3⟩⟩
      clear hst hb1 hgrow3 hown3 hat3 hlt3 hc3 hf3 hc0 o1a hst3 hbb3
      go_wp2
      refine bodyPost_ret (v := .nilIface) ?_ rfl HP.out
      go_light
      simp [results, Tryd.results62, go_sem]
end Go.Proofs.YtamaioeikcjhoaaDoor
