/-
  LinesP, LinesB, TxtL, NearP, LinesS: laid as one text.
-/
import Derived.Test.YtockgapdfcapnaaRows
import Derived.WalkKit
import Derived.Lib.CutLaws
import Derived.Lib.IndexLaws
import Derived.Test.YtockgapdfcapnaaBase
import Derived.Test.YtockgapdfcapnaaStrsB
import Derived.Test.YtockgapdfcapnaaDrawS5
namespace Go.Proofs.Ytockgapdfcapnaa
open Go.RowKit Go.Lib

/-- A fact that the walk does not read. -/
structure LKeep (p : Prop) : Prop where
  out : p

def linesL : List UInt8 → List (List UInt8)
  | [] => []
  | c :: cs => if c = 10 then [c] :: linesL cs else match linesL cs with
    | [] => [[c]]
    | p :: ps => (c :: p) :: ps

theorem linesL_nil {l : List UInt8} (h : linesL l = []) : l = [] := by
  cases l with
  | nil => rfl
  | cons c cs =>
    unfold linesL at h
    split at h
    · simp at h
    · split at h <;> simp at h

theorem linesL_none : ∀ (l : List UInt8), l ≠ [] → (∀ k : Nat, l[k]? ≠ some 10) → linesL l = [l]
  | [], h, _ => absurd rfl h
  | c :: cs, _, h => by
    have hc : c ≠ 10 := fun e => h 0 (by simp [e])
    rw [linesL, if_neg hc]
    cases cs with
    | nil => rfl
    | cons d ds =>
      rw [linesL_none (d :: ds) (by simp) (fun k => by have := h (k + 1); simpa using this)]

theorem linesL_at : ∀ (l : List UInt8) (o : Nat), l[o]? = some 10 → (∀ k, k < o → l[k]? ≠ some 10) → linesL l = l.take (o + 1) :: linesL (l.drop (o + 1))
  | [], o, h, _ => by simp at h
  | c :: cs, 0, h, _ => by
    have hc : c = 10 := by simpa using h
    rw [linesL, if_pos hc]
    simp
  | c :: cs, o + 1, h, hk => by
    have hc : c ≠ 10 := fun e => hk 0 (by omega) (by simp [e])
    have ih := linesL_at cs o (by simpa using h) (fun k hlt => by have := hk (k + 1) (by omega); simpa using this)
    rw [linesL]
    rw [if_neg hc, ih]
    simp

theorem linesL_flat : ∀ (l : List UInt8), (linesL l).flatten = l
  | [] => rfl
  | c :: cs => by
    have ih := linesL_flat cs
    unfold linesL
    split
    · simp [ih]
    · split
      · rename_i h; rw [h] at ih; simp at ih ⊢; exact ih
      · rename_i p ps h; rw [h] at ih; simp at ih ⊢; exact ih

theorem linesL_le : ∀ (l : List UInt8), (linesL l).length ≤ l.length
  | [] => Nat.le_refl _
  | c :: cs => by
    have ih := linesL_le cs
    unfold linesL
    split
    · simp; omega
    · split
      · simp
      · rename_i p ps h; rw [h] at ih; simp at ih ⊢; omega

def lnB (l : List UInt8) : ByteArray := ⟨l.toArray⟩
theorem lnB_data (s : ByteArray) : lnB s.data.toList = s := by cases s; simp [lnB]
theorem lnB_list (l : List UInt8) : (lnB l).data.toList = l := by simp [lnB]
theorem lnB_size (l : List UInt8) : (lnB l).size = l.length := by simp [lnB, ByteArray.size]
theorem lnB_inj {x y : List UInt8} (h : lnB x = lnB y) : x = y := by rw [← lnB_list x, h, lnB_list]

def linesB (s : ByteArray) : List ByteArray := (linesL s.data.toList).map lnB
theorem linesB_le (s : ByteArray) : (linesB s).length ≤ s.size := by
  have := linesL_le s.data.toList
  rw [linesB, List.length_map]
  rw [← Lib.size_eq] at this
  exact this

theorem extract_lnB (s : ByteArray) (i j : Nat) : s.extract i j = lnB ((s.data.toList.drop i).take (j - i)) := by
  rw [Lib.extract_eq]
  rfl

theorem nl_cases (s : ByteArray) : Lib.indexByte s.data.toList 10 = -1 ∨ ∃ i : Nat, Lib.indexByte s.data.toList 10 = i ∧ i + 1 ≤ s.size := by
  have h := Lib.indexB_cases s ⟨#[10]⟩
  have e : Lib.indexB s ⟨#[10]⟩ = Lib.indexByte s.data.toList 10 := Lib.index_one s.data.toList 10
  rw [e] at h
  exact h

theorem linesB_last {s : ByteArray} (h : Lib.indexByte s.data.toList 10 = -1) (hs : 0 < s.size) : linesB s = [s] := by
  have hn := Lib.indexByte_none h
  rw [linesB, linesL_none _ (fun e => by rw [Lib.size_eq, e] at hs; simp at hs) hn]
  simp [lnB_data]
theorem linesB_none : linesB ⟨#[]⟩ = [] := rfl
theorem linesB_cut {s : ByteArray} {i : Nat} (h : Lib.indexByte s.data.toList 10 = i) : linesB s = s.extract 0 (i + 1) :: linesB (s.extract (i + 1) s.size) := by
  obtain ⟨h1, h2⟩ := Lib.indexByte_some h
  have e4 : (lnB ((s.data.toList.drop (i + 1)).take (s.size - (i + 1)))).data.toList = s.data.toList.drop (i + 1) := by
    rw [lnB_list]
    exact List.take_of_length_le (by rw [List.length_drop, ← Lib.size_eq]; exact Nat.le_refl _)
  rw [linesB, linesL_at _ i h1 h2, extract_lnB, extract_lnB, linesB, e4]
  simp
theorem line_size {s x : ByteArray} (h : x ∈ linesB s) : x.size ≤ s.size := by
  obtain ⟨q, hq, rfl⟩ := List.mem_map.1 h
  rw [lnB_size, Lib.size_eq]
  have := linesL_flat s.data.toList
  have hs := List.sublist_flatten_of_mem hq
  rw [this] at hs
  exact hs.length_le
theorem sub_flat {l1 l2 : List (List UInt8)} (h : List.Sublist l1 l2) : l1.flatten.length ≤ l2.flatten.length := by
  induction h with
  | slnil => exact Nat.le_refl _
  | cons a _ ih => simp only [List.flatten_cons, List.length_append]; omega
  | cons_cons a _ ih => simp only [List.flatten_cons, List.length_append]; omega
end Go.Proofs.Ytockgapdfcapnaa

namespace Go.Proofs.Ytockgapdfcapnaa
open Go.RowKit

def LinesPost (ss : List ByteArray) (w : World) (e : Ending) (w' : World) : Prop :=
  ∃ ad cp, e = .returned (.slice ad ss.length cp) ∧ w'.ownsRow w.heap.size 9 1 (.slice ad ss.length cp) ss.length (ss.map .string) ∧ Below w.heap.size w w'

theorem owns_low {w : World} {b b' : Nat} {e : TypeId} {size : Nat} {v : Value} {n : Nat} {xs : List Value} (h : w.ownsRow b e size v n xs) (hb : b' ≤ b) : w.ownsRow b' e size v n xs := by
  refine ⟨h.1, ?_⟩
  rcases h.2 with h' | ⟨g, cap, cur, hv, k1, k2, k3⟩
  · exact .inl h'
  · exact .inr ⟨g, cap, cur, hv, Nat.le_trans hb k1, k2, k3⟩
def linesT (s : ByteArray) : List ByteArray := if s.size ≤ 1500 then linesB s else []
theorem linesT_le (s : ByteArray) : (linesT s).length ≤ 1500 := by
  unfold linesT
  split
  · have := linesB_le s; omega
  · simp
end Go.Proofs.Ytockgapdfcapnaa

namespace Go.Proofs.Ytockgapdfcapnaa
open Go.RowKit

/-- A slice of lines that is read. -/
structure RdL (w : World) (v : Value) (ls : List ByteArray) : Prop where
  at_ : ∃ a cap, v = .slice a ls.length cap ∧ ls.length ≤ cap ∧ SS w a ls
theorem RdL.below {w w' : World} {v : Value} {ls : List ByteArray} (h : RdL w v ls) (hb : Below w.heap.size w w') : RdL w' v ls := by
  obtain ⟨a, cap, e, hc, hp⟩ := h.at_
  exact ⟨a, cap, e, hc, hp.below hb⟩

set_option maxRecDepth 100000 in
/-- A stretch of a slice of lines. -/
theorem mid_at {w : World} {a : Option Addr} {cap : Nat} {ls : List ByteArray} {i j : Nat} (hc : ls.length ≤ cap) (h : SS w a ls) (hij : i ≤ j) (hj : j ≤ ls.length) :
    ∃ v, (∀ w1, (Instr.sliceAt 23 (.slice a ls.length cap) (some (.int .i64 (i : Int))) (some (.int .i64 (j : Int))) none).run Try.prog w1 = .ok v w1) ∧ RdL w v ((ls.take j).drop i) := by
  refine ⟨sliced a i j cap 1, fun w1 => ?_, ⟨?_⟩⟩
  · rw [run_sliceAt_slice w1 _ _ _ _ _ Try.underlying23, run_slice_lh w1 _ _ _ _ Try.underlying23 .i64 .i64 i j (by omega) (by omega) (by omega)]
    have hz : (sizeOf (Try.prog.elem 23)).run Try.prog w1 = .ok 1 w1 := by kernel_rfl
    rw [hz]
    rfl
  · have hl : ((ls.take j).drop i).length = j - i := by simp; omega
    refine ⟨if cap = i then a else a.map (·.add (i * 1)), cap - i, ?_, by rw [hl]; omega, ?_⟩
    · unfold sliced
      rw [hl]
    · by_cases h0 : j - i = 0
      · left
        exact List.eq_nil_of_length_eq_zero (by omega)
      · obtain ⟨b, o, rfl, hcell⟩ := h.at (k := 0) (by omega)
        right
        refine ⟨b, o + i, ?_, fun k hk => ?_⟩
        · rw [if_neg (by omega)]
          simp [Addr.add]
        · rw [hl] at hk
          have := hcell (i + k) (by omega)
          rw [show o + i + k = o + (i + k) by omega, this]
          simp

theorem Try.infoByteM : (Try.prog.info? 5).map (fun i => (i.zero, i.size, i.bytes)) = some (some (.int .u8 0), 1, 1) := by kernel_rfl

theorem conv_bk {w : World} {base : Nat} {v : Value} {l : List UInt8} {n : Nat} {xs : List Value} (hn : n = l.length) (hx : xs = bc l) (h : w.ownsRow base 5 1 v n xs) : (convert 22 9 v).run Try.prog w = .ok (.string (lnB l)) w := by
  subst hn hx
  rcases h.2 with ⟨hv, h0⟩ | ⟨g, cap, cur, hv, _⟩
  · obtain rfl : l = [] := List.eq_nil_of_length_eq_zero h0
    subst hv
    exact run_convert_bytes_nil (P := Try.prog) w 22 5 Try.underlying22 Try.underlying5 0 0 9 Try.underlying9
  · subst hv
    exact run_convert_bytes_back (P := Try.prog) w 22 9 5 ⟨g, 0, none⟩ cap l Try.underlying22 Try.underlying5 Try.underlying9 (fun j hj => by
      rw [Go.WideShapes.add_plain, Nat.zero_add, h.cellAt j (by omega)]
      simp [bc, hj])

/-- Lines, one behind the other. -/
def catL (ls : List ByteArray) : List UInt8 := (ls.map (fun l => l.data.toList)).flatten
theorem catL_take {ls : List ByteArray} {k : Nat} (h : k < ls.length) : catL (ls.take (k + 1)) = catL (ls.take k) ++ ls[k].data.toList := by
  unfold catL
  rw [List.take_succ_eq_append_getElem h, List.map_append, List.flatten_append]
  simp only [List.map_cons, List.map_nil, List.flatten_cons, List.flatten_nil, List.append_nil]
theorem catL_le (ls : List ByteArray) (k : Nat) : (catL (ls.take k)).length ≤ (catL ls).length := sub_flat ((List.take_sublist k ls).map _)

set_option maxRecDepth 20000 in
set_option maxHeartbeats 2000000 in
theorem l7Text_any (v : Value) (ls : List ByteArray) (w : World) (h : RdL w v ls) (hl : ls.length ≤ 100000) (hs : (catL ls).length ≤ 1000000) :
    Calls Try.prog 65 #[v] w fun e w' => e = .returned (.string (lnB (catL ls))) ∧ Below w.heap.size w w' := by
  obtain ⟨ti, hti, hz0, hz1, hz2⟩ := info_parts Try.infoByteM
  obtain ⟨a, cap, rfl, hc, hss⟩ := h.at_
  have hnil : (w.alloc (.cells #[] 5)).ownsRow w.heap.size 5 1 (.slice (some ⟨w.heap.size, 0, none⟩) 0 0) 0 [] := ⟨by simp, .inr ⟨w.heap.size, 0, #[], rfl, Nat.le_refl _, heap_alloc_new w _, Nat.le_refl _, by unfold maxLen; omega, rfl, by simp⟩⟩
  go_enter Try.func65, Try.ntmps65
  go_wp2
  go_loopw [3, 4] (fun v i wr => ∃ k : Nat, k ≤ ls.length ∧ i = .int .i64 (k : Int) ∧ wr.ownsRow w.heap.size 5 1 v (catL (ls.take k)).length (bc (catL (ls.take k))) ∧ Below w.heap.size w wr) (fun _ i _ => ls.length - (intOf i).toNat)
  case atStart => exact ⟨0, Nat.zero_le _, rfl, by rw [List.take_zero]; exact hnil, (Below.refl _ _).alloc (Nat.le_refl _) _⟩
  case round =>
    obtain ⟨k, hk, rfl, hown, hb⟩ := hrel
    have hbs := hb.size
    by_cases hlt : k < ls.length
    · obtain ⟨b, off, rfl, hcl⟩ := (hss.below hb).at hlt
      have hck := hcl k hlt
      have HT : LKeep (catL (ls.take (k + 1)) = catL (ls.take k) ++ ls[k].data.toList) := ⟨catL_take hlt⟩
      have h1 := catL_le ls k
      have h2 := catL_le ls (k + 1)
      rw [HT.out, List.length_append, ← Lib.size_eq] at h2
      clear hcl
      go_wp2_with (at_builtin; refine Go.Lib.wpList_append_own_string _ rfl _ _ 22 9 rfl w.heap.size 5 ti Try.underlying22 Try.underlying9 hti hz0 hz1 hz2 _ _ _ rfl hown ls[k] rfl (by unfold maxLen; omega) (by omega) (by omega) ?_; intro v2 w2 hown2 hgrow2 _)
      go_roundw
      case rel =>
        refine ⟨k + 1, by omega, by go_num, ?_, hb.grown hgrow2 hbs (owns_base hown)⟩
        rw [HT.out, List.length_append, bc_append, ← Lib.size_eq]
        exact hown2
      case measure => simp [intOf]; omega
    · obtain rfl : k = ls.length := by omega
      rw [List.take_length] at hown
      have hcv := conv_bk rfl rfl hown
      go_wp2
      go_ret
      exact ⟨rfl, hb⟩
theorem catL_lines (s : ByteArray) : catL (linesB s) = s.data.toList := by
  unfold catL linesB
  rw [List.map_map]
  have : ((fun l : ByteArray => l.data.toList) ∘ lnB) = id := by funext l; exact lnB_list l
  rw [this, List.map_id, linesL_flat]
end Go.Proofs.Ytockgapdfcapnaa

namespace Go.Proofs.Ytockgapdfcapnaa
open Go.RowKit

set_option maxHeartbeats 1000000 in
theorem pick_zero (g : Nat) (a : Option Addr) (cap : Nat) (zs : List Int) (p : Nat) (w : World) (h : Rd w g a cap zs p) (hp : p ≤ 1000000000) :
    Calls Try.prog 25 #[.pointer (some ⟨g, 0, none⟩), .int .i64 0] w fun e w' => e = .returned (.int .i64 0) ∧ w.grownBy w' (some g) ∧ Rd w' g a cap zs (p + 1) := by
  have hR := h.set
  obtain ⟨hby, hlen, hwf, c0, c1, f1⟩ := h
  go_enter Try.func25, Try.ntmps25
  go_wp2
  go_ret
  exact ⟨rfl, grown_set _ _ _ _, hR⟩
theorem pick_le (g : Nat) (a : Option Addr) (cap : Nat) (zs : List Int) (p m : Nat) (w : World) (h : Rd w g a cap zs p) (hm2 : m ≤ 1000000) (hp : p ≤ 1000000000) :
    Calls Try.prog 25 #[.pointer (some ⟨g, 0, none⟩), .int .i64 m] w fun e w' => ∃ x : Nat, e = .returned (.int .i64 x) ∧ (0 < m → x < m) ∧ x ≤ 1000000 ∧ w.grownBy w' (some g) ∧ Rd w' g a cap zs (p + 1) := by
  by_cases h0 : m = 0
  · subst h0
    exact (pick_zero g a cap zs p w h hp).mono (fun e w' ⟨h1, h2, h3⟩ => ⟨0, h1, fun h => by omega, by omega, h2, h3⟩)
  · exact (pick_any g a cap zs p m w h (by omega) hm2 hp).mono (fun e w' ⟨x, h1, h2, h3, h4⟩ => ⟨x, h1, fun _ => h2, by omega, h3, h4⟩)

/-- An append, at a step of a region that draws, by what it comes to. -/
theorem step_append_run {ops : Array Oper} {o : Oper} {a : Act} {K : Act → World → Prop} {Q : Exit → Act → World → Prop} {E : Prop} {w : World} (hgd : o.guard = none) (s x : Operand) (t : TypeId) (ho : o.op = .call { callee := .builtin .append, args := #[s, x], argTypes := #[t, t] })
    (v u : Value) (hs : a.eval s = v) (hx : a.eval x = u) (R : Value → World → Prop) (hr : ∀ ty, ∃ v' w', (Builtin.append_ #[t, t] ty #[v, u]).run Try.prog w = .ok v' w' ∧ R v' w') (h : ∀ v' w', R v' w' → K (a.put o.dst v') w') :
    if Region.wanted o (yielded ops a.tmps) = true then Oper.wp Try.prog o a w K Q else E := by
  rw [if_pos (by simp [Region.wanted, hgd])]
  obtain ⟨v', w', hr, h2⟩ := hr o.type
  unfold Oper.wp execOp
  simp only [ho, resolve, invoke, builtin, Sem.run_bind, Sem.run_pure, Result.andThen_ok, List.map_toArray, List.map_cons, List.map_nil, hs, hx, hr]
  exact h v' w' h2

section
variable {g : Nat} {a : Option Addr} {cap : Nat} {zs : List Int} {w : World} {rs tb : Nat} {ad ad' : Option Addr} {cp cp' : Nat} {ts us : List En} {p p' : Nat} {W W' : World} {H0 gb : Nat} {v : Value} {xs : List En}
/-- A row that is not ours is turned. -/
theorem LD6.other {row : Option Nat} (h : LD6 g a cap zs w rs tb ad cp ts p W) (hg : W.grownBy W' row) (hr : ∀ j, row = some j → tb < j ∧ (ts = [] ∨ blk ad ≠ some j)) : LD6 g a cap zs w rs tb ad cp ts p W' := by
  have o := h.ord
  have b1 := hg.block rs h.ltr (fun e => by have := hr rs e.symm; omega)
  have b2 := hg.block tb h.lt (fun e => by have := hr tb e.symm; omega)
  refine ⟨h.rd.kept hg (fun k e => by have := hr k e; omega), gr_own h.gr hg (fun j e => by have := hr j e; omega), (World.cell?_of_block b1).trans h.rc, fz_blk b1 h.rf, (World.cell?_of_block b2).trans h.tc, fz_blk b2 h.tf, ?_, h.ap, o⟩
  rcases h.ap with h0 | _
  · subst h0; exact EL.nil _ _ _
  · by_cases hn : ts = []
    · subst hn; exact EL.nil _ _ _
    · exact h.el.grown hg (fun k hk _ _ e => by
        rcases (hr k e.symm).2 with h0 | h0
        · exact hn h0
        · exact h0 hk)

/-- A row in the making, beside the tree. -/
structure Mk (H0 g : Nat) (a : Option Addr) (cap : Nat) (zs : List Int) (w : World) (rs tb gb cp : Nat) (ts : List En) (p : Nat) (v : Value) (xs : List En) (W : World) : Prop where
  ld : LD6 g a cap zs w rs tb (some ⟨gb, 0, none⟩) cp ts p W
  own : W.ownsRow (rs + 1) 72 3 v xs.length (ecells xs)
  new : ∀ j, v.ownBlock = some j → H0 ≤ j
  old : gb < H0 ∧ tb < H0
  sz : H0 ≤ W.heap.size
theorem Mk.start (h : LD6 g a cap zs w rs tb (some ⟨gb, 0, none⟩) cp ts p W) (hgb : gb < W.heap.size) : Mk W.heap.size g a cap zs w rs tb gb cp ts p (.slice (some ⟨W.heap.size, 0, none⟩) 0 0) [] (W.alloc (.cells #[] 72)).drew := by
  have hb : Below (W.alloc (.cells #[] 72)).heap.size (W.alloc (.cells #[] 72)) (W.alloc (.cells #[] 72)).drew := (Below.refl _ _).drew
  exact ⟨(h.al _).drew, owns_below (own_none W (rs + 1) h.ltr) hb, fun j e => by simp [Value.ownBlock] at e; omega, ⟨hgb, h.lt⟩, by simp⟩
theorem mk_app (i0 : TypeInfo) (z : Value) (hi : Try.prog.info? 72 = some i0) (hz : i0.zero = some z) (hsz : i0.size = 3) (hby : i0.bytes = 40) (hzs : z.cells.size = 3) (h : Mk H0 g a cap zs w rs tb gb cp ts p v xs W) (ad2 : Addr) (c : Nat) (us : List En) (hnews : ∀ j u, (ecells us)[j]? = some u → W.cell? (ad2.add j) = some u) (hl : xs.length + us.length ≤ 1000) (ty : TypeId) :
    ∃ v' W', (Builtin.append_ #[30, 30] ty #[v, .slice (some ad2) us.length c]).run Try.prog W = .ok v' W' ∧ (∃ ad3 cp3, v' = .slice ad3 (xs ++ us).length cp3 ∧ Mk H0 g a cap zs w rs tb gb cp ts p (.slice ad3 (xs ++ us).length cp3) (xs ++ us) W') := by
  obtain ⟨v', W', hr, ho, hg, _, hat⟩ := run_append_own_at (P := Try.prog) W (rs + 1) 30 ty 72 i0 z 3 40 Try.underlying30 hi hz hsz hby hzs (by decide) v xs.length (ecells xs) h.own ad2 us.length c (ecells us) (ecells_len us) hnews (ecells_one us) (by unfold maxLen; omega) (by omega) (by have := h.ld.ltr; omega)
  have ho2 : W'.ownsRow (rs + 1) 72 3 v' (xs ++ us).length (ecells (xs ++ us)) := by
    rw [List.length_append, show ecells (xs ++ us) = ecells xs ++ ecells us by simp [ecells]]
    exact ho
  obtain ⟨ad3, cp3, rfl⟩ := owns_slice ho2
  have o := h.old
  refine ⟨_, W', hr, ad3, cp3, rfl, h.ld.other hg (fun j e => by have := h.new j e; exact ⟨by omega, .inr (fun e2 => by simp [blk] at e2; omega)⟩), ho2, fun j e => ?_, o, Nat.le_trans h.sz hg.size⟩
  rcases hat with h2 | h2
  · exact h.new j (by rw [← h2]; exact e)
  · rw [h2] at e; cases e; exact h.sz
theorem el_news {B gb : Nat} (h : EL B W (some ⟨gb, 0, none⟩) ts) (k m : Nat) : ∀ j u, (ecells ((ts.drop k).take m))[j]? = some u → W.cell? ((⟨gb, k * 3, none⟩ : Addr).add j) = some u := by
  refine es_news (fun i hi => ?_)
  have hi2 : k + i < ts.length := by simp at hi; omega
  rcases h with h | ⟨g', e, _, _, _, h4⟩
  · subst h; simp at hi2
  · cases e
    have h5 := h4 (k + i) hi2
    rw [List.getElem_take, List.getElem_drop, show k * 3 + i * 3 = (k + i) * 3 by omega]
    exact h5
set_option maxRecDepth 100000 in
theorem cut_lo (gb cp n k : Nat) (hk : k ≤ cp) (hc : 0 < cp) (w1 : World) : (Instr.sliceAt 30 (.slice (some ⟨gb, 0, none⟩) n cp) none (some (.int .i64 (k : Int))) none).run Try.prog w1 = .ok (.slice (some ⟨gb, 0, none⟩) k cp) w1 := by
  rw [run_sliceAt_slice w1 _ _ _ _ _ Try.underlying30, run_slice_h w1 _ _ _ _ Try.underlying30 .i64 (k : Int) (by omega) (by omega)]
  have hz : (sizeOf (Try.prog.elem 30)).run Try.prog w1 = .ok 3 w1 := by kernel_rfl
  rw [hz, show (k : Int).toNat = k by omega]
  show Result.ok (sliced (some ⟨gb, 0, none⟩) 0 k cp 3) w1 = _
  unfold sliced
  rw [if_neg (by omega)]
  rfl
set_option maxRecDepth 100000 in
theorem cut_hi (gb cp : Nat) (ts : List En) (k : Nat) (hk : k < ts.length) (hc : ts.length ≤ cp) : ∃ adB nB cB, Keep (nB = (ts.drop (k + 1)).length) ∧ (∀ w1, (Instr.sliceAt 30 (.slice (some ⟨gb, 0, none⟩) ts.length cp) (some (.int .i64 ((k : Int) + 1))) none none).run Try.prog w1 = .ok (.slice (some adB) nB cB) w1) ∧ ∀ (B : Nat) (W : World), EL B W (some ⟨gb, 0, none⟩) ts → ∀ j u, (ecells (ts.drop (k + 1)))[j]? = some u → W.cell? (adB.add j) = some u := by
  have hrun : ∀ w1, (Instr.sliceAt 30 (.slice (some ⟨gb, 0, none⟩) ts.length cp) (some (.int .i64 ((k : Int) + 1))) none none).run Try.prog w1 = .ok (sliced (some ⟨gb, 0, none⟩) (k + 1) ts.length cp 3) w1 := fun w1 => by
    rw [run_sliceAt_slice w1 _ _ _ _ _ Try.underlying30, run_slice_l w1 _ _ _ _ Try.underlying30 .i64 ((k : Int) + 1) (by omega) (by omega)]
    have hz : (sizeOf (Try.prog.elem 30)).run Try.prog w1 = .ok 3 w1 := by kernel_rfl
    rw [hz, show ((k : Int) + 1).toNat = k + 1 by omega]
    rfl
  by_cases hcp : cp = k + 1
  · refine ⟨⟨gb, 0, none⟩, ts.length - (k + 1), cp - (k + 1), ⟨by rw [List.length_drop]⟩, fun w1 => ?_, fun B W _ j u hu => ?_⟩
    · rw [hrun w1]
      unfold sliced
      rw [if_pos hcp]
    · have hn : ts.drop (k + 1) = [] := List.drop_of_length_le (by omega)
      rw [hn] at hu
      simp [ecells] at hu
  · refine ⟨⟨gb, (k + 1) * 3, none⟩, ts.length - (k + 1), cp - (k + 1), ⟨by rw [List.length_drop]⟩, fun w1 => ?_, fun B W hE j u hu => ?_⟩
    · rw [hrun w1]
      unfold sliced
      rw [if_neg hcp]
      simp [Addr.add]
    · refine el_news hE (k + 1) ts.length j u ?_
      rw [List.take_of_length_le (by rw [List.length_drop]; omega)]
      exact hu
theorem Mk.store {ad3 : Option Addr} {cp3 : Nat} (h : Mk H0 g a cap zs w rs tb gb cp ts p (.slice ad3 xs.length cp3) xs W) : LD6 g a cap zs w rs tb ad3 cp3 xs p (W.setCell ⟨tb, 0, none⟩ (.slice ad3 xs.length cp3)) ∧ xs.length ≤ cp3 ∧ NilOk ad3 cp3 := by
  refine ⟨h.ld.put (el_of_row h.own) ?_, row_room h.own, ?_⟩
  · cases ad3 with
    | none => exact .inr (fun e => by simp [blk] at e)
    | some x =>
      refine .inr (fun e => ?_)
      have := h.new tb (by simpa [Value.ownBlock, blk] using e)
      have := h.old
      omega
  · rcases h.own.2 with ⟨h0, _⟩ | ⟨_, _, _, h0, _⟩
    · obtain ⟨rfl, _, rfl⟩ : ad3 = none ∧ xs.length = 0 ∧ cp3 = 0 := by simpa using h0
      exact .inr ⟨rfl, rfl⟩
    · cases h0; exact .inl ⟨_, rfl⟩

/-- The same, behind a world of some size. -/
structure QN (lo g : Nat) (a : Option Addr) (cap : Nat) (zs : List Int) (w : World) (rs tb : Nat) (ad : Option Addr) (cp : Nat) (ts : List En) (p : Nat) (W : World) : Prop where
  ld : LD6 g a cap zs w rs tb ad cp ts p W
  sz : lo ≤ W.heap.size
theorem QN.step {lo : Nat} (h : QN lo g a cap zs w rs tb ad cp ts p W) (hg : W.grownBy W' (some g)) (hR : Rd W' g a cap zs p') : QN lo g a cap zs w rs tb ad cp ts p' W' := ⟨h.ld.step hg hR, Nat.le_trans h.sz hg.size⟩
theorem QN.al {lo : Nat} (h : QN lo g a cap zs w rs tb ad cp ts p W) (o : Obj) : QN lo g a cap zs w rs tb ad cp ts p (W.alloc o) := ⟨h.ld.al o, Nat.le_trans h.sz (by simp)⟩
theorem QN.drew {lo : Nat} (h : QN lo g a cap zs w rs tb ad cp ts p W) : QN lo g a cap zs w rs tb ad cp ts p W.drew := ⟨h.ld.drew, h.sz⟩

/-- Behind spec.Put in a region that draws. -/
def CutN (g : Nat) (a : Option Addr) (cap : Nat) (zs : List Int) (w : World) (rs tb : Nat) (ad : Option Addr) (cp : Nat) (ts : List En) (P T p : Nat) (pv cc : Value) (W : World) : Prop :=
  ∃ us c ad' cp' nc p2 en, pv = .pointer (some ⟨nc, 0, none⟩) ∧ cc = .int .i64 c ∧ Tiny P T [en] ∧ PutR ts en us c ∧ EL (tb + 1) W ad' us ∧ us.length ≤ cp' ∧ W.cell? ⟨nc, 0, none⟩ = some (.slice ad' us.length cp') ∧ LD6 g a cap zs w rs tb ad cp ts p2 W ∧ p2 ≤ p
theorem cutN_mk {P T p p2 : Nat} {c : Int} {en : En} {B : Nat} (he : Tiny P T [en]) (hR : PutR ts en us c) (hel : EL B W ad' us) (hroom : us.length ≤ cp') (hB : tb < B) (hl : LD6 g a cap zs w rs tb ad cp ts p2 W) (hp : p2 ≤ p) :
    CutN g a cap zs w rs tb ad cp ts P T p (.pointer (some ⟨W.heap.size, 0, none⟩)) (.int .i64 c) (W.alloc (.cells #[.slice ad' us.length cp'] 32)) :=
  ⟨us, c, ad', cp', W.heap.size, p2, en, rfl, rfl, he, hR, (hel.below (below_oneD _ _)).mono hB, hroom, by simp, hl.al _, hp⟩
theorem cutN_mk' {P T p p2 : Nat} {c : Int} {en : En} {B nc : Nat} (he : Tiny P T [en]) (hR : PutR ts en us c) (hel : EL B W ad' us) (hroom : us.length ≤ cp') (hB : tb < B) (hl : LD6 g a cap zs w rs tb ad cp ts p2 W) (hp : p2 ≤ p) {lo : Nat} (N : NC lo nc W) (hn : nc < B) (hlo : tb < lo) (hap : ts = [] ∨ ∃ k, blk ad = some k ∧ k < lo) :
    CutN g a cap zs w rs tb ad cp ts P T p (.pointer (some ⟨nc, 0, none⟩)) (.int .i64 c) (W.setCell ⟨nc, 0, none⟩ (.slice ad' us.length cp')) := by
  have hg : W.grownBy (W.setCell ⟨nc, 0, none⟩ (.slice ad' us.length cp')) (some nc) := grown_set W nc 0 _
  have o := hl.ord
  have lo := N.lo
  refine ⟨us, c, ad', cp', nc, p2, en, rfl, rfl, he, hR, (hel.grown hg (fun k _ hk _ e => by cases e; omega)).mono hB, hroom, World.cell?_setCell_same _ _ _ N.cell, hl.other hg (fun j e => by
    cases e
    refine ⟨by omega, ?_⟩
    rcases hap with h | ⟨k0, h1, h2⟩
    · exact .inl h
    · exact .inr (fun e2 => by rw [h1] at e2; cases e2; omega)), hp⟩
theorem EL.setRuns {B gb k : Nat} {s : Bool} (h : EL B W (some ⟨gb, 0, none⟩) ts) (hk : k < ts.length) : EL B (W.setCell ⟨gb, k * 3 + 2, none⟩ (.bool s)) (some ⟨gb, 0, none⟩) (ts.set k ⟨ts[k].path, ts[k].text, s⟩) := by
  rcases h with h | ⟨g', e, h1, h2, h3, h4⟩
  · subst h; simp at hk
  · cases e
    have hne : ∀ i j : Nat, i ≠ j → (⟨gb, i, none⟩ : Addr) ≠ ⟨gb, j, none⟩ := fun i j h e => h (by injection e)
    refine .inr ⟨gb, rfl, h1, by simpa using h2, fun j => (World.frozen?_setCell _ _ _ _).trans (h3 j), fun i hi => ?_⟩
    have hi' : i < ts.length := by simpa using hi
    obtain ⟨c0, c1, c2⟩ := h4 i hi'
    by_cases e : i = k
    · subst e
      rw [List.getElem_set_self]
      exact ⟨by rw [World.cell?_setCell_other _ _ _ _ (hne _ _ (by omega))]; exact c0, by rw [World.cell?_setCell_other _ _ _ _ (hne _ _ (by omega))]; exact c1, World.cell?_setCell_same _ _ _ c2⟩
    · rw [List.getElem_set_ne (fun e' => e e'.symm)]
      exact ⟨by rw [World.cell?_setCell_other _ _ _ _ (hne _ _ (by omega))]; exact c0, by rw [World.cell?_setCell_other _ _ _ _ (hne _ _ (by omega))]; exact c1, by rw [World.cell?_setCell_other _ _ _ _ (hne _ _ (by omega))]; exact c2⟩
end
end Go.Proofs.Ytockgapdfcapnaa

namespace Go.Proofs.Ytockgapdfcapnaa
open Go.RowKit

theorem lines_hit (l : List UInt8) (f i : Nat) (hfi : f ≤ i) (hi : l[i]? = some 10) (hn : ∀ k, f ≤ k → k < i → l[k]? ≠ some 10) :
    linesL (l.drop f) = (l.drop f).take (i + 1 - f) :: linesL (l.drop (i + 1)) := by
  have h := linesL_at (l.drop f) (i - f) (by rw [List.getElem?_drop]; rw [show f + (i - f) = i by omega]; exact hi) (fun k hk => by rw [List.getElem?_drop]; exact hn _ (by omega) (by omega))
  rw [h, List.drop_drop, show f + (i - f + 1) = i + 1 by omega, show i - f + 1 = i + 1 - f by omega]

theorem lines_end (l : List UInt8) (f : Nat) (hf : f < l.length) (hn : ∀ k, f ≤ k → l[k]? ≠ some 10) : linesL (l.drop f) = [l.drop f] :=
  linesL_none _ (fun e => by have := congrArg List.length e; simp at this; omega) (fun k => by rw [List.getElem?_drop]; exact hn _ (by omega))

set_option maxRecDepth 20000 in
set_option maxHeartbeats 4000000 in
theorem specLines_any (s : ByteArray) (w : World) :
    Calls Try.prog 64 #[.string s] w fun e w' => LinesPost (linesT s) w e w' := by
  obtain ⟨i0, hi, hz0, hz1, hz2⟩ := info_parts Try.infoStr
  have hl : s.data.toList.length = s.size := (Lib.size_eq s).symm
  have hnil : (w.alloc (.cells #[] 9)).ownsRow w.heap.size 9 1 (.slice (some ⟨w.heap.size, 0, none⟩) 0 0) 0 [] := ⟨by simp, .inr ⟨w.heap.size, 0, #[], rfl, Nat.le_refl _, heap_alloc_new w _, Nat.le_refl _, by unfold maxLen; omega, rfl, by simp⟩⟩
  by_cases hbig : s.size ≤ 1500
  · have hsm : ¬ (1500 : Int) < s.size := by omega
    rw [linesT, if_pos hbig]
    go_enter Try.func64, Try.ntmps64
    go_wp2
    go_loopw [3, 4, 5] (fun v f i wr => ∃ (ss : List (List UInt8)) (f' i' : Nat), f = .int .i64 f' ∧ i = .int .i64 i' ∧ f' ≤ i' ∧ i' ≤ s.size ∧ LKeep (linesL s.data.toList = ss ++ linesL (s.data.toList.drop f') ∧ (∀ k, f' ≤ k → k < i' → s.data.toList[k]? ≠ some 10)) ∧ ss.length ≤ f' ∧ wr.ownsRow w.heap.size 9 1 v (ss.map lnB).length ((ss.map lnB).map .string) ∧ Below w.heap.size w wr) (fun _ _ i _ => s.size - (intOf i).toNat)
    case atStart => exact ⟨[], 0, 0, rfl, rfl, Nat.le_refl _, Nat.zero_le _, ⟨by simp, fun k h1 h2 => by omega⟩, Nat.le_refl _, hnil, (Below.refl _ _).alloc (Nat.le_refl _) _⟩
    case round =>
      obtain ⟨ss, f, i, rfl, rfl, hfi, his, HK, hlen, hown, hB⟩ := hrel
      have hBs := hB.size
      have hm : (ss.map lnB).length ≤ 1500 := by simp; omega
      by_cases hlt : i < s.size
      · have hlt' : (i : Int) < s.size := by omega
        have hget : s.data.toList[i]? = some s[i] := by
          rw [List.getElem?_eq_getElem (by rw [hl]; exact hlt)]
          rfl
        by_cases hc : s[i] = 10
        · have HH : LKeep (s.data.toList[i]? = some 10) := ⟨by rw [hget, hc]⟩
          clear hget
          have c1 : (f : Int) ≤ i + 1 := by omega
          have c2 : (i + 1 : Int) ≤ s.size := by omega
          go_wp2_with (at_builtin; refine wpList_append_own _ rfl _ _ 23 rfl w.heap.size 9 i0 _ 1 16 Try.underlying23 hi hz0 hz1 hz2 rfl (by decide) _ _ _ rfl (hown.alloc _) ⟨wr.heap.size, 0, none⟩ 1 1 [.string (s.extract f (i + 1))] rfl rfl (cell_one_new _ _ _) (by simp [Value.oneCell']) (by unfold maxLen; omega) (by omega) (by simp; omega) ?_; intro v4 w4 ho4 hg4 _)
          have hx := lines_hit s.data.toList f i hfi HH.out HK.out.2
          refine ⟨⟨ss ++ [(s.data.toList.drop f).take (i + 1 - f)], i + 1, i + 1, by congr 1, by congr 1, Nat.le_refl _, by omega, ⟨?_, fun k h1 h2 => by omega⟩, by simp; omega, ?_, ?_⟩, by simp only [intOf]; omega⟩
          · rw [HK.out.1, hx]; simp
          · rw [List.map_append, List.length_append, List.map_append]
            rw [extract_lnB] at ho4
            exact ho4
          · exact (hB.alloc hBs _).grown hg4 (by simp; omega) (owns_base hown)
        · have hcb : ((s[i].toNat : Int) == 10) = false := by
            have : s[i].toNat ≠ 10 := fun h => hc (UInt8.toNat_inj.1 h)
            simp; omega
          have HH : LKeep (s.data.toList[i]? ≠ some 10) := ⟨by rw [hget]; simp; exact hc⟩
          clear hget hc
          go_wp2
          refine ⟨⟨ss, f, i + 1, rfl, by congr 1, by omega, by omega, ⟨HK.out.1, fun k h1 h2 => ?_⟩, hlen, hown, hB⟩, by simp only [intOf]; omega⟩
          by_cases hk : k = i
          · rw [hk]; exact HH.out
          · exact HK.out.2 k h1 (by omega)
      · obtain rfl : i = s.size := by omega
        by_cases hf : f < s.size
        · have hf' : (f : Int) < s.size := by omega
          have hx := lines_end s.data.toList f (by omega) (fun k hk => by
            by_cases h : k < s.size
            · exact HK.out.2 k hk h
            · rw [List.getElem?_eq_none (by omega)]; simp)
          have HX : LKeep (linesL (s.data.toList.drop f) = [s.data.toList.drop f]) := ⟨hx⟩
          clear hx
          go_wp2_with (at_builtin; refine wpList_append_own _ rfl _ _ 23 rfl w.heap.size 9 i0 _ 1 16 Try.underlying23 hi hz0 hz1 hz2 rfl (by decide) _ _ _ rfl (hown.alloc _) ⟨wr.heap.size, 0, none⟩ 1 1 [.string (s.extract f s.size)] rfl rfl (cell_one_new _ _ _) (by simp [Value.oneCell']) (by unfold maxLen; omega) (by omega) (by simp; omega) ?_; intro v4 w4 ho4 hg4 _)
          have hp : linesB s = ss.map lnB ++ [s.extract f s.size] := by
            rw [linesB, HK.out.1, HX.out, extract_lnB, List.take_of_length_le (by rw [List.length_drop, hl]; exact Nat.le_refl _)]
            simp
          obtain ⟨ad, cp, rfl⟩ := owns_slice ho4
          go_ret
          rw [hp]
          refine ⟨ad, cp, ?_, ?_, (hB.alloc hBs _).grown hg4 (by simp; omega) (owns_base hown)⟩
          · rw [List.length_append]; rfl
          · rw [List.length_append, List.map_append]; exact ho4
        · obtain rfl : f = s.size := by omega
          have hp : linesB s = ss.map lnB := by
            rw [linesB, HK.out.1, List.drop_of_length_le (by omega)]
            simp [linesL]
          have HPL : LKeep (linesB s = ss.map lnB) := ⟨hp⟩
          clear hp
          obtain ⟨ad, cp, rfl⟩ := owns_slice hown
          go_wp2
          go_ret
          rw [HPL.out]
          exact ⟨ad, cp, rfl, hown, hB⟩
  · have hsm : (1500 : Int) < s.size := by omega
    rw [linesT, if_neg hbig]
    go_enter Try.func64, Try.ntmps64
    go_wp2
    go_ret
    exact ⟨_, _, rfl, hnil, (Below.refl _ _).alloc (Nat.le_refl _) _⟩
end Go.Proofs.Ytockgapdfcapnaa
