/-
  impl.readDirs: all directories of a proof.
-/
import Derived.Test.YtlgdfeacnalekaaDoorRdDir
import Derived.Test.YtlgdfeacnalekaaDoorSums
import Derived.Test.YtlgdfeacnalekaaDoorBase
namespace Go.Proofs.YtlgdfeacnalekaaDoor
open Go.RowKit

/-- A directory that was read: its lines, its sum, its map's block. -/
structure SD where
  ds : List DL
  sum : ByteArray
  mb : Nat
def sdc (xs : List SD) : List Value := xs.flatMap fun x => [.map (some x.mb), .string x.sum]
theorem sdc_len (xs : List SD) : (sdc xs).length = xs.length * 2 := by
  induction xs with
  | nil => rfl
  | cons x xs ih => simp [sdc] at ih ⊢; omega
/-- One directory of a text. -/
def DirOf (wd : Nat) (t : ByteArray) (x : SD) : Prop := t.size ≤ 8000 ∧ RdR wd ⟨#[]⟩ (linesL t.data.toList) x.ds ∧ x.sum = sumStr t.data.toList wd
def MapAt (B : Nat) (x : SD) (W : World) : Prop := B ≤ x.mb ∧ ∃ D, W.ownsMap Tryd.prog 9 dlR x.mb x.ds.length D ∧ DirD x.ds D
theorem map_block {W : World} {b n : Nat} {D : DataW Unit} (h : W.ownsMap Tryd.prog 9 dlR b n D) : ∃ es c, W.heap[b]? = some (.map es c) := by
  obtain ⟨es, c, h, _⟩ := h
  exact ⟨es, c, h⟩
theorem MapAt.kept {B : Nat} {x : SD} {W W' : World} {row : Option Nat} (h : MapAt B x W) (hg : W.grownBy W' row) (hr : ∀ g, row = some g → ∀ es c, W.heap[g]? ≠ some (.map es c)) : MapAt B x W' := by
  obtain ⟨h0, D, h1, h2⟩ := h
  refine ⟨h0, D, h1.kept hg (fun e => ?_), h2⟩
  obtain ⟨es, c, hm⟩ := map_block h1
  exact hr _ e.symm es c hm
theorem row_nomap {W : World} {B : Nat} {e : TypeId} {z : Nat} {v : Value} {n : Nat} {xs : List Value} (h : W.ownsRow B e z v n xs) : ∀ g, v.ownBlock = some g → ∀ es c, W.heap[g]? ≠ some (.map es c) := fun g hg es c hm => by
  rcases h.2 with ⟨h0, _⟩ | ⟨g', cap, cur, h0, _, h1, _⟩
  · rw [h0] at hg; cases hg
  · rw [h0] at hg
    injection hg with hg
    have hg : g' = g := hg
    rw [hg, hm] at h1
    cases h1
theorem row_laterD {W W' : World} {B : Nat} {e : TypeId} {z : Nat} {v : Value} {n : Nat} {xs : List Value} (hb : Below W.heap.size W W') (h : W.ownsRow B e z v n xs) : W'.ownsRow B e z v n xs := h.kept (grown_below hb) (by cases hv : v.ownBlock <;> simp)
theorem cell_two_new (w : World) (x y : Value) (t : TypeId) : ∀ j u, [x, y][j]? = some u → (w.alloc (.cells #[x, y] t)).cell? ((⟨w.heap.size, 0, none⟩ : Addr).add j) = some u := by
  intro j u hj
  match j, hj with
  | 0, hj =>
    simp at hj
    subst hj
    simp [go_sem, Addr.add]
  | 1, hj =>
    simp at hj
    subst hj
    simp [go_sem, Addr.add]
  | j + 2, hj => simp at hj
theorem Tryd.infoSD : (Tryd.prog.info? 59).map (fun i => (i.zero, i.size, i.bytes)) = some (some (.agg #[.map none, .string ⟨#[]⟩]), 2, 24) := by kernel_rfl

def RdsPost (ts : List ByteArray) (wd : Nat) (w : World) (e : Ending) (w' : World) : Prop :=
  Below w.heap.size w w' ∧ ((∃ xs ad cp, xs.length = ts.length ∧ ts ≠ [] ∧ ts.length ≤ 7 ∧ (∀ (i : Nat) t, ts[i]? = some t → ∃ x, xs[i]? = some x ∧ DirOf wd t x) ∧ (∀ x ∈ xs, MapAt w.heap.size x w') ∧ e = .returned (.tuple #[.slice ad xs.length cp, .bool true]) ∧ w'.ownsRow w.heap.size 59 2 (.slice ad xs.length cp) xs.length (sdc xs)) ∨
    (e = .returned (.tuple #[.slice none 0 0, .bool false]) ∧ (ts = [] ∨ 7 < ts.length ∨ ∃ t ∈ ts, ∀ x, ¬ DirOf wd t x)))

set_option maxRecDepth 20000 in
set_option maxHeartbeats 4000000 in
theorem readDirs_any (a : Option Addr) (cap : Nat) (ts : List ByteArray) (wd : Nat) (w : World) (hss : SS w a ts) (hn : ts.length ≤ 1048576) (hm : ∀ s ∈ ts, s.size ≤ 1048576) (hw1 : 1 ≤ wd) (hw8 : wd ≤ 8) :
    Calls Tryd.prog 22 #[.slice a ts.length cap, .int .i64 wd] w fun e w' => RdsPost ts wd w e w' := by
  obtain ⟨i0, hi, hz0, hz1, hz2⟩ := info_parts Tryd.infoSD
  go_enter Tryd.func22, Tryd.ntmps22
  by_cases h0 : ts = []
  · subst h0
    go_wp2
    refine bodyPost_ret (v := .tuple #[.slice none 0 0, .bool false]) ?_ rfl ⟨Below.refl _ _, .inr ⟨rfl, .inl rfl⟩⟩
    go_light
    simp [results, Tryd.results22, go_sem]
  by_cases h7 : 7 < ts.length
  · have e1 : ¬ ((ts.length : Int) = 0) := by omega
    have e2 : (7 : Int) < ts.length := by omega
    go_wp2
    refine bodyPost_ret (v := .tuple #[.slice none 0 0, .bool false]) ?_ rfl ⟨Below.refl _ _, .inr ⟨rfl, .inr (.inl h7)⟩⟩
    go_light
    simp [results, Tryd.results22, go_sem]
  have hpos : 0 < ts.length := List.length_pos_iff.2 h0
  have e1 : ¬ ((ts.length : Int) = 0) := by omega
  have e2 : ¬ (7 : Int) < ts.length := by omega
  have H7 : ts.length ≤ 7 := by omega
  clear h7
  have HK : Keep (ts ≠ []) := ⟨h0⟩
  have e3 : ((ts.length : Int) == 0) = false := by simpa using h0
  go_wp2
  go_loopw [6, 21] (fun v i wr => ∃ (k : Nat) (xs : List SD), k ≤ ts.length ∧ i = .int .i64 k ∧ xs.length = k ∧ Keep (∀ (i : Nat) t, i < k → ts[i]? = some t → ∃ x, xs[i]? = some x ∧ DirOf wd t x) ∧ Keep (∀ x ∈ xs, MapAt w.heap.size x wr) ∧ wr.ownsRow w.heap.size 59 2 v k (sdc xs) ∧ Below w.heap.size w wr) (fun _ i _ => ts.length - (intOf i).toNat)
  case atStart => exact ⟨0, [], Nat.zero_le _, rfl, rfl, ⟨fun i t h => absurd h (Nat.not_lt_zero _)⟩, ⟨fun x hx => absurd hx (by simp)⟩, World.ownsRow_nil _ _ _ _, Below.refl _ _⟩
  case round =>
    obtain ⟨k, xs, hk, rfl, hxl, HD, HM, hrow, hb⟩ := hrel
    by_cases hlt : k < ts.length
    · obtain ⟨b', off, rfl, hc⟩ := hss.at hlt
      have hck : wr.cell? ⟨b', off + k, none⟩ = some (.string ts[k]) := cell_later hb (hc k hlt)
      have hsz := hm ts[k] (List.getElem_mem hlt)
      have hcall := readDir_any ts[k] wd wr (by omega) hw1 hw8
      clear hc
      go_wp2_with fail
      refine hcall.mono ?_
      rintro e w1 ⟨hb1, (⟨ds, D, mb, d1, d2, rfl, d4, d5, d6⟩ | ⟨rfl, hno⟩)⟩
      · have hsum := implSum_any ts[k] wd w1 (by unfold maxLen; omega) hw1 hw8
        have hxb := owns_base hrow
        have hrow1 := row_laterD hb1 hrow
        have HM1 : Keep (∀ x ∈ xs, MapAt w.heap.size x w1) := ⟨fun x hx => (HM.out x hx).kept (grown_below hb1) (fun g e => by cases e)⟩
        have HMn : Keep (MapAt w.heap.size ⟨ds, sumStr ts[k].data.toList wd, mb⟩ w1) := ⟨Nat.le_trans hb.size d4, D, d5, d6⟩
        have HDn : Keep (DirOf wd ts[k] ⟨ds, sumStr ts[k].data.toList wd, mb⟩) := ⟨d1, d2, rfl⟩
        clear d1 d2 d4 d5 d6 HM
        replace hb := hb.trans (hb1.mono hb.size)
        clear hb1
        go_wp2_with fail
        refine hsum.mono ?_
        rintro e w2 ⟨rfl, hb2⟩
        have hrow2 := row_laterD hb2 hrow1
        have HM2 : Keep (∀ x ∈ xs ++ [⟨ds, sumStr ts[k].data.toList wd, mb⟩], MapAt w.heap.size x w2) := ⟨fun x hx => by
          rcases List.mem_append.1 hx with hx | hx
          · exact (HM1.out x hx).kept (grown_below hb2) (fun g e => by cases e)
          · simp only [List.mem_singleton] at hx
            subst hx
            exact HMn.out.kept (grown_below hb2) (fun g e => by cases e)⟩
        replace hb := hb.trans (hb2.mono hb.size)
        have hws := hb.size
        have hnm := row_nomap hrow2
        have HD2 : Keep (∀ (i : Nat) t, i < k + 1 → ts[i]? = some t → ∃ x, (xs ++ [⟨ds, sumStr ts[k].data.toList wd, mb⟩])[i]? = some x ∧ DirOf wd t x) := ⟨fun i t h1 h2 => by
          by_cases hik : i < k
          · obtain ⟨x, h3, h4⟩ := HD.out i t hik h2
            exact ⟨x, by rw [List.getElem?_append_left (by omega)]; exact h3, h4⟩
          · obtain rfl : i = k := by omega
            rw [List.getElem?_eq_getElem hlt] at h2
            injection h2 with h2
            subst h2
            exact ⟨_, by rw [List.getElem?_append_right (by omega), show i - xs.length = 0 by omega]; rfl, HDn.out⟩⟩
        have HC : Keep (sdc (xs ++ [⟨ds, sumStr ts[k].data.toList wd, mb⟩]) = sdc xs ++ [.map (some mb), .string (sumStr ts[k].data.toList wd)]) := ⟨by simp [sdc]⟩
        have HX : Keep (∀ (x y : Value) (u : Value), u ∈ ([x, y] : List Value) → u = x ∨ u = y) := ⟨fun x y u h => by simpa using h⟩
        clear hb2 HM1 HMn HD HDn hrow hrow1 hsum hcall
        generalize sumStr ts[k].data.toList wd = S at *
        go_wp2_with (at_builtin; refine wpList_append_own _ rfl _ _ 54 rfl w.heap.size 59 i0 _ 2 24 Tryd.underlying54 hi hz0 hz1 hz2 rfl (by decide) _ _ _ rfl (hrow2.alloc _) ⟨w2.heap.size, 0, none⟩ 1 1 [.map (some mb), .string S] rfl rfl (cell_two_new _ _ _ _) (by simp [Value.oneCell']) (by unfold maxLen; omega) (by omega) (by simp; omega) ?_; intro v4 w4 ho4 hg4 _)
        have hb3 := hb.alloc (o := .cells #[.map (some mb), .string S] 59) hws
        go_roundw
        case rel =>
          refine ⟨k + 1, xs ++ [⟨ds, S, mb⟩], by omega, by go_num, by simp; omega, HD2, ⟨fun x hx => ?_⟩, by rw [HC.out]; exact ho4, hb3.grown hg4 hb3.size (fun j e => owns_base hrow2 j e)⟩
          refine ((HM2.out x hx).kept (grown_below (belowS_one w2 _)) (fun g e => by cases e)).kept hg4 (fun g e es c hm => ?_)
          have hlt2 := (hrow2.lt g e).2
          exact hnm g e es c ((Below.heap_alloc _ _ _ hlt2).symm.trans hm)
        case measure => simp [intOf]; omega
      · have HP : Keep (RdsPost ts wd w (.returned (.tuple #[.slice none 0 0, .bool false])) w1) := ⟨hb.trans (hb1.mono hb.size), .inr ⟨rfl, .inr (.inr ⟨ts[k], List.getElem_mem hlt, fun x hx => by
          rcases hno with h | h
          · have := hx.1; omega
          · exact h _ hx.2.1⟩)⟩⟩
        go_wp2
        refine bodyPost_ret (v := .tuple #[.slice none 0 0, .bool false]) ?_ rfl HP.out
        go_light
        simp [results, Tryd.results22, go_sem]
    · obtain rfl : k = ts.length := by omega
      obtain ⟨ad, cp, rfl⟩ := owns_slice hrow
      have HP : Keep (RdsPost ts wd w (.returned (.tuple #[.slice ad ts.length cp, .bool true])) wr) := ⟨hb, .inl ⟨xs, ad, cp, hxl, HK.out, H7, fun i t h => HD.out i t (List.getElem?_eq_some_iff.1 h).1 h, HM.out, by rw [hxl], by rw [hxl]; exact hrow⟩⟩
      go_wp2
      refine bodyPost_ret (v := .tuple #[.slice ad ts.length cp, .bool true]) ?_ rfl HP.out
      go_light
      simp [results, Tryd.results22, go_sem]
end Go.Proofs.YtlgdfeacnalekaaDoor
