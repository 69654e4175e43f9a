/-
  impl.readDir: a directory's text, its lines in a map.
-/
import Derived.Test.YtlgdfeacnalekaaDoorDirD
import Derived.Test.YtlgdfeacnalekaaDoorLinesX
import Derived.Sort.CutIn
namespace Go.Proofs.YtlgdfeacnalekaaDoor
open Go.RowKit Go.Shelf

attribute [local go_sem] Oper.semAt_some

theorem lessD_total : ∀ (a b : List UInt8), (!(Op.bytesLess a b)) = (Op.bytesLess b a || b == a)
  | [], [] => rfl
  | [], _ :: _ => by simp [Op.bytesLess]
  | _ :: _, [] => by simp [Op.bytesLess]
  | x :: a, y :: b => by
    have ih := lessD_total a b
    by_cases h : x = y
    · subst h
      have h1 : ¬ x < x := by rw [UInt8.lt_iff_toNat_lt]; omega
      simp [Op.bytesLess, h1] at ih ⊢
      exact ih
    · have hne : ¬ y = x := fun e => h e.symm
      by_cases hl : x < y
      · have h2 : ¬ y < x := by rw [UInt8.lt_iff_toNat_lt] at hl ⊢; omega
        simp [Op.bytesLess, hl, h2, hne]
      · have h2 : y < x := by
          have : x.toNat ≠ y.toNat := fun e => h (UInt8.toNat_inj.1 e)
          rw [UInt8.lt_iff_toNat_lt] at hl ⊢; omega
        simp [Op.bytesLess, hl, h2, h]
theorem lt_of_cell {W : World} {b j : Nat} {v : Value} (h : W.cell? ⟨b, j, none⟩ = some v) : b < W.heap.size := by
  rcases Nat.lt_or_ge b W.heap.size with h1 | h1
  · exact h1
  · simp [World.cell?, Array.getElem?_eq_none h1] at h
def pcs (xs : List ByteArray) : List (List UInt8) := xs.map (fun x => x.data.toList)
theorem pcs_lines (s : ByteArray) : pcs (linesB s) = linesL s.data.toList := by
  unfold pcs linesB
  rw [List.map_map]
  conv => rhs; rw [← List.map_id (linesL s.data.toList)]
  exact List.map_congr_left fun l _ => lnB_list l
/-- The boxes of readDir, and the map. -/
structure RD (w : World) (vw g h mb vm vl Bs wd : Nat) (ds : List DL) (D : DataW Unit) (W : World) : Prop where
  own : W.ownsMap Tryd.prog 9 dlR mb ds.length D
  con : DirD ds D
  cw : W.cell? ⟨vw, 0, none⟩ = some (.int .i64 wd)
  cg : W.cell? ⟨g, 0, none⟩ = some (.map none)
  ch : W.cell? ⟨h, 0, none⟩ = some (.bool false)
  cm : W.cell? ⟨vm, 0, none⟩ = some (.map (some mb))
  cl : W.cell? ⟨vl, 0, none⟩ = some (.string (lstN ds))
  fg : W.frozen? ⟨g, 0, none⟩ = false
  fh : W.frozen? ⟨h, 0, none⟩ = false
  fl : W.frozen? ⟨vl, 0, none⟩ = false
  lt : w.heap.size ≤ vw ∧ g = vw + 1 ∧ h = vw + 2 ∧ mb = vw + 3 ∧ vm = vw + 4 ∧ vl = vw + 5 ∧ Bs = vw + 6 ∧ Bs < W.heap.size
  bw : Below w.heap.size w W
theorem RD.kept {w : World} {vw g h mb vm vl Bs wd : Nat} {ds : List DL} {D : DataW Unit} {W W' : World} (k : RD w vw g h mb vm vl Bs wd ds D W) {row : Option Nat} (hg : W.grownBy W' row) (hr : ∀ l, row = some l → Bs ≤ l) : RD w vw g h mb vm vl Bs wd ds D W' := by
  have hlt := k.lt
  have hb : ∀ j, j < Bs → W'.heap[j]? = W.heap[j]? := fun j hj => hg.block j (by omega) (fun e => by have := hr j e.symm; omega)
  have q : ∀ {j : Nat} {v : Value}, j < Bs → W.cell? ⟨j, 0, none⟩ = some v → W'.cell? ⟨j, 0, none⟩ = some v := fun hk hc => (World.cell?_of_block (hb _ hk)).trans hc
  have hs := hg.size
  exact ⟨k.own.kept hg (fun e => by have := hr _ e.symm; omega), k.con, q (by omega) k.cw, q (by omega) k.cg, q (by omega) k.ch, q (by omega) k.cm, q (by omega) k.cl, (frozen_block (hb _ (by omega))).trans k.fg, (frozen_block (hb _ (by omega))).trans k.fh, (frozen_block (hb _ (by omega))).trans k.fl, by omega, k.bw.grown hg k.bw.size (fun j e => by have := hr _ e; omega)⟩
theorem grown_below {W W' : World} (h : Below W.heap.size W W') : W.grownBy W' none := ⟨h.os, h.tape, h.output, h.size, fun j hj _ => h.block j hj⟩
theorem grown_put {W : World} {l : Nat} {o : Obj} : W.grownBy (W.putObj l o) (some l) := ⟨rfl, rfl, rfl, by simp, fun k _ hk => World.putObj_heap_other (fun e => hk (by rw [e]))⟩
theorem grown_setR {W : World} {l : Nat} {v : Value} : W.grownBy (W.setCell ⟨l, 0, none⟩ v) (some l) := ⟨rfl, rfl, rfl, by simp, fun k _ hk => Below.heap_setCell _ _ _ _ (fun e => hk (by rw [e]))⟩
def RdI (w : World) (vw g h mb vm vl Bs wd : Nat) (all : List ByteArray) (pre : List ByteArray) (W : World) : Prop :=
  ∃ ds D r, all = pre ++ r ∧ RdS wd (pcs all) ds (pcs r) ∧ ds.length ≤ pre.length ∧ RD w vw g h mb vm vl Bs wd ds D W
structure RdX (w : World) (g h wd : Nat) (all : List ByteArray) (_pre : List ByteArray) (W : World) : Prop where
  no : ∀ es, ¬ RdR wd ⟨#[]⟩ (pcs all) es
  bw : Below w.heap.size w W
  cg : W.cell? ⟨g, 0, none⟩ = some (.map none)
  ch : W.cell? ⟨h, 0, none⟩ = some (.bool false)
def RdDirPost (text : ByteArray) (wd : Nat) (w : World) (e : Ending) (w' : World) : Prop :=
  Below w.heap.size w w' ∧ ((∃ ds D mb, text.size ≤ 8000 ∧ RdR wd ⟨#[]⟩ (linesL text.data.toList) ds ∧ e = .returned (.tuple #[.map (some mb), .bool true]) ∧ w.heap.size ≤ mb ∧ w'.ownsMap Tryd.prog 9 dlR mb ds.length D ∧ DirD ds D) ∨
    (e = .returned (.tuple #[.map none, .bool false]) ∧ (8000 < text.size ∨ ∀ es, ¬ RdR wd ⟨#[]⟩ (linesL text.data.toList) es)))

set_option maxRecDepth 100000 in
set_option maxHeartbeats 4000000 in
theorem readDir_any (text : ByteArray) (wd : Nat) (w : World) (hs : text.size ≤ 1099511627776) (hw1 : 1 ≤ wd) (hw8 : wd ≤ 8) :
    Calls Tryd.prog 33 #[.string text, .int .i64 wd] w fun e w' => RdDirPost text wd w e w' := by
  have hmm := @run_makeMap Tryd.prog
  refine (callsIn_wide (n := 5)).1 ?_
  refine callsIn_of_wp_marks Tryd.func33 rfl trivial ?_ rfl
  simp only [Tryd.ntmps33, List.size_toArray, List.length_cons, List.length_nil, Nat.reduceAdd, Nat.reduceSub, Array.replicate_succ, Array.replicate_zero, List.push_toArray, List.append_toArray, List.nil_append, List.cons_append]
  by_cases hlen : text.size ≤ 8000
  · have hl' : ¬ (8000 : Int) < text.size := by omega
    gi_wp2_with (refine ⟨trivial, ?_⟩; gi_at_call 41; refine (callsIn_wide.2 (linesSeq_any text _)).mono ?_; rintro e w' ⟨rfl, rfl⟩)
    clear hl' hmm
    obtain ⟨wl, hwl⟩ : ∃ x, ((((((w.alloc (.cells #[.int .i64 wd] 3)).alloc (.cells #[.map none] 57)).alloc (.cells #[.bool false] 4)).alloc (.map #[] 0)).alloc (.cells #[.map (some (w.heap.size + 1 + 1 + 1))] 57)).alloc (.cells #[.string ⟨#[]⟩] 9)).alloc (.cells #[.string text] 9) = x := ⟨_, rfl⟩
    obtain ⟨vw, e0⟩ : ∃ x, x = w.heap.size := ⟨_, rfl⟩
    obtain ⟨g, e1⟩ : ∃ x, x = w.heap.size + 1 := ⟨_, rfl⟩
    obtain ⟨h, e2⟩ : ∃ x, x = w.heap.size + 1 + 1 := ⟨_, rfl⟩
    obtain ⟨mb, e3⟩ : ∃ x, x = w.heap.size + 1 + 1 + 1 := ⟨_, rfl⟩
    obtain ⟨vm, e4⟩ : ∃ x, x = w.heap.size + 1 + 1 + 1 + 1 := ⟨_, rfl⟩
    obtain ⟨vl, e5⟩ : ∃ x, x = w.heap.size + 1 + 1 + 1 + 1 + 1 := ⟨_, rfl⟩
    obtain ⟨Bs, e6⟩ : ∃ x, x = w.heap.size + 1 + 1 + 1 + 1 + 1 + 1 := ⟨_, rfl⟩
    have hRD : RD w vw g h mb vm vl Bs wd [] (.map []) wl := by
      subst hwl
      refine ⟨?_, dirD_nil, by rw [e0]; simp [go_sem], by rw [e1]; simp [go_sem], by rw [e2]; simp [go_sem], by rw [e4, e3]; simp [go_sem], by rw [e5]; simp [go_sem, lstN], by rw [e1]; simp [go_sem], by rw [e2]; simp [go_sem], by rw [e5]; simp [go_sem], by simp; omega, ?_⟩
      · have hM0 : ((((w.alloc (.cells #[.int .i64 wd] 3)).alloc (.cells #[.map none] 57)).alloc (.cells #[.bool false] 4)).alloc (.map #[] 0)).ownsMap Tryd.prog 9 dlR (((w.alloc (.cells #[.int .i64 wd] 3)).alloc (.cells #[.map none] 57)).alloc (.cells #[.bool false] 4)).heap.size 0 (.map [] : DataW Unit) := World.ownsMap_made _ _ _ _
        have em : (((w.alloc (.cells #[.int .i64 wd] 3)).alloc (.cells #[.map none] 57)).alloc (.cells #[.bool false] 4)).heap.size = mb := by simp; omega
        rw [em] at hM0
        exact ((hM0.alloc _).alloc _).alloc _
      · exact (((((((Below.refl _ _).alloc (Nat.le_refl _) _).alloc (by simp) _).alloc (by simp; omega) _).alloc (by simp; omega) _).alloc (by simp; omega) _).alloc (by simp; omega) _).alloc (by simp; omega) _
    have hBs : wl.cell? ⟨Bs, 0, none⟩ = some (.string text) := by rw [← hwl, e6]; simp [go_sem]
    have hBf : wl.frozen? ⟨Bs, 0, none⟩ = false := by rw [← hwl, e6]; simp [go_sem]
    have hwz : wl.heap.size = Bs + 1 := by rw [← hwl, e6]; simp
    rw [hwl]
    rw [← e6, ← e5, ← e4, ← e3, ← e2, ← e1, ← e0]
    have HN : Keep (vw = w.heap.size) := ⟨e0⟩
    clear e0 e1 e2 e3 e4 e5 e6 hwl
    refine range_iterB (lines_iterB Bs text hs) (enters_of Tryd.func50 (by kernel_rfl) rfl) (n := 5) (by omega) rfl (fun x => rfl) (by omega)
      (fun o1 o2 => ⟨cell_later (((Below.refl _ _).alloc (Nat.le_refl _) _).alloc (by simp) _) hBs, ((((Below.refl _ _).alloc (Nat.le_refl _) _).alloc (by simp) _ : Below wl.heap.size wl ((wl.alloc o1).alloc o2)).frozen (p := ⟨Bs, 0, none⟩) (by show Bs < _; omega)).trans hBf⟩)
      (RdI w vw g h mb vm vl Bs wd (linesB text)) (RdX w g h wd (linesB text))
      (fun pre W v ⟨ds, D, r, h1, h2, h3, h4⟩ => ⟨ds, D, r, h1, h2, h3, h4.kept grown_setR (fun l e => by cases e; omega)⟩)
      (fun pre W W' ⟨ds, D, r, h1, h2, h3, h4⟩ hb => ⟨ds, D, r, h1, h2, h3, h4.kept (grown_below hb) (fun l e => by cases e)⟩)
      (fun pre W l o hl ⟨ds, D, r, h1, h2, h3, h4⟩ => ⟨ds, D, r, h1, h2, h3, h4.kept grown_put (fun l' e => by cases e; omega)⟩)
      (fun pre W l o hl hX => ⟨hX.no, hX.bw.grown (row := some l) grown_put hX.bw.size (fun j e => by have := hRD.lt; cases e; omega), (World.cell?_of_block (World.putObj_heap_other (fun e => by have := hRD.lt; have e2 : g = l := e; omega))).trans hX.cg, (World.cell?_of_block (World.putObj_heap_other (fun e => by have := hRD.lt; have e2 : h = l := e; omega))).trans hX.ch⟩)
      (fun o1 o2 => ⟨[], _, linesB text, rfl, RdS.start _ _, Nat.le_refl _, hRD.kept (grown_below (((Below.refl _ _).alloc (Nat.le_refl _) _).alloc (by simp) _)) (fun l e => by cases e)⟩)
      (fun x _ a' _ => a' = { tmps := #[.string text, .int .i64 wd, undef, .pointer (some ⟨vw, 0, none⟩), .pointer (some ⟨g, 0, none⟩), .pointer (some ⟨h, 0, none⟩), .pointer (some ⟨vm, 0, none⟩), .pointer (some ⟨vl, 0, none⟩), .string x, undef, undef, .string text, .int .i64 text.size, .bool false, .map (some mb), .string text, .func (.func 50) #[] #[.pointer (some ⟨Bs, 0, none⟩)], .string x, undef, undef, undef, undef, undef, undef, undef, undef, undef, undef, undef, undef, undef, undef, undef, undef, undef, undef, undef, undef, undef], defers := [] })
      (fun x B a' W l o hl h1 => h1) ?assign ?body ?done ?stop
    case assign =>
      intro l x W K hK
      gi_wp2
      exact hK _ _ (Below.refl _ _) rfl
    case body =>
      rintro l pre x a' Wb W ⟨ds, D, r, h1, h2, h3, hR⟩ ⟨r0, hr0⟩ hB1 hbW rfl
      obtain rfl : r = x :: r0 := List.append_cancel_left (h1.symm.trans (by rw [hr0]; simp))
      replace hR := hR.kept (grown_below hbW) (fun l e => by cases e)
      have hxs : x.size ≤ 1099511627776 := by
        have := line_size (s := text) (x := x) (by rw [hr0]; simp)
        omega
      have hds : ds.length ≤ 8000 := by
        have e1 := linesB_le text
        have e2 := congrArg List.length hr0
        simp only [List.length_append, List.length_cons, List.length_nil] at e2
        omega
      have HS : Keep (RdS wd (pcs (linesB text)) ds (x.data.toList :: pcs r0)) := ⟨h2⟩
      have HL : Keep (wl.heap.size + 1 < W.heap.size) := ⟨Nat.lt_of_lt_of_le hB1 hbW.size⟩
      have HA : Keep (linesB text = (pre ++ [x]) ++ r0) := ⟨by rw [hr0]⟩
      have HD : Keep (ds.length ≤ pre.length) := ⟨h3⟩
      clear h1 h2 h3 hr0 hbW hB1 hBs hBf
      have cw := hR.cw
      gi_wp2_with fail
      refine ⟨trivial, ?_⟩
      refine CallsIn.mono (CallsIn.inRound l (callsIn_wide.2 (readLine_any x wd _ hxs hw8))) ?_
      rintro e W1 ⟨rfl, hb1⟩
      have HR1 := hR.kept (grown_below hb1) (fun l e => by cases e)
      have HZ : Keep (∀ X : World, Below W.heap.size W X → RD w vw g h mb vm vl Bs wd ds D X → (∀ es, ¬ RdR wd ⟨#[]⟩ (pcs (linesB text)) es) →
          iterPostB wl.heap.size Bs (RdI w vw g h mb vm vl Bs wd (linesB text)) (RdX w g h wd (linesB text)) (pre ++ [x]) W .ret ⟨#[], []⟩ ((X.setCell ⟨g, 0, none⟩ (.map none)).setCell ⟨h, 0, none⟩ (.bool false))) := ⟨fun X hX hRX hno => by
        have hlt := hRX.lt
        have hl2 := HL.out
        have hgh : ¬ g = h := by omega
        have k1 : (X.setCell ⟨g, 0, none⟩ (.map none)).cell? ⟨h, 0, none⟩ = some (.bool false) := (World.cell?_setCell_other _ _ _ _ (fun e => hgh (by injection e))).trans hRX.ch
        have hbk : ∀ j, j ≠ g → j ≠ h → ((X.setCell ⟨g, 0, none⟩ (.map none)).setCell ⟨h, 0, none⟩ (.bool false)).heap[j]? = X.heap[j]? := fun j n1 n2 => (Below.heap_setCell _ _ _ _ n2).trans (Below.heap_setCell _ _ _ _ n1)
        refine ⟨⟨(hbk _ (by omega) (by omega)).trans (hX.block _ (by omega)), (hbk _ (by omega) (by omega)).trans (hX.block _ (by omega))⟩, hno, (hRX.bw.setCell (p := ⟨g, 0, none⟩) (by show _ ≤ g; omega) _).setCell (p := ⟨h, 0, none⟩) (by show _ ≤ h; omega) _, ?_, World.cell?_setCell_same _ _ _ k1⟩
        exact (World.cell?_setCell_other _ _ _ _ (fun e => hgh (by injection e.symm))).trans (World.cell?_setCell_same _ _ _ hRX.cg)⟩
      cases hok : (ends x && cutOk wd (chop x)) with
      | false =>
        have HB : Keep (∀ es, ¬ RdR wd ⟨#[]⟩ (pcs (linesB text)) es) := ⟨HS.out.bad (fun d e hk _ => by rw [(line_piece e hk).1] at hok; cases hok)⟩
        unfold lnV
        generalize cutHeadS (chop x) = m at *
        generalize cutHeadS (cutRestS (chop x)) = n at *
        generalize cutRestS (cutRestS (chop x)) = q at *
        clear hok HR1 cw
        gi_upto_region 8 with fail
        have hbx := hb1.trans ((belowS_one W1 (.cells #[.string m, .string n, .string q] 61)).mono hb1.size)
        have hRX := hR.kept (grown_below hbx) (fun l e => by cases e)
        generalize W1.alloc (.cells #[.string m, .string n, .string q] 61) = X at *
        have HP := HZ.out X hbx hRX HB.out
        have cg := hRX.cg; have ch := hRX.ch; have fg := hRX.fg; have fh := hRX.fh
        have hgh : ¬ g = h := by have := hRX.lt; omega
        have hhg : ¬ h = g := by have := hRX.lt; omega
        clear hRX hbx
        gi_wp2
        exact HP
      | true =>
        obtain ⟨d, hd1, hd2, hd3⟩ := piece_line hw1 hok
        rw [hd3]
        unfold dlV
        have HK1 : Keep (x.data.toList = lnT d ++ [10]) := ⟨hd1⟩
        have HK2 : Keep (LnOk wd d) := ⟨hd2⟩
        clear hok HR1 cw hd1 hd2 hd3
        gi_upto_region 8 with fail
        have hbx := hb1.trans ((belowS_one W1 (.cells #[.string ⟨#[d.kind]⟩, .string d.name, .string d.dig] 61)).mono hb1.size)
        have hRX := hR.kept (grown_below hbx) (fun l e => by cases e)
        have x0 : (W1.alloc (.cells #[.string ⟨#[d.kind]⟩, .string d.name, .string d.dig] 61)).cell? ⟨W1.heap.size, 0, none⟩ = some (.string ⟨#[d.kind]⟩) := by simp [go_sem]
        have x1 : (W1.alloc (.cells #[.string ⟨#[d.kind]⟩, .string d.name, .string d.dig] 61)).cell? ⟨W1.heap.size, 1, none⟩ = some (.string d.name) := by simp [go_sem]
        have x2 : (W1.alloc (.cells #[.string ⟨#[d.kind]⟩, .string d.name, .string d.dig] 61)).cell? ⟨W1.heap.size, 2, none⟩ = some (.string d.dig) := by simp [go_sem]
        have HLX : Keep (W.heap.size ≤ W1.heap.size) := ⟨hb1.size⟩
        generalize W1.alloc (.cells #[.string ⟨#[d.kind]⟩, .string d.name, .string d.dig] 61) = X at *
        generalize W1.heap.size = xb at *
        have cl := hRX.cl
        cases hlt : Op.bytesLess (lstN ds).toList d.name.toList with
        | false =>
          have HB : Keep (∀ es, ¬ RdR wd ⟨#[]⟩ (pcs (linesB text)) es) := ⟨HS.out.bad (fun d' e hk hl => by
            obtain rfl := lnT_inj HK2.out hk (List.append_cancel_right (HK1.out.symm.trans e))
            rw [hlt] at hl
            cases hl)⟩
          have HP := HZ.out X hbx hRX HB.out
          have cg := hRX.cg; have ch := hRX.ch; have fg := hRX.fg; have fh := hRX.fh
          have hgh : ¬ g = h := by have := hRX.lt; omega
          have hhg : ¬ h = g := by have := hRX.lt; omega
          clear hRX hbx
          have hle := lessD_total (lstN ds).toList d.name.toList
          rw [hlt] at hle
          cases hl1 : Op.bytesLess d.name.toList (lstN ds).toList with
          | true =>
            gi_wp2
            exact HP
          | false =>
            rw [hl1] at hle
            have hl2 : (d.name.toList == (lstN ds).toList) = true := by simpa using hle.symm
            clear hle
            gi_wp2
            exact HP
        | true =>
          have hle := lessD_total (lstN ds).toList d.name.toList
          rw [hlt] at hle
          have hl1 : Op.bytesLess d.name.toList (lstN ds).toList = false := by
            cases h : Op.bytesLess d.name.toList (lstN ds).toList with
            | false => rfl
            | true => rw [h] at hle; simp at hle
          have hl2 : (d.name.toList == (lstN ds).toList) = false := by
            rw [hl1] at hle
            simpa using hle.symm
          clear hle
          have HLT : Keep (Op.bytesLess (lstN ds).toList d.name.toList = true) := ⟨hlt⟩
          have cm := hRX.cm
          have hown := hRX.own
          have hnz : d.name.size ≤ 1099511627776 := by
            have e1 := congrArg List.length HK1.out
            have e2 := lnT_len d
            rw [List.length_append, e2, ← Lib.size_eq] at e1
            omega
          have HX : Keep (xb < X.heap.size) := ⟨(lt_of_cell x0)⟩
          have h5 : ds.length < maxLen := by unfold maxLen; omega
          gi_wp2_with (gi_at_mapUpdate; refine wpListIn_mapUpdate_own _ rfl _ _ _ 57 rfl 9 61 dKeyed Tryd.underlying57 _ mb ds.length _ rfl hown h5 _ _ _ rfl rfl (dkey d.name hnz) _ [] (dlR_mk ⟨#[d.kind]⟩ d.name d.dig) ?_; intro W2 hown2 hgrow2; have hs2 := hgrow2.size; have y1 : W2.cell? ⟨xb, 1, none⟩ = some (.string d.name) := (World.cell?_of_block (hgrow2.block xb HX.out (by have := hRX.lt; have := HLX.out; have := HL.out; simp; omega))).trans x1; have y2 : W2.cell? ⟨vl, 0, none⟩ = some (.string (lstN ds)) := (World.cell?_of_block (hgrow2.block vl (by have := hRX.lt; omega) (by have := hRX.lt; simp; omega))).trans cl; have y3 : W2.frozen? ⟨vl, 0, none⟩ = false := (frozen_block (hgrow2.block vl (by have := hRX.lt; omega) (by have := hRX.lt; simp; omega))).trans hRX.fl)
          have hlt2 := hRX.lt
          have hl2 := HL.out
          have hbk : ∀ j, j ≠ mb → j ≠ vl → j < X.heap.size → (W2.setCell ⟨vl, 0, none⟩ (.string d.name)).heap[j]? = X.heap[j]? := fun j n1 n2 n3 => (Below.heap_setCell _ _ _ _ n2).trans (hgrow2.block j n3 (fun e => n1 (by injection e)))
          have hb0 := hbx.size
          have q : ∀ {j : Nat} {v : Value}, j ≠ mb → j ≠ vl → j < X.heap.size → X.cell? ⟨j, 0, none⟩ = some v → (W2.setCell ⟨vl, 0, none⟩ (.string d.name)).cell? ⟨j, 0, none⟩ = some v := fun n1 n2 n3 hc => (World.cell?_of_block (hbk _ n1 n2 n3)).trans hc
          have hbW2 : Below w.heap.size w (W2.setCell ⟨vl, 0, none⟩ (.string d.name)) := (hRX.bw.grown hgrow2 hRX.bw.size (fun j e => by cases e; omega)).setCell (p := ⟨vl, 0, none⟩) (by show _ ≤ vl; omega) _
          have hs3 : (W2.setCell ⟨vl, 0, none⟩ (.string d.name)).heap.size = W2.heap.size := by simp
          refine ⟨⟨(hbk _ (by omega) (by omega) (by omega)).trans (hbx.block _ (by omega)), (hbk _ (by omega) (by omega) (by omega)).trans (hbx.block _ (by omega))⟩, (hbk _ (by omega) (by omega) (by omega)).trans (hbx.block _ (by omega)), ds ++ [d], D.put (kd d.name) (dlD d), r0, HA.out, HS.out.step HK1.out HK2.out HLT.out, by have := HD.out; simp; omega, ?_⟩
          refine ⟨by rw [List.length_append]; exact hown2.kept grown_setR (fun e => by injection e with e; omega), hRX.con.add hown.isMap d, q (by omega) (by omega) (by omega) hRX.cw, q (by omega) (by omega) (by omega) hRX.cg, q (by omega) (by omega) (by omega) hRX.ch, q (by omega) (by omega) (by omega) hRX.cm, ?_, (frozen_block (hbk _ (by omega) (by omega) (by omega))).trans hRX.fg, (frozen_block (hbk _ (by omega) (by omega) (by omega))).trans hRX.fh, (World.frozen?_setCell _ _ _ _).trans y3, by omega, hbW2⟩
          rw [lstN_snoc]
          exact World.cell?_setCell_same _ _ _ y2
    case done =>
      rintro W ⟨ds, D, r, h1, h2, h3, hR⟩ hK
      obtain rfl : r = [] := by
        have := congrArg List.length h1
        rw [List.length_append] at this
        exact List.length_eq_zero_iff.1 (by omega)
      have HRd : Keep (RdR wd ⟨#[]⟩ (linesL text.data.toList) ds) := ⟨by rw [← pcs_lines]; exact h2.done⟩
      have cg := hR.cg; have ch := hR.ch; have fg := hR.fg; have fh := hR.fh; have cm := hR.cm
      have hlt := hR.lt
      have hgh : ¬ g = h := by omega
      have hhg : ¬ h = g := by omega
      have k1 : (W.setCell ⟨g, 0, none⟩ (.map (some mb))).cell? ⟨h, 0, none⟩ = some (.bool false) := (World.cell?_setCell_other _ _ _ _ (fun e => hgh (by injection e))).trans ch
      have hbk : ∀ j, j ≠ g → j ≠ h → ((W.setCell ⟨g, 0, none⟩ (.map (some mb))).setCell ⟨h, 0, none⟩ (.bool true)).heap[j]? = W.heap[j]? := fun j n1 n2 => (Below.heap_setCell _ _ _ _ n2).trans (Below.heap_setCell _ _ _ _ n1)
      have hK3 := (hbk wl.heap.size (by omega) (by omega)).trans hK
      have kc : ((W.setCell ⟨g, 0, none⟩ (.map (some mb))).setCell ⟨h, 0, none⟩ (.bool true)).cell? ⟨g, 0, none⟩ = some (.map (some mb)) := (World.cell?_setCell_other _ _ _ _ (fun e => hhg (by injection e))).trans (World.cell?_setCell_same _ _ _ cg)
      have hc : ((W.setCell ⟨g, 0, none⟩ (.map (some mb))).setCell ⟨h, 0, none⟩ (.bool true)).cell? ⟨h, 0, none⟩ = some (.bool true) := World.cell?_setCell_same _ _ _ k1
      have hb3 : Below w.heap.size w ((W.setCell ⟨g, 0, none⟩ (.map (some mb))).setCell ⟨h, 0, none⟩ (.bool true)) := (hR.bw.setCell (p := ⟨g, 0, none⟩) (by show _ ≤ g; omega) _).setCell (p := ⟨h, 0, none⟩) (by show _ ≤ h; omega) _
      have ho3 := (hR.own.kept (grown_setR (l := g) (v := .map (some mb))) (fun e => by injection e with e; omega)).kept (grown_setR (l := h) (v := .bool true)) (fun e => by injection e with e; omega)
      obtain ⟨W3, hW3⟩ : ∃ W3, (W.setCell ⟨g, 0, none⟩ (.map (some mb))).setCell ⟨h, 0, none⟩ (.bool true) = W3 := ⟨_, rfl⟩
      rw [hW3] at hK3 kc hc hb3 ho3
      have kc4 : (W3.putObj wl.heap.size (.deferred none)).cell? ⟨g, 0, none⟩ = some (.map (some mb)) := (World.cell?_of_block (World.putObj_heap_other (fun e => by have e2 : g = wl.heap.size := e; omega))).trans kc
      have hc4 : (W3.putObj wl.heap.size (.deferred none)).cell? ⟨h, 0, none⟩ = some (.bool true) := (World.cell?_of_block (World.putObj_heap_other (fun e => by have e2 : h = wl.heap.size := e; omega))).trans hc
      have HP : Keep (RdDirPost text wd w (.returned (.tuple #[.map (some mb), .bool true])) (W3.putObj wl.heap.size (.deferred none))) := ⟨hb3.grown (row := some wl.heap.size) grown_put hb3.size (fun j e => by cases e; omega), .inl ⟨ds, D, mb, hlen, HRd.out, rfl, by omega, ho3.kept grown_put (fun e => by injection e with e; omega), hR.con⟩⟩
      clear hR k1 kc hc ho3 hb3 hbk h1 h2 h3 hRD hBs hBf hlt
      gi_wp2
      refine ⟨by simp, .inl ⟨_, _, rfl, run_takeDeferred hK3, ?_⟩⟩
      refine ⟨_, ?_, HP.out⟩
      simp [results, Tryd.f33, go_sem, kc4, hc4]
    case stop =>
      rintro pre W hpre hX hK
      have hlt := hRD.lt
      have hno := hX.no
      rw [pcs_lines] at hno
      have kc4 : (W.putObj wl.heap.size (.deferred none)).cell? ⟨g, 0, none⟩ = some (.map none) := (World.cell?_of_block (World.putObj_heap_other (fun e => by have e2 : g = wl.heap.size := e; omega))).trans hX.cg
      have hc4 : (W.putObj wl.heap.size (.deferred none)).cell? ⟨h, 0, none⟩ = some (.bool false) := (World.cell?_of_block (World.putObj_heap_other (fun e => by have e2 : h = wl.heap.size := e; omega))).trans hX.ch
      have HP : Keep (RdDirPost text wd w (.returned (.tuple #[.map none, .bool false])) (W.putObj wl.heap.size (.deferred none))) := ⟨hX.bw.grown (row := some wl.heap.size) grown_put hX.bw.size (fun j e => by cases e; omega), .inr ⟨rfl, .inr hno⟩⟩
      clear hX hno hRD hBs hBf hlt
      gi_wp2
      refine ⟨by simp, .inl ⟨_, _, rfl, run_takeDeferred hK, ?_⟩⟩
      refine ⟨_, ?_, HP.out⟩
      simp [results, Tryd.f33, go_sem, kc4, hc4]
  · have hl' : (8000 : Int) < text.size := by omega
    have hb : Below w.heap.size w (((w.alloc (.cells #[.int .i64 wd] 3)).alloc (.cells #[.map none] 57)).alloc (.cells #[.bool false] 4)) := (((Below.refl _ _).alloc (Nat.le_refl _) _).alloc (by simp) _).alloc (by simp; omega) _
    gi_wp2
    refine ⟨.tuple #[.map none, .bool false], ?_, hb, .inr ⟨rfl, .inl (by omega)⟩⟩
    simp [results, Tryd.f33, go_sem]
end Go.Proofs.YtlgdfeacnalekaaDoor
