/-
  spec.l5Near.
-/
import Derived.Test.YtockgapdfcapnaaZbj
import Derived.Test.YtockgapdfcapnaaZbj
import Derived.Test.YtockgapdfcapnaaZbf
import Derived.Deep.CutRange
namespace Go.Proofs.Ytockgapdfcapnaa
open Go.RowKit

theorem ss_of_rowN {w : World} {base : Nat} {ad : Option Addr} {cp : Nat} {ss : List ByteArray} (h : w.ownsRow base 9 1 (.slice ad ss.length cp) ss.length (ss.map .string)) : SS w ad ss := by
  by_cases h0 : ss = []
  · exact .inl h0
  · right
    obtain ⟨g, c, hv, _⟩ := h.form (List.length_pos_iff.2 h0)
    cases hv
    exact ⟨g, 0, rfl, fun i hi => by rw [Nat.zero_add, h.cellAt i (by simpa using hi), List.getElem?_map, List.getElem?_eq_getElem hi]; rfl⟩
theorem rdl_sliced {w : World} {a : Option Addr} {cap : Nat} {ls : List ByteArray} {i j : Nat} (hc : ls.length ≤ cap) (h : SS w a ls) (hij : i ≤ j) (hj : j ≤ ls.length) : RdL w (sliced a i j cap 1) ((ls.take j).drop i) := by
  have hl : ((ls.take j).drop i).length = j - i := by simp; omega
  refine ⟨if cap = i then a else a.map (·.add (i * 1)), cap - i, ?_, by rw [hl]; omega, ?_⟩
  · unfold sliced
    rw [hl]
  · by_cases h0 : j - i = 0
    · left
      exact List.eq_nil_of_length_eq_zero (by omega)
    · obtain ⟨b, o, rfl, hcell⟩ := h.at (k := 0) (by omega)
      right
      refine ⟨b, o + i, ?_, fun k hk => ?_⟩
      · rw [if_neg (by omega)]
        simp [Addr.add]
      · rw [hl] at hk
        have := hcell (i + k) (by omega)
        rw [show o + i + k = o + (i + k) by omega, this]
        simp
set_option maxRecDepth 100000 in
theorem lo_at {w : World} {a : Option Addr} {cap : Nat} {ls : List ByteArray} {j : Nat} (hc : ls.length ≤ cap) (h : SS w a ls) (hj : j ≤ ls.length) :
    ∃ v, (∀ w1, (Instr.sliceAt 23 (.slice a ls.length cap) none (some (.int .i64 (j : Int))) none).run Try.prog w1 = .ok v w1) ∧ RdL w v (ls.take j) := by
  refine ⟨sliced a 0 j cap 1, fun w1 => ?_, by simpa using rdl_sliced hc h (Nat.zero_le j) hj⟩
  rw [run_sliceAt_slice w1 _ _ _ _ _ Try.underlying23, run_slice_h w1 _ _ _ _ Try.underlying23 .i64 (j : Int) (by omega) (by omega)]
  have hz : (sizeOf (Try.prog.elem 23)).run Try.prog w1 = .ok 1 w1 := by kernel_rfl
  rw [hz]
  rfl
set_option maxRecDepth 100000 in
theorem hi_at {w : World} {a : Option Addr} {cap : Nat} {ls : List ByteArray} {j : Nat} (hc : ls.length ≤ cap) (h : SS w a ls) (hj : j ≤ ls.length) :
    ∃ v, (∀ w1, (Instr.sliceAt 23 (.slice a ls.length cap) (some (.int .i64 (j : Int))) none none).run Try.prog w1 = .ok v w1) ∧ RdL w v (ls.drop j) := by
  refine ⟨sliced a j ls.length cap 1, fun w1 => ?_, by simpa using rdl_sliced hc h hj (Nat.le_refl _)⟩
  rw [run_sliceAt_slice w1 _ _ _ _ _ Try.underlying23, run_slice_l w1 _ _ _ _ Try.underlying23 .i64 (j : Int) (by omega) (by omega)]
  have hz : (sizeOf (Try.prog.elem 23)).run Try.prog w1 = .ok 1 w1 := by kernel_rfl
  rw [hz]
  rfl
theorem cat_split (ls : List ByteArray) (j : Nat) : (catL (ls.take j)).length + (catL (ls.drop j)).length = (catL ls).length := by
  have h : catL ls = catL (ls.take j) ++ catL (ls.drop j) := by
    unfold catL
    rw [← List.flatten_append, ← List.map_append, List.take_append_drop]
  rw [h, List.length_append]
theorem cat_drop_le (ls : List ByteArray) (j : Nat) : (catL (ls.drop (j + 1))).length ≤ (catL (ls.drop j)).length := by
  unfold catL
  exact sub_flat ((List.drop_sublist_drop_left ls (Nat.le_succ j)).map _)
theorem cat_lines_le (s : ByteArray) : (catL (linesT s)).length ≤ s.size := by
  unfold linesT
  split
  · rw [catL_lines, ← Lib.size_eq]; exact Nat.le_refl _
  · exact Nat.zero_le _
section
variable {B g : Nat} {a : Option Addr} {cap : Nat} {zs : List Int} {w : World} {rs tb : Nat} {ad adL : Option Addr} {cp cL : Nat} {ts : List En} {ls : List ByteArray} {p p' : Nat} {W W' : World}
/-- A tree in a box, lines beside it. -/
structure NTx (B g : Nat) (a : Option Addr) (cap : Nat) (zs : List Int) (w : World) (rs tb : Nat) (ad : Option Addr) (cp : Nat) (ts : List En) (p : Nat) (adL : Option Addr) (cL : Nat) (ls : List ByteArray) (W : World) : Prop where
  ld : LD6 g a cap zs w rs tb ad cp ts p W
  row : W.ownsRow B 9 1 (.slice adL ls.length cL) ls.length (ls.map .string)
  lo : g < B
theorem NTx.step (h : NTx B g a cap zs w rs tb ad cp ts p adL cL ls W) (hg : W.grownBy W' (some g)) (hR : Rd W' g a cap zs p') : NTx B g a cap zs w rs tb ad cp ts p' adL cL ls W' := ⟨h.ld.step hg hR, owns_rd h.row hg h.lo, h.lo⟩
theorem NTx.later (h : NTx B g a cap zs w rs tb ad cp ts p adL cL ls W) (hb : Below W.heap.size W W') : NTx B g a cap zs w rs tb ad cp ts p adL cL ls W' := ⟨h.ld.later hb, owns_below h.row hb, h.lo⟩
theorem LD6.cells {gb k : Nat} (h : LD6 g a cap zs w rs tb (some ⟨gb, 0, none⟩) cp ts p W) (hk : k < ts.length) : (W.cell? ⟨gb, k * 3, none⟩ = some (.string ts[k].path) ∧ W.cell? ⟨gb, k * 3 + 1, none⟩ = some (.string ts[k].text) ∧ W.cell? ⟨gb, k * 3 + 2, none⟩ = some (.bool ts[k].runs)) ∧ (∀ j, W.frozen? ⟨gb, j, none⟩ = false) ∧ gb < W.heap.size := by
  rcases h.el with h0 | ⟨g', e, _, h2, h3, h4⟩
  · subst h0; simp at hk
  · cases e; exact ⟨h4 k hk, h3, h2⟩
end
def NT (A : Prop) (q : Nat) (ad : Option Addr) (cp : Nat) (ts : List En) : Prop := Tiny 100 (1620 - 5 * q) ts ∧ NilOk ad cp ∧ ts.length ≤ cp ∧ (A → Asc ts)
/-- As TreeS, and ascending where A is. -/
def TreeSA (A : Prop) (P T N : Nat) (g : Nat) (a : Option Addr) (cap : Nat) (zs : List Int) (K p : Nat) (w : World) (e : Ending) (w' : World) : Prop :=
  ∃ ad cp ts, e = .returned (.agg #[.slice ad (List.length ts) cp]) ∧ EL w.heap.size w' ad ts ∧ ts.length ≤ N ∧ Tiny P T ts ∧ NilOk ad cp ∧ Dr g a cap zs w w' p K ∧ (A → Asc ts) ∧ ts.length ≤ cp
theorem asc_erase {ts : List En} {k : Nat} (h : Asc ts) : Asc (ts.take k ++ ts.drop (k + 1)) := by
  have h1 : (ts.take k ++ ts.drop (k + 1)).Sublist ts := by
    conv => rhs; rw [← List.take_append_drop k ts]
    exact List.Sublist.append (List.Sublist.refl _) (List.drop_sublist_drop_left ts (Nat.le_succ k))
  exact List.Pairwise.sublist h1 h
theorem asc_setE {ts : List En} {k : Nat} {t : ByteArray} {r : Bool} (h : Asc ts) (hk : k < ts.length) : Asc (ts.set k ⟨ts[k].path, t, r⟩) := by
  have key : ∀ i (hi : i < (ts.set k ⟨ts[k].path, t, r⟩).length), (ts.set k ⟨ts[k].path, t, r⟩)[i].path = (ts[i]'(by simpa using hi)).path := fun i hi => by
    rw [List.getElem_set]
    split
    · rename_i e; subst e; rfl
    · rfl
  refine List.pairwise_iff_getElem.2 fun i j hi hj hij => ?_
  rw [key i hi, key j hj]
  exact List.pairwise_iff_getElem.1 h i j (by simpa using hi) (by simpa using hj) hij
theorem Tiny.erase {P T k : Nat} {ts : List En} (h : Tiny P T ts) : Tiny P T (ts.take k ++ ts.drop (k + 1)) := fun x hx => by
  rcases List.mem_append.1 hx with h1 | h1
  · exact h x (List.mem_of_mem_take h1)
  · exact h x (List.mem_of_mem_drop h1)

set_option maxRecDepth 100000 in
set_option maxHeartbeats 20000000 in
theorem l5NearA_any (g : Nat) (a : Option Addr) (cap : Nat) (zs : List Int) (p : Nat) (ad0 : Option Addr) (cp0 : Nat) (t0 : List En) (w : World) (h : Rd w g a cap zs p) (hp : p ≤ 10000000) (hes : ES w ad0 t0) (hno : NilOk ad0 cp0) (hT : Tiny 100 1600 t0) (hn : t0.length ≤ 103) :
    Calls Try.prog 32 #[.pointer (some ⟨g, 0, none⟩), .agg #[.slice ad0 t0.length cp0]] w (TreeSA (Asc t0) 100 1620 103 g a cap zs 100 p w) := by
  obtain ⟨i0, hi, hz0, hz1, hzi⟩ := info_parts Try.infoEntry
  have hglt := h.lt
  have hal : Below w.heap.size w ((w.alloc (.cells #[.slice ad0 t0.length cp0] 32)).alloc (.cells #[.slice none 0 0] 32)) := ((Below.refl _ _).alloc (Nat.le_refl _) _).alloc (by simp) _
  have r0 : ((w.alloc (.cells #[.slice ad0 t0.length cp0] 32)).alloc (.cells #[.slice none 0 0] 32)).cell? ⟨w.heap.size + 1, 0, none⟩ = some (.slice none 0 0) := by simp [go_sem]
  have rf0 : ((w.alloc (.cells #[.slice ad0 t0.length cp0] 32)).alloc (.cells #[.slice none 0 0] 32)).frozen? ⟨w.heap.size + 1, 0, none⟩ = false := by simp [go_sem]
  have hsz : ((w.alloc (.cells #[.slice ad0 t0.length cp0] 32)).alloc (.cells #[.slice none 0 0] 32)).heap.size = w.heap.size + 1 + 1 := by simp
  have hcp := l5CopyR_any ad0 cp0 t0 _ (hes.below hal) (by omega) hno
  go_enter Try.func32, Try.ntmps32
  go_wp2_with fail
  refine hcp.mono ?_
  rintro e w2 ⟨ad, cp, rfl, hrow, ⟨x, rfl⟩, hb2⟩
  clear hcp
  obtain ⟨rs, hrs⟩ : ∃ rs, rs = w.heap.size + 1 := ⟨_, rfl⟩
  rw [hsz, ← hrs] at hrow
  have hb2' := hal.trans (hb2.mono hal.size)
  have r2 := cell_later hb2 r0
  have rf2 : w2.frozen? ⟨w.heap.size + 1, 0, none⟩ = false := (hb2.frozen (p := ⟨w.heap.size + 1, 0, none⟩) (by rw [hsz]; show w.heap.size + 1 < _; omega)).trans rf0
  have hs2 : w.heap.size + 1 + 1 ≤ w2.heap.size := by have := hb2.size; omega
  rw [← hrs] at r2 rf2 ⊢
  obtain ⟨gb, rfl, hgb1, hgb2⟩ := row_block hrow
  have hba := below_oneD w2 (.cells #[.slice (some ⟨gb, 0, none⟩) t0.length cp] 32)
  have hL0 : LD6 g a cap zs w rs w2.heap.size (some ⟨gb, 0, none⟩) cp t0 p (w2.alloc (.cells #[.slice (some ⟨gb, 0, none⟩) t0.length cp] 32)) := by
    refine ⟨(h.below hb2').below hba, gr_trans (gr_below hb2') (gr_below hba), cell_later hba r2, (hba.frozen (p := ⟨rs, 0, none⟩) (by show rs < _; omega)).trans rf2, by simp, by simp, (el_of_row hrow).below hba, .inr (fun e => by simp [blk] at e; omega), by omega⟩
  have HN0 : Keep (NT (Asc t0) 4 (some ⟨gb, 0, none⟩) cp t0) := ⟨⟨hT, .inl ⟨_, rfl⟩, row_room hrow, id⟩⟩
  clear hrow r2 rf2 r0 rf0 hb2 hb2' hal hes hno hrs hs2 hba hsz hgb1 hgb2 hT
  go_wp2_with fail
  generalize w2.alloc (.cells #[.slice (some ⟨gb, 0, none⟩) t0.length cp] 32) = W3 at *
  generalize w2.heap.size = tb at *
  refine (pick_any g a cap zs p 4 W3 hL0.rd (by omega) (by omega) (by omega)).mono ?_
  rintro e w3 ⟨x, rfl, hx, hg3, hR3⟩
  have hL1 := hL0.step hg3 hR3
  clear hL0 hg3 hR3
  go_wp2
  go_loopw [6] (fun q wr => ∃ (q' p' : Nat) (ad : Option Addr) (cp : Nat) (ts : List En), q = .int .i64 q' ∧ q' ≤ 4 ∧ p' + 20 * q' ≤ p + 81 ∧ LD6 g a cap zs w rs tb ad cp ts p' wr ∧ Keep (NT (Asc t0) q' ad cp ts) ∧ ts.length ≤ 103) (fun q _ => (intOf q).toNat)
  case atStart => exact ⟨x + 1, p + 1, some ⟨gb, 0, none⟩, cp, t0, by congr 1; omega, by omega, by omega, hL1, ⟨⟨HN0.out.1.wide (Nat.le_refl _) (by omega), HN0.out.2⟩⟩, hn⟩
  case round =>
    clear hL1 HN0 hn
    obtain ⟨q, p', ad, cp, ts, rfl, hq4, hpq, hL, HT, hn⟩ := hrel
    by_cases hq : 0 < q
    · have hq' : (0 : Int) < q := by omega
      have HT1 : Keep (NT (Asc t0) (q - 1) ad cp ts) := ⟨⟨HT.out.1.wide (Nat.le_refl _) (by omega), HT.out.2⟩⟩
      have tc0 := hL.tc
      go_wp2_with fail
      refine (pick_le g a cap zs p' ts.length wr hL.rd (by omega) (by omega)).mono ?_
      rintro e w4 ⟨k, rfl, hk, hkm, hg4, hR4⟩
      have hL4 := hL.step hg4 hR4
      clear hL hg4 hR4 tc0
      go_wp2_with fail
      refine (pick_any g a cap zs (p' + 1) 6 w4 hL4.rd (by omega) (by omega) (by omega)).mono ?_
      rintro e w5 ⟨y, rfl, hy, hg5, hR5⟩
      have hL5 := hL4.step hg5 hR5
      clear hL4 hg5 hR5
      have t5 := hL5.tc
      by_cases hy5 : y = 5
      · -- another entry is put in
        have hB0 : ((y : Int) == 0) = false := by simp; omega
        have hB1 : ((y : Int) == 1) = false := by simp; omega
        have hB2 : ((y : Int) == 2) = false := by simp; omega
        have hB3 : ((y : Int) == 3) = false := by simp; omega
        have hB4 : ((y : Int) == 4) = false := by simp; omega
        clear hy5 t5
        obtain ⟨lo, hlo⟩ : ∃ lo, lo = w5.heap.size := ⟨_, rfl⟩
        have Q0 : QN lo g a cap zs w rs tb ad cp ts (p' + 1 + 1) w5 := ⟨hL5, by omega⟩
        have htl : tb < lo := by rw [hlo]; exact hL5.lt
        have hgl : g < lo := by have := hL5.ord; omega
        have hap : Keep (ts = [] ∨ ∃ k, blk ad = some k ∧ k < lo) := ⟨by
          rcases hL5.el with h | ⟨k, rfl, _, hk, _⟩
          · exact .inl h
          · exact .inr ⟨k, rfl, by omega⟩⟩
        have HLO : Keep (lo = w5.heap.size) := ⟨hlo⟩
        have HL : Keep (LD6 g a cap zs w rs tb ad cp ts (p' + 1 + 1) w5) := ⟨hL5⟩
        clear hlo hL5
        have hPth : ∀ (X : World) (p1 : Nat), QN lo g a cap zs w rs tb ad cp ts p1 X → p1 ≤ 100000000 → Calls Try.prog 61 #[.pointer (some ⟨g, 0, none⟩)] X fun e W' => ∃ s : ByteArray, e = .returned (.string s) ∧ s.size ≤ 40 ∧ X.grownBy W' (some g) ∧ ∃ p2, p2 ≤ p1 + 8 ∧ QN lo g a cap zs w rs tb ad cp ts p2 W' := fun X p1 hX hp1 =>
          (path_any g a cap zs p1 X hX.ld.rd hp1).mono (fun e W' ⟨s, he, hs, ⟨p2, hp2, hR2⟩, hg2⟩ => ⟨s, he, hs, hg2, p2, hp2, hX.step hg2 hR2⟩)
        have hTxt : ∀ (X : World) (p1 : Nat), QN lo g a cap zs w rs tb ad cp ts p1 X → p1 ≤ 100000000 → Calls Try.prog 62 #[.pointer (some ⟨g, 0, none⟩)] X fun e W' => ∃ s : ByteArray, e = .returned (.string s) ∧ s.size ≤ 20 ∧ X.grownBy W' (some g) ∧ ∃ p2, p2 ≤ p1 + 10 ∧ QN lo g a cap zs w rs tb ad cp ts p2 W' := fun X p1 hX hp1 =>
          (text_any g a cap zs p1 X hX.ld.rd hp1).mono (fun e W' ⟨s, he, hs, ⟨p2, hp2, hR2⟩, hg2⟩ => ⟨s, he, hs, hg2, p2, hp2, hX.step hg2 hR2⟩)
        have hPut : ∀ (X : World) (p1 : Nat) (en : En), QN lo g a cap zs w rs tb ad cp ts p1 X → Calls Try.prog 35 #[.agg #[.slice ad ts.length cp], .agg #[.string en.path, .string en.text, .bool en.runs]] X fun e W' => ∃ us c ad2 cp2, PutR ts en us c ∧ e = .returned (TreeV ad2 us.length cp2 c) ∧ EL X.heap.size W' ad2 us ∧ us.length ≤ cp2 ∧ X.grownBy W' (some g) ∧ QN lo g a cap zs w rs tb ad cp ts p1 W' := fun X p1 en hX =>
          (specPutC_any ad cp ts en X hX.ld.el.es (by omega)).mono (fun e W' ⟨us, c, hR, ⟨ad2, cp2, he, hel, hroom⟩, hb⟩ => ⟨us, c, ad2, cp2, hR, he, hel, hroom, gr_below hb, hX.step (gr_below hb) (hX.ld.rd.below hb)⟩)
        have c0 := HL.out.tc
        have c0a := fun o => (HL.out.al o).tc
        have q0 := Q0.drew
        go_upto_region 7 with fail
        go_cut [11, 12] from 18 to 129 (fun pv cc wx => CutN g a cap zs w rs tb ad cp ts 40 20 (p' + 20) pv cc wx)
        case first =>
          go_region_with (first | (go_at_call 61; refine (hPth _ (p' + 1 + 1) ?_ (by omega)).mono ?_; (first | with_reducible exact q0 | with_reducible exact (Q0.al _).drew); rintro e wA ⟨sP, rfl, hsP, hgA, pA, hpA, QA⟩; (try (with_reducible have N := NC.newD (g := g) (lo := lo) Q0.sz hgA hgl)); have cA := QA.ld.tc; have cAa := fun o => (QA.al o).ld.tc) | (go_at_call 62; refine (hTxt _ pA ?_ (by omega)).mono ?_; (first | with_reducible exact QA | with_reducible exact QA.al _); rintro e wB ⟨sT, rfl, hsT, hgB, pB, hpB, QB⟩; (try (with_reducible have N := N.step hgB hgl)); (try (with_reducible have N := NC.newA (g := g) (lo := lo) QA.sz hgB hgl)); have cB := QB.ld.tc; have cBa := fun o => (QB.al o).ld.tc) | (go_at_call 35; refine (hPut _ pB ⟨sP, sT, false⟩ ?_).mono ?_; (first | with_reducible exact QB | with_reducible exact QB.al _); rintro e wD ⟨us, c, ad2, cp2, hR, rfl, hel, hroom, hgD, QE⟩; (try (have hnB := N.lt)); (try (with_reducible have N := N.step hgD hgl)); (try (with_reducible have N := NC.newA (g := g) (lo := lo) QB.sz hgD hgl)); (try (have n0 := N.cell; have nf := N.fz)); unfold TreeV))
          all_goals
            go_wp2_with fail
            go_meet
            case rel =>
              first
                | exact cutN_mk (fun e he => by rw [List.mem_singleton.1 he]; exact ⟨hsP, hsT⟩) hR hel hroom (by first | exact QB.ld.lt | exact (QB.al _).ld.lt) QE.ld (by omega)
                | exact cutN_mk' (fun e he => by rw [List.mem_singleton.1 he]; exact ⟨hsP, hsT⟩) hR hel hroom (by first | exact QB.ld.lt | exact (QB.al _).ld.lt) QE.ld (by omega) N (by first | exact hnB | simp) htl hap.out
        case rest =>
          obtain ⟨us, c, ad', cp', nc, p2, en, rfl, rfl, hTy, hR, hel, hroom, hnc, hL2, hp2⟩ := hcut
          clear hPth hTxt hPut c0 c0a q0 Q0 HL
          by_cases hc : c = 0
          · have hB : (c == 0) = true := by simp [hc]
            rw [hc] at hR
            obtain ⟨ha1, ha2, ha3, ha4⟩ := put_asc hR
            have HT2 : Keep (NT (Asc t0) (q - 1) ad' cp' us) := ⟨⟨fun x hx => by
              rcases ha4 x hx with rfl | h4
              · have := hTy x (by simp); omega
              · exact HT1.out.1 x h4, NilOk.ne hel ha3, hroom, fun _ => ha1⟩⟩
            have t1 := hL2.tc
            have t2 := hL2.tf
            have hL3 := hL2.putNew (cp' := cp') hel (Nat.lt_succ_self _)
            clear hR ha1 ha3 ha4 hel hL2 hc HT HT1
            go_wp2
            go_roundw
            case rel => exact ⟨q - 1, p2, ad', cp', us, by congr 1; omega, by omega, by omega, hL3, HT2, by omega⟩
            case measure => simp only [intOf]; omega
          · have hB : (c == 0) = false := by simp [hc]
            clear hR hel hc
            go_wp2
            go_roundw
            case rel => exact ⟨q - 1, p2, ad, cp, ts, by congr 1; omega, by omega, by omega, hL2, HT1, hn⟩
            case measure => simp only [intOf]; omega
      by_cases hne : ts = []
      · have hl0 : ¬ (0 : Int) < ts.length := by rw [hne]; simp
        clear hne
        have h5 : ((y : Int) == 0) = true ∨ (((y : Int) == 0) = false ∧ ((y : Int) == 1) = true) ∨ (((y : Int) == 0) = false ∧ ((y : Int) == 1) = false ∧ ((y : Int) == 2) = true) ∨ (((y : Int) == 0) = false ∧ ((y : Int) == 1) = false ∧ ((y : Int) == 2) = false ∧ ((y : Int) == 3) = true) ∨ (((y : Int) == 0) = false ∧ ((y : Int) == 1) = false ∧ ((y : Int) == 2) = false ∧ ((y : Int) == 3) = false ∧ ((y : Int) == 4) = true) := by simp; omega
        rcases h5 with hB0 | ⟨hB0, hB1⟩ | ⟨hB0, hB1, hB2⟩ | ⟨hB0, hB1, hB2, hB3⟩ | ⟨hB0, hB1, hB2, hB3, hB4⟩
        all_goals
          go_wp2
          go_roundw
          case rel => exact ⟨q - 1, p' + 1 + 1, ad, cp, ts, by congr 1; omega, by omega, by omega, hL5, HT1, hn⟩
          case measure => simp only [intOf]; omega
      have hl0 : (0 : Int) < ts.length := by have := List.length_pos_iff.2 hne; omega
      obtain ⟨gb, rfl⟩ : ∃ gb, ad = some ⟨gb, 0, none⟩ := by
        rcases hL5.el with h0 | ⟨g', e, _⟩
        · exact absurd h0 hne
        · exact ⟨g', e⟩
      have hk1 : k < ts.length := hk (by omega)
      have hk' : (k : Int) < ts.length := by omega
      clear hk hkm
      obtain ⟨⟨x0, x1, x2⟩, xf, xlt⟩ := hL5.cells hk1
      have hkT := HT.out.1 _ (List.getElem_mem hk1)
      have hroom0 := HT.out.2.2.1
      by_cases hy0 : y = 0
      · -- an entry is taken out
        have hB0 : ((y : Int) == 0) = true := by simp; omega
        clear hy0 hy5 x0 x1 x2 xf
        obtain ⟨H, hH⟩ : ∃ H, H = w5.heap.size := ⟨_, rfl⟩
        have M0 := Mk.start hL5 xlt
        have hcA := cut_lo gb cp ts.length k (by omega) (by omega)
        obtain ⟨adB, nB, cB, HnB, hcB, hnewB⟩ := cut_hi gb cp ts k hk1 hroom0
        obtain ⟨us, hus⟩ : ∃ us, us = ts.take k ++ ts.drop (k + 1) := ⟨_, rfl⟩
        have HUS : Keep (us = ts.take k ++ ts.drop (k + 1)) := ⟨hus⟩
        have HUL : Keep (us.length + 1 = ts.length) := ⟨by rw [hus]; simp; omega⟩
        clear hus
        have HA1 : Keep (∀ ty, ∃ v' W', (Builtin.append_ #[30, 30] ty #[.slice (some ⟨w5.heap.size, 0, none⟩) 0 0, .slice (some ⟨gb, 0, none⟩) k cp]).run Try.prog (w5.alloc (.cells #[] 72)).drew = .ok v' W' ∧ (∃ ad3 cp3, v' = .slice ad3 k cp3 ∧ Mk H g a cap zs w rs tb gb cp ts (p' + 1 + 1) (.slice ad3 k cp3) (ts.take k) W')) := ⟨fun ty => by
          have h1 := mk_app i0 _ hi hz0 hz1 hzi rfl M0 ⟨gb, 0, none⟩ cp (ts.take k) (by have h2 := el_news M0.ld.el 0 k; simpa using h2) (by simp; omega) ty
          have h3 : (ts.take k).length = k := by rw [List.length_take]; omega
          rw [List.nil_append, h3, ← hH] at h1
          rw [← hH]
          exact h1⟩
        have HA2 : Keep (∀ (ad7 : Option Addr) (cp7 : Nat) (W7 : World), Mk H g a cap zs w rs tb gb cp ts (p' + 1 + 1) (.slice ad7 k cp7) (ts.take k) W7 → ∀ ty, ∃ v' W', (Builtin.append_ #[30, 30] ty #[.slice ad7 k cp7, .slice (some adB) nB cB]).run Try.prog W7 = .ok v' W' ∧ (∃ ad3 cp3, v' = .slice ad3 us.length cp3 ∧ Mk H g a cap zs w rs tb gb cp ts (p' + 1 + 1) (.slice ad3 us.length cp3) us W')) := ⟨fun ad7 cp7 W7 M7 ty => by
          have h1 := mk_app i0 _ hi hz0 hz1 hzi rfl M7 adB cB (ts.drop (k + 1)) (hnewB _ _ M7.ld.el) (by simp; omega) ty
          rw [← HnB.out, ← HUS.out] at h1
          exact h1⟩
        have o1a : ∀ o, (w5.alloc o).cell? ⟨tb, 0, none⟩ = some (.slice (some ⟨gb, 0, none⟩) ts.length cp) := fun o => (hL5.al o).tc
        have hwK : IntKind.i64.wrap ((k : Int) + 1) = (k : Int) + 1 := by rw [IntKind.wrap_i64] <;> omega
        have HM : Keep (NT (Asc t0) (q - 1) (some ⟨gb, 0, none⟩) cp ts) := HT1
        clear hH M0 HT HT1 hkT hnewB
        go_upto_region 12 with fail
        go_region_law (first
          | (refine step_append_run (by rfl) _ _ _ (by rfl) _ _ (by rfl) (by rfl) _ HA7.out ?_; rintro v8 w8 ⟨ad8, cp8, rfl, M8⟩; have c8 := M8.ld.tc; have f8 := M8.ld.tf)
          | (refine step_append_run (by rfl) _ _ _ (by rfl) _ _ (by rfl) (by rfl) _ HA1.out ?_; rintro v7 w7 ⟨ad7, cp7, rfl, M7⟩; have c7 := M7.ld.tc; have HA7 : Keep _ := ⟨HA2.out ad7 cp7 w7 M7⟩))
        all_goals
          obtain ⟨L9, hr9, hn9⟩ := M8.store
          have HT9 : Keep (NT (Asc t0) (q - 1) ad8 cp8 us) := ⟨⟨by rw [HUS.out]; exact HM.out.1.erase, hn9, hr9, fun hA => by rw [HUS.out]; exact asc_erase (HM.out.2.2.2 hA)⟩⟩
          clear M7 M8 c7 c8 f8 HA1 HA2 HA7 hr9 hn9 o1a
          go_wp2
          go_roundw
          case rel => exact ⟨q - 1, p' + 1 + 1, ad8, cp8, us, by congr 1; omega, by omega, by omega, L9, HT9, by have := HUL.out; omega⟩
          case measure => simp only [intOf]; omega
      have hB0 : ((y : Int) == 0) = false := by simp; omega
      by_cases hy4 : y = 4
      · -- whether it runs is turned
        have hB1 : ((y : Int) == 1) = false := by simp; omega
        have hB2 : ((y : Int) == 2) = false := by simp; omega
        have hB3 : ((y : Int) == 3) = false := by simp; omega
        have hB4 : ((y : Int) == 4) = true := by simp; omega
        clear hy0 hy5 hy4 x0 x1
        have L7 := hL5.turn hne (hL5.el.setRuns (s := !ts[k].runs) hk1) (by simp)
        have L8 := hL5.drew.turn hne (hL5.drew.el.setRuns (s := !ts[k].runs) hk1) (by simp)
        have HT9 : Keep (NT (Asc t0) (q - 1) (some ⟨gb, 0, none⟩) cp (ts.set k ⟨ts[k].path, ts[k].text, !ts[k].runs⟩)) := ⟨⟨HT1.out.1.set ⟨(HT1.out.1 ts[k] (List.getElem_mem hk1)).1, (HT1.out.1 ts[k] (List.getElem_mem hk1)).2⟩, HT1.out.2.1, by rw [List.length_set]; exact hroom0, fun hA => asc_setE (HT1.out.2.2.2 hA) hk1⟩⟩
        have hnn : (ts.set k ⟨ts[k].path, ts[k].text, !ts[k].runs⟩).length ≤ 103 := by rw [List.length_set]; exact hn
        clear hL5 HT HT1 hkT hne
        generalize ts[k].runs = rb at *
        generalize ts.set k ⟨ts[k].path, ts[k].text, !rb⟩ = us at *
        go_upto_region 27 with fail
        go_region
        all_goals
          go_wp2
          go_roundw
          case rel => exact ⟨q - 1, p' + 1 + 1, some ⟨gb, 0, none⟩, cp, us, by congr 1; omega, by omega, by omega, by first | exact L7 | exact L8 | exact L7.drew, HT9, hnn⟩
          case measure => simp only [intOf]; omega
      -- a line is put in, or taken out
      obtain ⟨tx, htx⟩ : ∃ tx, tx = ts[k].text := ⟨_, rfl⟩
      rw [← htx] at x1
      have htz : tx.size ≤ 1620 - 5 * q := by rw [htx]; exact hkT.2
      have hkp : ts[k].path.size ≤ 100 := hkT.1
      have hgw : g < w5.heap.size := by have := hL5.ord; have := hL5.lt; omega
      have hLn := specLines_any tx w5
      have h3 : ((y : Int) == 1) = true ∨ (((y : Int) == 1) = false ∧ ((y : Int) == 2) = true) ∨ (((y : Int) == 1) = false ∧ ((y : Int) == 2) = false ∧ ((y : Int) == 3) = true) := by simp; omega
      have HNE : Keep (ts ≠ []) := ⟨hne⟩
      have HR0 : Keep (ts.length ≤ cp) := ⟨hroom0⟩
      clear htx x0 x2 hkT hy0 hy5 hy4 hne hroom0 HT
      go_upto_if 61 with fail
      go_cut [61] from 18 to 129 (fun v wx => v = .bool true ∧ w5 = wx)
      case first =>
        rcases h3 with hB1 | ⟨hB1, hB2⟩ | ⟨hB1, hB2, hB3⟩
        all_goals
          go_wp2_with fail
          go_meet
          case rel => exact ⟨by first | rfl | rw [hB1], rfl⟩
      case rest =>
        clear h3
        obtain ⟨rfl, rfl⟩ := hcut
        go_wp2_with fail
        refine hLn.mono ?_
        rintro e w6 ⟨adL, cL, rfl, hrowL, hb6⟩
        have hN6 : NTx w5.heap.size g a cap zs w rs tb (some ⟨gb, 0, none⟩) cp ts (p' + 1 + 1) adL cL (linesT tx) w6 := ⟨hL5.later hb6, hrowL, hgw⟩
        have hll := linesT_le tx
        have hcl := cat_lines_le tx
        clear hLn hrowL hb6 hL5 x1 t5 xf xlt
        generalize linesT tx = ls at *
        generalize w5.heap.size = B at *
        go_wp2_with fail
        refine (pick_int g a cap zs (p' + 1 + 1) ((ls.length : Int) + 1) w6 hN6.ld.rd (by omega) (by omega)).mono ?_
        rintro e w7 ⟨j0, rfl, hj0, hj1, hg7, hR7⟩
        obtain ⟨j, rfl⟩ := Int.eq_ofNat_of_zero_le hj0
        have hN7 := hN6.step hg7 hR7
        clear hN6 hg7 hR7 hj0
        have hcs := cat_split ls j
        obtain ⟨vA, hsA, hRA⟩ := lo_at (row_room hN7.row) (ss_of_rowN hN7.row) (show j ≤ ls.length by omega)
        have hTx := l7Text_any vA (ls.take j) w7 hRA (by simp; omega) (by omega)
        clear hRA
        go_wp2_with fail
        refine hTx.mono ?_
        rintro e w8 ⟨rfl, hb8⟩
        have hN8 := hN7.later hb8
        have hsz := lnB_size (catL (ls.take j))
        generalize lnB (catL (ls.take j)) = sA at *
        have HCS : Keep ((catL (ls.take j)).length + (catL (ls.drop j)).length = (catL ls).length ∧ sA.size = (catL (ls.take j)).length) := ⟨⟨hcs, hsz⟩⟩
        have hsA2 : sA.size ≤ 1700 := by omega
        clear hTx hN7 hb8 hsA hcs hsz
        go_wp2_with fail
        refine (pick_any g a cap zs (p' + 1 + 1 + 1) 2 w8 hN8.ld.rd (by omega) (by omega) (by omega)).mono ?_
        rintro e w9 ⟨z, rfl, hz, hg9, hR9⟩
        have hN9 := hN8.step hg9 hR9
        clear hN8 hg9 hR9
        go_upto_if 87 with fail
        go_cut [9, 10] from 18 to 129 (fun jv sv wx => ∃ (j' p9 : Nat) (s' : ByteArray), jv = .int .i64 j' ∧ sv = .string s' ∧ j' ≤ ls.length ∧ Keep (s'.size + (catL (ls.drop j')).length ≤ tx.size + 5) ∧ s'.size ≤ 1800 ∧ p9 ≤ p' + 5 ∧ NTx B g a cap zs w rs tb (some ⟨gb, 0, none⟩) cp ts p9 adL cL ls wx)
        case first =>
          by_cases z0 : z = 0
          · have hBz : ((z : Int) == 0) = true := by simp; omega
            clear z0
            go_wp2_with fail
            refine (pick_any g a cap zs (p' + 1 + 1 + 1 + 1) 3 w9 hN9.ld.rd (by omega) (by omega) (by omega)).mono ?_
            rintro e w10 ⟨d, rfl, hd, hg10, hR10⟩
            have hN10 := hN9.step hg10 hR10
            clear hN9 hg10 hR10
            go_wp2_with fail
            refine (dec_any d w10 (by omega)).mono ?_
            rintro e w11 ⟨sD, rfl, hsD, hb11⟩
            have hN11 := hN10.later hb11
            have u1 : ¬ 9223372036854775807 < sA.size + 3 := by omega
            have u2 : ¬ 9223372036854775807 < (sA ++ ⟨#[110, 101, 119]⟩).size + sD.size := by rw [ByteArray.size_append]; show ¬ _ < sA.size + 3 + _; omega
            have u3 : ¬ 9223372036854775807 < (sA ++ ⟨#[110, 101, 119]⟩ ++ sD).size + 1 := by rw [ByteArray.size_append, ByteArray.size_append]; show ¬ _ < sA.size + 3 + _ + _; omega
            have HZ : Keep ((sA ++ ⟨#[110, 101, 119]⟩ ++ sD ++ ⟨#[10]⟩).size = sA.size + 5) := ⟨by rw [ByteArray.size_append, ByteArray.size_append, ByteArray.size_append, hsD]; show sA.size + 3 + 1 + 1 = _; omega⟩
            clear hN10 hb11
            go_wp2_with fail
            go_meet
            case rel => exact ⟨j, p' + 1 + 1 + 1 + 1 + 1, _, rfl, rfl, by omega, ⟨by rw [HZ.out]; have := HCS.out; omega⟩, by rw [HZ.out]; omega, by omega, hN11⟩
          · have hBz : ((z : Int) == 0) = false := by simp; omega
            clear z0
            by_cases hjl : j < ls.length
            · have hjl' : (j : Int) < ls.length := by omega
              go_wp2_with fail
              go_meet
              case rel => exact ⟨j + 1, p' + 1 + 1 + 1 + 1, sA, by congr 1, rfl, by omega, ⟨by have := HCS.out; have := cat_drop_le ls j; omega⟩, by omega, by omega, hN9⟩
            · have hjl' : ¬ (j : Int) < ls.length := by omega
              go_wp2_with fail
              go_meet
              case rel => exact ⟨j, p' + 1 + 1 + 1 + 1, sA, rfl, rfl, by omega, ⟨by have := HCS.out; omega⟩, by omega, by omega, hN9⟩
        case rest =>
          clear hN9 HCS hsA2 hj1
          obtain ⟨j', p9, s', rfl, rfl, hj', HS, hs18, hp9, hN⟩ := hcut
          have hNd := hN.later (W' := wc.drew) (Below.refl _ _).drew
          obtain ⟨vB, hsB, hRB⟩ := hi_at (row_room hNd.row) (ss_of_rowN hNd.row) hj'
          have hTx := l7Text_any vB (ls.drop j') wc.drew hRB (by simp; omega) (by have := HS.out; omega)
          have hsz := lnB_size (catL (ls.drop j'))
          generalize lnB (catL (ls.drop j')) = sB at *
          have HZ : Keep ((s' ++ sB).size ≤ tx.size + 5) := ⟨by rw [ByteArray.size_append, hsz]; exact HS.out⟩
          have hsb : sB.size ≤ 1800 := by rw [hsz]; have := HS.out; omega
          have u1 : ¬ 9223372036854775807 < s'.size + sB.size := by omega
          have tc9 := hN.ld.tc
          have hafter : ∀ W' : World, Below wc.drew.heap.size wc.drew W' → LD6 g a cap zs w rs tb (some ⟨gb, 0, none⟩) cp ts p9 W' := fun W' hb => hNd.ld.later hb
          clear hsz hRB hN hNd HS
          go_upto_region 24 with fail
          go_region_with (go_at_call 65; refine hTx.mono ?_; rintro e w12 ⟨rfl, hb12⟩; have hL12 := hafter w12 hb12; have tc12 := hL12.tc; have xc12 := (hL12.cells hk1).1.2.1; have xf12 := (hL12.cells hk1).2.1)
          all_goals
            have L13 := hL12.turn HNE.out (hL12.el.setText (s := s' ++ sB) hk1) (by simp)
            have HT9 : Keep (NT (Asc t0) (q - 1) (some ⟨gb, 0, none⟩) cp (ts.set k ⟨ts[k].path, s' ++ sB, ts[k].runs⟩)) := ⟨⟨HT1.out.1.set ⟨hkp, by have := HZ.out; show (s' ++ sB).size ≤ _; omega⟩, HT1.out.2.1, by rw [List.length_set]; exact HR0.out, fun hA => asc_setE (HT1.out.2.2.2 hA) hk1⟩⟩
            have hnn : (ts.set k ⟨ts[k].path, s' ++ sB, ts[k].runs⟩).length ≤ 103 := by rw [List.length_set]; exact hn
            generalize ts.set k ⟨ts[k].path, s' ++ sB, ts[k].runs⟩ = us at *
            clear hL12 tc12 xc12 xf12 hTx hafter hsB
            go_wp2
            go_roundw
            case rel => exact ⟨q - 1, p9, some ⟨gb, 0, none⟩, cp, us, by congr 1; omega, by omega, by omega, L13, HT9, hnn⟩
            case measure => simp only [intOf]; omega
    · obtain rfl : q = 0 := by omega
      have t1 := hL.tc
      have t2 := hL.rc
      have t3 := hL.rf
      obtain ⟨he1, he2⟩ := hL.back (p := p) (K := 100) (by omega)
      clear hL
      go_wp2
      refine bodyPost_ret (v := .agg #[.slice ad ts.length cp]) ?_ rfl ⟨ad, cp, ts, rfl, he1, hn, HT.out.1.wide (Nat.le_refl _) (by omega), HT.out.2.1, he2, HT.out.2.2.2, HT.out.2.2.1⟩
      go_light
      simp [results, Try.results32, go_sem, t2]
theorem l5Near_any (g : Nat) (a : Option Addr) (cap : Nat) (zs : List Int) (p : Nat) (ad0 : Option Addr) (cp0 : Nat) (t0 : List En) (w : World) (h : Rd w g a cap zs p) (hp : p ≤ 10000000) (hes : ES w ad0 t0) (hno : NilOk ad0 cp0) (hT : Tiny 100 1600 t0) (hn : t0.length ≤ 103) :
    Calls Try.prog 32 #[.pointer (some ⟨g, 0, none⟩), .agg #[.slice ad0 t0.length cp0]] w (TreeS 100 1620 103 g a cap zs 100 p w) :=
  (l5NearA_any g a cap zs p ad0 cp0 t0 w h hp hes hno hT hn).mono (fun _ _ ⟨ad, cp, ts, h1, h2, h3, h4, h5, h6, _⟩ => ⟨ad, cp, ts, h1, h2, h3, h4, h5, h6⟩)
end Go.Proofs.Ytockgapdfcapnaa
