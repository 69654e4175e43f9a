/-
  impl.MergeText.
-/
import Derived.Test.YtogefpbmchnaaaaMergeSX
import Derived.Test.YtogefpbmchnaaaaStandI
import Derived.Test.YtogefpbmchnaaaaJoinB
import Derived.Test.YtogefpbmchnaaaaLinesI
namespace Go.Proofs.Ytogefpbmchnaaaa
open Go.RowKit

/-- Places, each behind the one before, in bounds. -/
def Chain (lb la lc : List ByteArray) : Pl → List Pl → Prop
  | _, [] => True
  | f, t :: ts => f.1 ≤ t.1 ∧ f.2.1 ≤ t.2.1 ∧ f.2.2 ≤ t.2.2 ∧ t.1 ≤ lb.length ∧ t.2.1 ≤ la.length ∧ t.2.2 ≤ lc.length ∧ Chain lb la lc t ts
theorem chain_of {lb la lc : List ByteArray} : ∀ {ts : List Pl} {f : Pl}, Stands lb la lc f ts → f.1 ≤ lb.length → f.2.1 ≤ la.length → f.2.2 ≤ lc.length → Chain lb la lc f (ts ++ [(lb.length, la.length, lc.length)])
  | [], f, _, h1, h2, h3 => ⟨h1, h2, h3, Nat.le_refl _, Nat.le_refl _, Nat.le_refl _, trivial⟩
  | t :: ts, f, h, h1, h2, h3 => by
    obtain ⟨a1, a2, a3, a4, a5, a6, _, _, hr⟩ := h
    exact ⟨a1, a2, a3, by omega, by omega, by omega, chain_of (hr.mono (by simp) (by simp) (by simp)) (by omega) (by omega) (by omega)⟩

theorem plC_get : ∀ (ts : List Pl) (i : Nat) (h : i < ts.length), (plC ts)[i * 3]? = some (.int .i64 (ts[i].1 : Int)) ∧ (plC ts)[i * 3 + 1]? = some (.int .i64 (ts[i].2.1 : Int)) ∧ (plC ts)[i * 3 + 2]? = some (.int .i64 (ts[i].2.2 : Int))
  | [], i, h => by simp at h
  | p :: ps, 0, h => by simp [plC]
  | p :: ps, i + 1, h => by
    have ih := plC_get ps i (by simpa using h)
    have e : plC (p :: ps) = .int .i64 (p.1 : Int) :: .int .i64 (p.2.1 : Int) :: .int .i64 (p.2.2 : Int) :: plC ps := by simp [plC]
    rw [e, show (i + 1) * 3 = i * 3 + 1 + 1 + 1 by omega]
    simpa using ih

theorem rdp_of_row {w : World} {base : Nat} {ad : Option Addr} {cp : Nat} {ps : List (Nat × Nat)} (h : w.ownsRow base 58 2 (.slice ad ps.length cp) ps.length (pairC ps)) : RdP w (.slice ad ps.length cp) ps := by
  refine ⟨ad, cp, rfl, ?_, ps_of_row h⟩
  rcases h.2 with ⟨hv, h0⟩ | ⟨g, c, cur, hv, _, _, h4, _⟩
  · omega
  · cases hv; exact h4

theorem row_ne {v : Value} {row : Option Nat} (h : ∀ k, v.ownBlock = some k → row = some k → False) : v.ownBlock = none ∨ v.ownBlock ≠ row := by
  cases hv : v.ownBlock with
  | none => exact .inl rfl
  | some k => exact .inr (fun e => h k hv e.symm)

set_option maxRecDepth 20000 in
set_option maxHeartbeats 8000000 in
theorem implMerge_small (sb sa sc : ByteArray) (pa pb : List (Nat × Nat)) (w : World) (h1 : sb.size ≤ 1500) (h2 : sa.size ≤ 1500) (h3 : sc.size ≤ 1500) (hpa : CommT (linesB sb) (linesB sa) pa) (hpb : CommT (linesB sb) (linesB sc) pb) :
    Calls Try.prog 6 #[.string sb, .string sa, .string sc] w fun e w' => e = .returned (mrgV (mergeL (linesB sb) (linesB sa) (linesB sc) pa pb)) ∧ Below w.heap.size w w' := by
  obtain ⟨ti, hti, hz0, hz1, hz2⟩ := info_parts Try.infoPlace
  have e1 : decide ((1500 : Int) < sb.size) = false := by simp; omega
  have e2 : decide ((1500 : Int) < sa.size) = false := by simp; omega
  have e3 : decide ((1500 : Int) < sc.size) = false := by simp; omega
  have cLb := fun W => implLines_any sb W
  have cLa := fun W => implLines_any sa W
  have cLc := fun W => implLines_any sc W
  unfold linesT at cLb cLa cLc
  rw [if_pos h1] at cLb
  rw [if_pos h2] at cLa
  rw [if_pos h3] at cLc
  have nb := linesB_le sb
  have na := linesB_le sa
  have nc := linesB_le sc
  have gb := seg_lines sb
  have ga := seg_lines sa
  have gc := seg_lines sc
  have zb : ∀ x ∈ linesB sb, x.size ≤ 1099511627776 := fun x hx => by have := line_size hx; omega
  have za : ∀ x ∈ linesB sa, x.size ≤ 1099511627776 := fun x hx => by have := line_size hx; omega
  have zc : ∀ x ∈ linesB sc, x.size ≤ 1099511627776 := fun x hx => by have := line_size hx; omega
  generalize linesB sb = lb at *
  generalize linesB sa = la at *
  generalize linesB sc = lc at *
  have hla := hpa.len
  have hlc := hpb.len
  have hAa := hpa.asc
  have hAb := hpb.asc
  have hch := chain_of (stands_all hpa hpb) (Nat.zero_le _) (Nat.zero_le _) (Nat.zero_le _)
  have hpl := placesP_len pa pb
  obtain ⟨Z, hZ⟩ : ∃ Z, mergeL lb la lc pa pb = Z := ⟨_, rfl⟩
  rw [hZ]
  have HZ : NKeep (runI lb la lc (0, 0, 0) (placesP pa pb ++ [(lb.length, la.length, lc.length)]) = Z) := ⟨hZ⟩
  clear hZ
  have cSt := fun a1 c1 v2 W k1 k2 => standing_any lb la lc pa pb a1 c1 v2 W k1 k2 hAa hAb hla hlc
  generalize placesP pa pb = ts at *
  go_enter Try.func6, Try.ntmps6
  go_wp2_with fail
  refine (cLb _).mono ?_
  rintro e w1 ⟨a1, c1, rfl, o1, b1⟩
  have hl1 : ∀ k, (Value.slice a1 lb.length c1).ownBlock = some k → k < w1.heap.size := fun k hk => own_lt o1 hk
  go_wp2_with fail
  refine (cLa _).mono ?_
  rintro e w2 ⟨a2, c2, rfl, o2, b2⟩
  have hl2 : ∀ k, (Value.slice a2 la.length c2).ownBlock = some k → k < w2.heap.size := fun k hk => own_lt o2 hk
  have bx2 := b1.trans (b2.mono b1.size)
  replace o1 := owns_below o1 b2
  go_wp2_with fail
  refine (cLc _).mono ?_
  rintro e w3 ⟨a3, c3, rfl, o3, b3⟩
  have hl3 : ∀ k, (Value.slice a3 lc.length c3).ownBlock = some k → k < w3.heap.size := fun k hk => own_lt o3 hk
  have bx3 := bx2.trans (b3.mono bx2.size)
  replace o1 := owns_below o1 b3
  replace o2 := owns_below o2 b3
  clear cLb cLa cLc
  go_wp2_with fail
  refine (implCommon_any a1 a2 c1 c2 lb la pa w3 (rdl_of_row o1).2 (rdl_of_row o2).2 hpa zb za).mono ?_
  rintro e w4 ⟨a4, c4, rfl, o4, b4⟩
  have bx4 := bx3.trans (b4.mono bx3.size)
  replace o1 := owns_below o1 b4
  replace o2 := owns_below o2 b4
  replace o3 := owns_below o3 b4
  go_wp2_with fail
  refine (implCommon_any a1 a3 c1 c3 lb lc pb w4 (rdl_of_row o1).2 (rdl_of_row o3).2 hpb zb zc).mono ?_
  rintro e w5 ⟨a5, c5, rfl, o5, b5⟩
  have bx5 := bx4.trans (b5.mono bx4.size)
  replace o1 := owns_below o1 b5
  replace o2 := owns_below o2 b5
  replace o3 := owns_below o3 b5
  replace o4 := owns_below o4 b5
  go_wp2_with fail
  refine (cSt a4 c4 _ w5 (ps_of_row o4) (rdp_of_row o5)).mono ?_
  rintro e w6 ⟨a6, c6, rfl, o6, b6⟩
  have bx6 := bx5.trans (b6.mono bx5.size)
  replace o1 := owns_below o1 b6
  replace o2 := owns_below o2 b6
  replace o3 := owns_below o3 b6
  have hs56 := b6.size
  have hr1 : ∀ k, (Value.slice a1 lb.length c1).ownBlock = some k → k < w5.heap.size := fun k hk => Nat.lt_of_lt_of_le (hl1 k hk) (Nat.le_trans (Nat.le_trans (Nat.le_trans b2.size b3.size) b4.size) b5.size)
  have hr2 : ∀ k, (Value.slice a2 la.length c2).ownBlock = some k → k < w5.heap.size := fun k hk => Nat.lt_of_lt_of_le (hl2 k hk) (Nat.le_trans (Nat.le_trans b3.size b4.size) b5.size)
  have hr3 : ∀ k, (Value.slice a3 lc.length c3).ownBlock = some k → k < w5.heap.size := fun k hk => Nat.lt_of_lt_of_le (hl3 k hk) (Nat.le_trans b4.size b5.size)
  have h65 := owns_base o6
  clear o4 o5 cSt b1 b2 b3 b4 b5 b6 bx2 bx3 bx4 hpa hpb hAa hAb zb za zc hl1 hl2 hl3
  have hs6 := bx6.size
  go_wp2_with (at_builtin; refine wpList_append_own _ rfl _ _ 35 rfl w5.heap.size 38 ti _ 3 24 Try.underlying35 hti hz0 hz1 hz2 rfl (by decide) _ _ _ rfl (o6.alloc _) ⟨w6.heap.size, 0, none⟩ 1 1 [.int .i64 (lb.length : Int), .int .i64 (la.length : Int), .int .i64 (lc.length : Int)] rfl rfl (fun j' u h => World.news_of_block (w := w6.alloc _) (heap_alloc_new _ _) j' u h) (by simp [Value.oneCell']) (by unfold maxLen; omega) (by omega) (by simp; omega) ?_; intro v7 w7 o7 g7 _; obtain ⟨a7, c7, rfl⟩ := owns_slice o7)
  have bx7 : Below w.heap.size w w7 := (bx6.alloc hs6 _).grown g7 (by simp; omega) (fun k hk => by have := h65 k hk; have := bx5.size; omega)
  obtain ⟨q1, s1⟩ := rdl_of_row ((o1.alloc _).kept g7 (row_ne (fun k hk e => by have := hr1 k hk; have := h65 k e; omega)))
  obtain ⟨q2, s2⟩ := rdl_of_row ((o2.alloc _).kept g7 (row_ne (fun k hk e => by have := hr2 k hk; have := h65 k e; omega)))
  obtain ⟨q3, s3⟩ := rdl_of_row ((o3.alloc _).kept g7 (row_ne (fun k hk e => by have := hr3 k hk; have := h65 k e; omega)))
  rw [← plC_snoc] at o7
  have hs7 := bx7.size
  clear o1 o2 o3 o6 hr1 hr2 hr3 h65 g7 hs56 hs6 bx6 bx5
  obtain ⟨al, hal⟩ : ∃ al, al = ts ++ [(lb.length, la.length, lc.length)] := ⟨_, rfl⟩
  obtain ⟨N1, hN1⟩ : ∃ N1, N1 = ts.length + 1 := ⟨_, rfl⟩
  have hall : al.length = N1 := by rw [hal, hN1]; simp
  rw [← hal] at hch o7
  have HZ1 : NKeep (runI lb la lc (0, 0, 0) al = Z) := ⟨by rw [hal]; exact HZ.out⟩
  rw [← hN1] at o7
  rw [← hN1, show ((ts.length : Int) + 1) = (N1 : Int) by omega]
  have hN2 : N1 ≤ 1501 := by omega
  obtain ⟨g7, hg7, o7c⟩ : ∃ g7, a7 = some ⟨g7, 0, none⟩ ∧ ∀ k (hk : k < al.length), w7.cell? ⟨g7, k * 3, none⟩ = some (.int .i64 (al[k].1 : Int)) ∧ w7.cell? ⟨g7, k * 3 + 1, none⟩ = some (.int .i64 (al[k].2.1 : Int)) ∧ w7.cell? ⟨g7, k * 3 + 2, none⟩ = some (.int .i64 (al[k].2.2 : Int)) := by
    rcases o7.2 with ⟨_, h0⟩ | ⟨g, c, cur, hv, _⟩
    · omega
    · cases hv
      refine ⟨g, rfl, fun k hk => ?_⟩
      obtain ⟨x0, x1, x2⟩ := plC_get al k hk
      exact ⟨(World.ownsRow.cellAt o7 _ (by omega)).trans x0, (World.ownsRow.cellAt o7 _ (by omega)).trans x1, (World.ownsRow.cellAt o7 _ (by omega)).trans x2⟩
  rw [hg7]
  obtain ⟨W0, hW0⟩ : ∃ W0, (w7.alloc (.cells #[.pointer none, .slice none 0 0] 41)).alloc (.cells #[.int .i64 0, .int .i64 0, .int .i64 0] 38) = W0 := ⟨_, rfl⟩
  have hb0 : Below w7.heap.size w7 W0 := by rw [← hW0]; exact ((Below.refl _ _).alloc (Nat.le_refl _) _).alloc (by simp) _
  have hf0 : W0.heap[w7.heap.size + 1]? = some (.cells #[.int .i64 0, .int .i64 0, .int .i64 0] 38) := by rw [← hW0]; exact heap_alloc2 w7 _ _
  have hm0 : BldM w7.heap.size w7.heap.size [] W0 := by
    refine .inl ⟨Nat.le_refl _, .slice none 0 0, ?_, ⟨rfl, .inl ⟨rfl, rfl⟩⟩, by simp [Value.ownBlock]⟩
    rw [← hW0]
    exact (Below.heap_alloc _ _ _ (by simp)).trans (heap_alloc_new w7 _)
  rw [hW0]
  clear hW0 hal hN1 hg7 o7 HZ
  go_loopg [56] N1 (fun gk ix wr => ∃ (k : Nat) (f : Pl) (out : List UInt8), k + gk = N1 ∧ ix = .int .i64 (k : Int) ∧ NKeep (Chain lb la lc f (al.drop k) ∧ Z = (runI lb la lc f (al.drop k)).map (out ++ ·)) ∧ out.length ≤ 1500 * k ∧ NKeep (BldM w7.heap.size w7.heap.size out wr) ∧
    wr.heap[w7.heap.size + 1]? = some (.cells #[.int .i64 (f.1 : Int), .int .i64 (f.2.1 : Int), .int .i64 (f.2.2 : Int)] 38) ∧ Below w7.heap.size w7 wr)
  case atStart => exact ⟨0, (0, 0, 0), [], by omega, rfl, ⟨hch, by rw [← HZ1.out]; simp⟩, Nat.zero_le _, ⟨hm0⟩, hf0, hb0⟩
  case round =>
    obtain ⟨k, f, out, hkg, rfl, HK, hol, HM, hF, hB⟩ := hrel
    have hbw : Below w.heap.size w wr := bx7.trans (hB.mono hs7)
    have hsB := hB.size
    cases gk with
    | zero =>
      obtain rfl : k = N1 := by omega
      have HZ2 : NKeep (Z = some out) := ⟨by rw [HK.out.2, List.drop_of_length_le (by omega)]; simp [runI]⟩
      have hstr := stringB_any w7.heap.size w7.heap.size out wr HM.out hsB
      go_wp2_with (go_at_call 18; refine hstr.mono ?_; rintro e w8 ⟨rfl, hb8⟩)
      go_ret2
      rw [HZ2.out]
      exact ⟨rfl, hbw.trans (hb8.mono hs7)⟩
    | succ gq =>
      have hk : k < al.length := by omega
      have hk' : (k : Int) < N1 := by omega
      have hdr : al.drop k = al[k] :: al.drop (k + 1) := List.drop_eq_getElem_cons hk
      obtain ⟨x0', x1', x2'⟩ := o7c k hk
      have x0 := cell_later hB x0'
      have x1 := cell_later hB x1'
      have x2 := cell_later hB x2'
      clear x0' x1' x2'
      have HK2 := HK.out
      rw [hdr] at HK2
      obtain ⟨t, ht⟩ : ∃ t, al[k] = t := ⟨_, rfl⟩
      rw [ht] at HK2 x0 x1 x2
      obtain ⟨⟨y1, y2, y3, y4, y5, y6, hcn⟩, hzz⟩ := HK2
      rw [runI] at hzz
      have HCN : NKeep (Chain lb la lc t (al.drop (k + 1))) := ⟨hcn⟩
      clear hdr ht hcn HK
      obtain ⟨f1, f2, f3⟩ := f
      obtain ⟨t1, t2, t3⟩ := t
      simp only at y1 y2 y3 y4 y5 y6 hzz x0 x1 x2 hF
      go_wp2
      obtain ⟨q, hq⟩ : ∃ q, wr.heap.size = q := ⟨_, rfl⟩
      obtain ⟨W2, hW2⟩ : ∃ W2, wr.alloc (.cells #[.int .i64 (t1 : Int), .int .i64 (t2 : Int), .int .i64 (t3 : Int)] 38) = W2 := ⟨_, rfl⟩
      have hb2 : Below wr.heap.size wr W2 := by rw [← hW2]; exact (Below.refl _ _).alloc (Nat.le_refl _) _
      have hbF : w7.heap.size + 1 < wr.heap.size := (Array.getElem?_eq_some_iff.1 hF).1
      have hq2 : W2.heap[q]? = some (.cells #[.int .i64 (t1 : Int), .int .i64 (t2 : Int), .int .i64 (t3 : Int)] 38) := by rw [← hW2, ← hq]; exact heap_alloc_new wr _
      have hF2 := (hb2.block _ hbF).trans hF
      have HM2 : NKeep (BldM w7.heap.size w7.heap.size out W2) := ⟨HM.out.below hb2⟩
      have hB2 : Below w7.heap.size w7 W2 := hB.trans (hb2.mono hsB)
      have hsz2 : wr.heap.size < W2.heap.size := by rw [hq]; exact (Array.getElem?_eq_some_iff.1 hq2).1
      rw [hq, hW2]
      have hbw2 : Below w.heap.size w W2 := bx7.trans (hB2.mono hs7)
      clear hW2 HM hF hb2 hB hbw x0 x1 x2
      obtain ⟨v1, hsl1, hr1⟩ := mid_at q1 (s1.below hB2) y1 y4
      obtain ⟨v2, hsl2, hr2⟩ := mid_at q2 (s2.below hB2) y2 y5
      obtain ⟨v3, hsl3, hr3⟩ := mid_at q3 (s3.below hB2) y3 y6
      have l1 := gb f1 t1
      have l2 := ga f2 t2
      have l3 := gc f3 t3
      have J1 : NKeep (∀ x : Later W2, Calls Try.prog 16 #[v1, .string ⟨#[]⟩] x.world fun e w'' => e = .returned (.string (lnB (seg lb f1 t1))) ∧ ∃ y : Later W2, w'' = y.world) := ⟨fun x => x.call (join_any v1 _ x.world (hr1.below x.kept) (by simp; omega) (Nat.le_trans l1 (by omega)))⟩
      have J2 : NKeep (∀ x : Later W2, Calls Try.prog 16 #[v2, .string ⟨#[]⟩] x.world fun e w'' => e = .returned (.string (lnB (seg la f2 t2))) ∧ ∃ y : Later W2, w'' = y.world) := ⟨fun x => x.call (join_any v2 _ x.world (hr2.below x.kept) (by simp; omega) (Nat.le_trans l2 (by omega)))⟩
      have J3 : NKeep (∀ x : Later W2, Calls Try.prog 16 #[v3, .string ⟨#[]⟩] x.world fun e w'' => e = .returned (.string (lnB (seg lc f3 t3))) ∧ ∃ y : Later W2, w'' = y.world) := ⟨fun x => x.call (join_any v3 _ x.world (hr3.below x.kept) (by simp; omega) (Nat.le_trans l3 (by omega)))⟩
      have HCh := fun (x : Later W2) => x.call ((choose_any (lnB (seg lb f1 t1)) (lnB (seg la f2 t2)) (lnB (seg lc f3 t3)) x.world).mono (fun e w' h => ⟨h.1, by rw [h.2]; exact Below.refl _ _⟩))
      simp only [lnB_list] at HCh
      have hc0 : ∀ x : Later W2, x.world.cell? ⟨w7.heap.size + 1, 0, none⟩ = some (.int .i64 (f1 : Int)) := fun x => cell_later x.kept (by simp [World.cell?, hF2])
      have hc1 : ∀ x : Later W2, x.world.cell? ⟨w7.heap.size + 1, 1, none⟩ = some (.int .i64 (f2 : Int)) := fun x => cell_later x.kept (by simp [World.cell?, hF2])
      have hc2 : ∀ x : Later W2, x.world.cell? ⟨w7.heap.size + 1, 2, none⟩ = some (.int .i64 (f3 : Int)) := fun x => cell_later x.kept (by simp [World.cell?, hF2])
      have hd0 : ∀ x : Later W2, x.world.cell? ⟨q, 0, none⟩ = some (.int .i64 (t1 : Int)) := fun x => cell_later x.kept (by simp [World.cell?, hq2])
      have hd1 : ∀ x : Later W2, x.world.cell? ⟨q, 1, none⟩ = some (.int .i64 (t2 : Int)) := fun x => cell_later x.kept (by simp [World.cell?, hq2])
      have hd2 : ∀ x : Later W2, x.world.cell? ⟨q, 2, none⟩ = some (.int .i64 (t3 : Int)) := fun x => cell_later x.kept (by simp [World.cell?, hq2])
      generalize seg lb f1 t1 = X at *
      generalize seg la f2 t2 = Y at *
      generalize seg lc f3 t3 = U at *
      clear hr1 hr2 hr3
      cases h3v : three X Y U with
      | none =>
        rw [h3v] at HCh hzz
        have HC : NKeep (∀ x : Later W2, Calls Try.prog 15 #[.string (lnB X), .string (lnB Y), .string (lnB U)] x.world fun e w'' => e = .returned (.tuple #[.string ⟨#[]⟩, .bool false]) ∧ ∃ y : Later W2, w'' = y.world) := ⟨HCh⟩
        have HF : NKeep (Z = none) := ⟨by rw [hzz]; rfl⟩
        clear HCh hzz h3v
        generalize lnB X = X' at *
        generalize lnB Y = Y' at *
        generalize lnB U = U' at *
        (haveI := later_any; refine wp_region_later (by kernel_rfl) (by kernel_rfl) ?_; (repeat (go_big_quiet_step (first | (go_at_call_of 16 v1; exact J1.out _) | (go_at_call_of 16 v2; exact J2.out _) | (go_at_call_of 16 v3; exact J3.out _) | (go_at_call 15; exact HC.out _)))); refine wpQuiet_nil ?_; intro _ hwq; obtain ⟨xq, hwq2⟩ := hwq; subst hwq2)
        go_wp2
        go_ret2
        rw [HF.out]
        exact ⟨rfl, hbw2.trans (xq.kept.mono hbw2.size)⟩
      | some s =>
        rw [h3v] at HCh hzz
        have HC : NKeep (∀ x : Later W2, Calls Try.prog 15 #[.string (lnB X), .string (lnB Y), .string (lnB U)] x.world fun e w'' => e = .returned (.tuple #[.string (lnB s), .bool true]) ∧ ∃ y : Later W2, w'' = y.world) := ⟨HCh⟩
        have hsl := three_le h3v (Nat.le_trans l2 h2) (Nat.le_trans l3 h3)
        have HZ3 : NKeep (Z = (runI lb la lc (t1, t2, t3) (al.drop (k + 1))).map ((out ++ s) ++ ·)) := ⟨by
          rw [hzz]
          cases runI lb la lc (t1, t2, t3) (al.drop (k + 1)) <;> simp⟩
        have hsS : (lnB s).size = s.length := lnB_size s
        clear HCh hzz h3v
        generalize lnB X = X' at *
        generalize lnB Y = Y' at *
        generalize lnB U = U' at *
        (haveI := later_any; refine wp_region_later (by kernel_rfl) (by kernel_rfl) ?_; (repeat (go_big_quiet_step (first | (go_at_call_of 16 v1; exact J1.out _) | (go_at_call_of 16 v2; exact J2.out _) | (go_at_call_of 16 v3; exact J3.out _) | (go_at_call 15; exact HC.out _)))); refine wpQuiet_nil ?_; intro _ hwq; obtain ⟨xq, hwq2⟩ := hwq; subst hwq2)
        have hwr := writeS_any w7.heap.size w7.heap.size out (lnB s) xq.world (HM2.out.below xq.kept) (by rw [hsS]; omega) (Nat.le_trans hB2.size xq.kept.size)
        have hFx := (xq.kept.block _ (Nat.lt_trans hbF hsz2)).trans hF2
        have hqx := (xq.kept.block q (by omega)).trans hq2
        clear hsS
        go_wp2_with (go_at_call 17; refine hwr.mono ?_; rintro e w8 ⟨rfl, hm8, hb8, ho8⟩
                     have hF8 := ho8 _ _ hFx (by simp) (by simp)
                     have hq8 := ho8 _ _ hqx (by simp; omega) (by simp)
                     have z0 : w8.cell? ⟨q, 0, none⟩ = some (.int .i64 (t1 : Int)) := by simp [World.cell?, hq8]
                     have z1 : w8.cell? ⟨q, 1, none⟩ = some (.int .i64 (t2 : Int)) := by simp [World.cell?, hq8]
                     have z2 : w8.cell? ⟨q, 2, none⟩ = some (.int .i64 (t3 : Int)) := by simp [World.cell?, hq8]
                     have c80 : w8.cell? ⟨w7.heap.size + 1, 0, none⟩ = some (.int .i64 (f1 : Int)) := by simp [World.cell?, hF8]
                     have c81 : w8.cell? ⟨w7.heap.size + 1, 1, none⟩ = some (.int .i64 (f2 : Int)) := by simp [World.cell?, hF8]
                     have c82 : w8.cell? ⟨w7.heap.size + 1, 2, none⟩ = some (.int .i64 (f3 : Int)) := by simp [World.cell?, hF8]
                     have d80 : w8.frozen? ⟨w7.heap.size + 1, 0, none⟩ = false := by simp [World.frozen?, hF8]
                     have d81 : w8.frozen? ⟨w7.heap.size + 1, 1, none⟩ = false := by simp [World.frozen?, hF8]
                     have d82 : w8.frozen? ⟨w7.heap.size + 1, 2, none⟩ = false := by simp [World.frozen?, hF8])
        have hF9 := heap_setCell_same w8 (w7.heap.size + 1) 0 _ _ (.int .i64 (t1 : Int)) hF8
        have hF10 := heap_setCell_same _ (w7.heap.size + 1) 1 _ _ (.int .i64 (t2 : Int)) hF9
        have hF11 := heap_setCell_same _ (w7.heap.size + 1) 2 _ _ (.int .i64 (t3 : Int)) hF10
        go_roundg gq
        case measure => omega
        case rel =>
          refine ⟨k + 1, (t1, t2, t3), out ++ s, by omega, by go_num, ⟨HCN.out, HZ3.out⟩, by simp; omega, ⟨?_⟩, ?_, ?_⟩
          · have := ((hm8.set hF8 (by decide) (by omega) 0 (.int .i64 (t1 : Int))).set hF9 (by decide) (by omega) 1 (.int .i64 (t2 : Int))).set hF10 (by decide) (by omega) 2 (.int .i64 (t3 : Int))
            rw [lnB_list] at this
            exact this
          · exact hF11
          · exact ((((hB2.trans (xq.kept.mono hB2.size)).trans hb8).setCell (p := ⟨w7.heap.size + 1, 0, none⟩) (by simp) _).setCell (p := ⟨w7.heap.size + 1, 1, none⟩) (by simp) _).setCell (p := ⟨w7.heap.size + 1, 2, none⟩) (by simp) _
end Go.Proofs.Ytogefpbmchnaaaa
