/-
  spec.l5Near: what is held while a tree near another one is made.
-/
import Derived.Test.YtiadabmbfpfbjaaDrawS5
import Derived.Test.YtiadabmbfpfbjaaTxtL
namespace Go.Proofs.Ytiadabmbfpfbjaa
open Go.RowKit

set_option maxHeartbeats 1000000 in
theorem pick_zero (g : Nat) (a : Option Addr) (cap : Nat) (zs : List Int) (p : Nat) (w : World) (h : Rd w g a cap zs p) (hp : p ≤ 1000000000) :
    Calls Try.prog 17 #[.pointer (some ⟨g, 0, none⟩), .int .i64 0] w fun e w' => e = .returned (.int .i64 0) ∧ w.grownBy w' (some g) ∧ Rd w' g a cap zs (p + 1) := by
  have hR := h.set
  obtain ⟨hby, hlen, hwf, c0, c1, f1⟩ := h
  go_enter Try.func17, Try.ntmps17
  go_wp2
  go_ret
  exact ⟨rfl, grown_set _ _ _ _, hR⟩
theorem pick_le (g : Nat) (a : Option Addr) (cap : Nat) (zs : List Int) (p m : Nat) (w : World) (h : Rd w g a cap zs p) (hm2 : m ≤ 1000000) (hp : p ≤ 1000000000) :
    Calls Try.prog 17 #[.pointer (some ⟨g, 0, none⟩), .int .i64 m] w fun e w' => ∃ x : Nat, e = .returned (.int .i64 x) ∧ (0 < m → x < m) ∧ x ≤ 1000000 ∧ w.grownBy w' (some g) ∧ Rd w' g a cap zs (p + 1) := by
  by_cases h0 : m = 0
  · subst h0
    exact (pick_zero g a cap zs p w h hp).mono (fun e w' ⟨h1, h2, h3⟩ => ⟨0, h1, fun h => by omega, by omega, h2, h3⟩)
  · exact (pick_any g a cap zs p m w h (by omega) hm2 hp).mono (fun e w' ⟨x, h1, h2, h3, h4⟩ => ⟨x, h1, fun _ => h2, by omega, h3, h4⟩)

/-- An append, at a step of a region that draws, by what it comes to. -/
theorem step_append_run {ops : Array Oper} {o : Oper} {a : Act} {K : Act → World → Prop} {Q : Exit → Act → World → Prop} {E : Prop} {w : World} (hgd : o.guard = none) (s x : Operand) (t : TypeId) (ho : o.op = .call { callee := .builtin .append, args := #[s, x], argTypes := #[t, t] })
    (v u : Value) (hs : a.eval s = v) (hx : a.eval x = u) (R : Value → World → Prop) (hr : ∀ ty, ∃ v' w', (Builtin.append_ #[t, t] ty #[v, u]).run Try.prog w = .ok v' w' ∧ R v' w') (h : ∀ v' w', R v' w' → K (a.put o.dst v') w') :
    if Region.wanted o (yielded ops a.tmps) = true then Oper.wp Try.prog o a w K Q else E := by
  rw [if_pos (by simp [Region.wanted, hgd])]
  obtain ⟨v', w', hr, h2⟩ := hr o.type
  unfold Oper.wp execOp
  simp only [ho, resolve, invoke, builtin, Sem.run_bind, Sem.run_pure, Result.andThen_ok, List.map_toArray, List.map_cons, List.map_nil, hs, hx, hr]
  exact h v' w' h2

section
variable {g : Nat} {a : Option Addr} {cap : Nat} {zs : List Int} {w : World} {rs tb : Nat} {ad ad' : Option Addr} {cp cp' : Nat} {ts us : List En} {p p' : Nat} {W W' : World} {H0 gb : Nat} {v : Value} {xs : List En}
/-- A row that is not ours is turned. -/
theorem LD6.other {row : Option Nat} (h : LD6 g a cap zs w rs tb ad cp ts p W) (hg : W.grownBy W' row) (hr : ∀ j, row = some j → tb < j ∧ (ts = [] ∨ blk ad ≠ some j)) : LD6 g a cap zs w rs tb ad cp ts p W' := by
  have o := h.ord
  have b1 := hg.block rs h.ltr (fun e => by have := hr rs e.symm; omega)
  have b2 := hg.block tb h.lt (fun e => by have := hr tb e.symm; omega)
  refine ⟨h.rd.kept hg (fun k e => by have := hr k e; omega), gr_own h.gr hg (fun j e => by have := hr j e; omega), (World.cell?_of_block b1).trans h.rc, fz_blk b1 h.rf, (World.cell?_of_block b2).trans h.tc, fz_blk b2 h.tf, ?_, h.ap, o⟩
  rcases h.ap with h0 | _
  · subst h0; exact EL.nil _ _ _
  · by_cases hn : ts = []
    · subst hn; exact EL.nil _ _ _
    · exact h.el.grown hg (fun k hk _ _ e => by
        rcases (hr k e.symm).2 with h0 | h0
        · exact hn h0
        · exact h0 hk)

/-- A row in the making, beside the tree. -/
structure Mk (H0 g : Nat) (a : Option Addr) (cap : Nat) (zs : List Int) (w : World) (rs tb gb cp : Nat) (ts : List En) (p : Nat) (v : Value) (xs : List En) (W : World) : Prop where
  ld : LD6 g a cap zs w rs tb (some ⟨gb, 0, none⟩) cp ts p W
  own : W.ownsRow (rs + 1) 37 3 v xs.length (ecells xs)
  new : ∀ j, v.ownBlock = some j → H0 ≤ j
  old : gb < H0 ∧ tb < H0
  sz : H0 ≤ W.heap.size
theorem Mk.start (h : LD6 g a cap zs w rs tb (some ⟨gb, 0, none⟩) cp ts p W) (hgb : gb < W.heap.size) : Mk W.heap.size g a cap zs w rs tb gb cp ts p (.slice (some ⟨W.heap.size, 0, none⟩) 0 0) [] (W.alloc (.cells #[] 37)).drew := by
  have hb : Below (W.alloc (.cells #[] 37)).heap.size (W.alloc (.cells #[] 37)) (W.alloc (.cells #[] 37)).drew := (Below.refl _ _).drew
  exact ⟨(h.al _).drew, owns_below (own_none W (rs + 1) h.ltr) hb, fun j e => by simp [Value.ownBlock] at e; omega, ⟨hgb, h.lt⟩, by simp⟩
theorem mk_app (i0 : TypeInfo) (z : Value) (hi : Try.prog.info? 37 = some i0) (hz : i0.zero = some z) (hsz : i0.size = 3) (hby : i0.bytes = 40) (hzs : z.cells.size = 3) (h : Mk H0 g a cap zs w rs tb gb cp ts p v xs W) (ad2 : Addr) (c : Nat) (us : List En) (hnews : ∀ j u, (ecells us)[j]? = some u → W.cell? (ad2.add j) = some u) (hl : xs.length + us.length ≤ 1000) (ty : TypeId) :
    ∃ v' W', (Builtin.append_ #[23, 23] ty #[v, .slice (some ad2) us.length c]).run Try.prog W = .ok v' W' ∧ (∃ ad3 cp3, v' = .slice ad3 (xs ++ us).length cp3 ∧ Mk H0 g a cap zs w rs tb gb cp ts p (.slice ad3 (xs ++ us).length cp3) (xs ++ us) W') := by
  obtain ⟨v', W', hr, ho, hg, _, hat⟩ := run_append_own_at (P := Try.prog) W (rs + 1) 23 ty 37 i0 z 3 40 Try.underlying23 hi hz hsz hby hzs (by decide) v xs.length (ecells xs) h.own ad2 us.length c (ecells us) (ecells_len us) hnews (ecells_one us) (by unfold maxLen; omega) (by omega) (by have := h.ld.ltr; omega)
  have ho2 : W'.ownsRow (rs + 1) 37 3 v' (xs ++ us).length (ecells (xs ++ us)) := by
    rw [List.length_append, show ecells (xs ++ us) = ecells xs ++ ecells us by simp [ecells]]
    exact ho
  obtain ⟨ad3, cp3, rfl⟩ := owns_slice ho2
  have o := h.old
  refine ⟨_, W', hr, ad3, cp3, rfl, h.ld.other hg (fun j e => by have := h.new j e; exact ⟨by omega, .inr (fun e2 => by simp [blk] at e2; omega)⟩), ho2, fun j e => ?_, o, Nat.le_trans h.sz hg.size⟩
  rcases hat with h2 | h2
  · exact h.new j (by rw [← h2]; exact e)
  · rw [h2] at e; cases e; exact h.sz
theorem el_news {B gb : Nat} (h : EL B W (some ⟨gb, 0, none⟩) ts) (k m : Nat) : ∀ j u, (ecells ((ts.drop k).take m))[j]? = some u → W.cell? ((⟨gb, k * 3, none⟩ : Addr).add j) = some u := by
  refine es_news (fun i hi => ?_)
  have hi2 : k + i < ts.length := by simp at hi; omega
  rcases h with h | ⟨g', e, _, _, _, h4⟩
  · subst h; simp at hi2
  · cases e
    have h5 := h4 (k + i) hi2
    rw [List.getElem_take, List.getElem_drop, show k * 3 + i * 3 = (k + i) * 3 by omega]
    exact h5
set_option maxRecDepth 100000 in
theorem cut_lo (gb cp n k : Nat) (hk : k ≤ cp) (hc : 0 < cp) (w1 : World) : (Instr.sliceAt 23 (.slice (some ⟨gb, 0, none⟩) n cp) none (some (.int .i64 (k : Int))) none).run Try.prog w1 = .ok (.slice (some ⟨gb, 0, none⟩) k cp) w1 := by
  rw [run_sliceAt_slice w1 _ _ _ _ _ Try.underlying23, run_slice_h w1 _ _ _ _ Try.underlying23 .i64 (k : Int) (by omega) (by omega)]
  have hz : (sizeOf (Try.prog.elem 23)).run Try.prog w1 = .ok 3 w1 := by kernel_rfl
  rw [hz, show (k : Int).toNat = k by omega]
  show Result.ok (sliced (some ⟨gb, 0, none⟩) 0 k cp 3) w1 = _
  unfold sliced
  rw [if_neg (by omega)]
  rfl
set_option maxRecDepth 100000 in
theorem cut_hi (gb cp : Nat) (ts : List En) (k : Nat) (hk : k < ts.length) (hc : ts.length ≤ cp) : ∃ adB nB cB, Keep (nB = (ts.drop (k + 1)).length) ∧ (∀ w1, (Instr.sliceAt 23 (.slice (some ⟨gb, 0, none⟩) ts.length cp) (some (.int .i64 ((k : Int) + 1))) none none).run Try.prog w1 = .ok (.slice (some adB) nB cB) w1) ∧ ∀ (B : Nat) (W : World), EL B W (some ⟨gb, 0, none⟩) ts → ∀ j u, (ecells (ts.drop (k + 1)))[j]? = some u → W.cell? (adB.add j) = some u := by
  have hrun : ∀ w1, (Instr.sliceAt 23 (.slice (some ⟨gb, 0, none⟩) ts.length cp) (some (.int .i64 ((k : Int) + 1))) none none).run Try.prog w1 = .ok (sliced (some ⟨gb, 0, none⟩) (k + 1) ts.length cp 3) w1 := fun w1 => by
    rw [run_sliceAt_slice w1 _ _ _ _ _ Try.underlying23, run_slice_l w1 _ _ _ _ Try.underlying23 .i64 ((k : Int) + 1) (by omega) (by omega)]
    have hz : (sizeOf (Try.prog.elem 23)).run Try.prog w1 = .ok 3 w1 := by kernel_rfl
    rw [hz, show ((k : Int) + 1).toNat = k + 1 by omega]
    rfl
  by_cases hcp : cp = k + 1
  · refine ⟨⟨gb, 0, none⟩, ts.length - (k + 1), cp - (k + 1), ⟨by rw [List.length_drop]⟩, fun w1 => ?_, fun B W _ j u hu => ?_⟩
    · rw [hrun w1]
      unfold sliced
      rw [if_pos hcp]
    · have hn : ts.drop (k + 1) = [] := List.drop_of_length_le (by omega)
      rw [hn] at hu
      simp [ecells] at hu
  · refine ⟨⟨gb, (k + 1) * 3, none⟩, ts.length - (k + 1), cp - (k + 1), ⟨by rw [List.length_drop]⟩, fun w1 => ?_, fun B W hE j u hu => ?_⟩
    · rw [hrun w1]
      unfold sliced
      rw [if_neg hcp]
      simp [Addr.add]
    · refine el_news hE (k + 1) ts.length j u ?_
      rw [List.take_of_length_le (by rw [List.length_drop]; omega)]
      exact hu
theorem Mk.store {ad3 : Option Addr} {cp3 : Nat} (h : Mk H0 g a cap zs w rs tb gb cp ts p (.slice ad3 xs.length cp3) xs W) : LD6 g a cap zs w rs tb ad3 cp3 xs p (W.setCell ⟨tb, 0, none⟩ (.slice ad3 xs.length cp3)) ∧ xs.length ≤ cp3 ∧ NilOk ad3 cp3 := by
  refine ⟨h.ld.put (el_of_row h.own) ?_, row_room h.own, ?_⟩
  · cases ad3 with
    | none => exact .inr (fun e => by simp [blk] at e)
    | some x =>
      refine .inr (fun e => ?_)
      have := h.new tb (by simpa [Value.ownBlock, blk] using e)
      have := h.old
      omega
  · rcases h.own.2 with ⟨h0, _⟩ | ⟨_, _, _, h0, _⟩
    · obtain ⟨rfl, _, rfl⟩ : ad3 = none ∧ xs.length = 0 ∧ cp3 = 0 := by simpa using h0
      exact .inr ⟨rfl, rfl⟩
    · cases h0; exact .inl ⟨_, rfl⟩

/-- The same, behind a world of some size. -/
structure QN (lo g : Nat) (a : Option Addr) (cap : Nat) (zs : List Int) (w : World) (rs tb : Nat) (ad : Option Addr) (cp : Nat) (ts : List En) (p : Nat) (W : World) : Prop where
  ld : LD6 g a cap zs w rs tb ad cp ts p W
  sz : lo ≤ W.heap.size
theorem QN.step {lo : Nat} (h : QN lo g a cap zs w rs tb ad cp ts p W) (hg : W.grownBy W' (some g)) (hR : Rd W' g a cap zs p') : QN lo g a cap zs w rs tb ad cp ts p' W' := ⟨h.ld.step hg hR, Nat.le_trans h.sz hg.size⟩
theorem QN.al {lo : Nat} (h : QN lo g a cap zs w rs tb ad cp ts p W) (o : Obj) : QN lo g a cap zs w rs tb ad cp ts p (W.alloc o) := ⟨h.ld.al o, Nat.le_trans h.sz (by simp)⟩
theorem QN.drew {lo : Nat} (h : QN lo g a cap zs w rs tb ad cp ts p W) : QN lo g a cap zs w rs tb ad cp ts p W.drew := ⟨h.ld.drew, h.sz⟩

/-- Behind spec.Put in a region that draws. -/
def CutN (g : Nat) (a : Option Addr) (cap : Nat) (zs : List Int) (w : World) (rs tb : Nat) (ad : Option Addr) (cp : Nat) (ts : List En) (P T p : Nat) (pv cc : Value) (W : World) : Prop :=
  ∃ us c ad' cp' nc p2 en, pv = .pointer (some ⟨nc, 0, none⟩) ∧ cc = .int .i64 c ∧ Tiny P T [en] ∧ PutR ts en us c ∧ EL (tb + 1) W ad' us ∧ us.length ≤ cp' ∧ W.cell? ⟨nc, 0, none⟩ = some (.slice ad' us.length cp') ∧ LD6 g a cap zs w rs tb ad cp ts p2 W ∧ p2 ≤ p
theorem cutN_mk {P T p p2 : Nat} {c : Int} {en : En} {B : Nat} (he : Tiny P T [en]) (hR : PutR ts en us c) (hel : EL B W ad' us) (hroom : us.length ≤ cp') (hB : tb < B) (hl : LD6 g a cap zs w rs tb ad cp ts p2 W) (hp : p2 ≤ p) :
    CutN g a cap zs w rs tb ad cp ts P T p (.pointer (some ⟨W.heap.size, 0, none⟩)) (.int .i64 c) (W.alloc (.cells #[.slice ad' us.length cp'] 25)) :=
  ⟨us, c, ad', cp', W.heap.size, p2, en, rfl, rfl, he, hR, (hel.below (below_oneD _ _)).mono hB, hroom, by simp, hl.al _, hp⟩
theorem cutN_mk' {P T p p2 : Nat} {c : Int} {en : En} {B nc : Nat} (he : Tiny P T [en]) (hR : PutR ts en us c) (hel : EL B W ad' us) (hroom : us.length ≤ cp') (hB : tb < B) (hl : LD6 g a cap zs w rs tb ad cp ts p2 W) (hp : p2 ≤ p) {lo : Nat} (N : NC lo nc W) (hn : nc < B) (hlo : tb < lo) (hap : ts = [] ∨ ∃ k, blk ad = some k ∧ k < lo) :
    CutN g a cap zs w rs tb ad cp ts P T p (.pointer (some ⟨nc, 0, none⟩)) (.int .i64 c) (W.setCell ⟨nc, 0, none⟩ (.slice ad' us.length cp')) := by
  have hg : W.grownBy (W.setCell ⟨nc, 0, none⟩ (.slice ad' us.length cp')) (some nc) := grown_set W nc 0 _
  have o := hl.ord
  have lo := N.lo
  refine ⟨us, c, ad', cp', nc, p2, en, rfl, rfl, he, hR, (hel.grown hg (fun k _ hk _ e => by cases e; omega)).mono hB, hroom, World.cell?_setCell_same _ _ _ N.cell, hl.other hg (fun j e => by
    cases e
    refine ⟨by omega, ?_⟩
    rcases hap with h | ⟨k0, h1, h2⟩
    · exact .inl h
    · exact .inr (fun e2 => by rw [h1] at e2; cases e2; omega)), hp⟩
theorem EL.setRuns {B gb k : Nat} {s : Bool} (h : EL B W (some ⟨gb, 0, none⟩) ts) (hk : k < ts.length) : EL B (W.setCell ⟨gb, k * 3 + 2, none⟩ (.bool s)) (some ⟨gb, 0, none⟩) (ts.set k ⟨ts[k].path, ts[k].text, s⟩) := by
  rcases h with h | ⟨g', e, h1, h2, h3, h4⟩
  · subst h; simp at hk
  · cases e
    have hne : ∀ i j : Nat, i ≠ j → (⟨gb, i, none⟩ : Addr) ≠ ⟨gb, j, none⟩ := fun i j h e => h (by injection e)
    refine .inr ⟨gb, rfl, h1, by simpa using h2, fun j => (World.frozen?_setCell _ _ _ _).trans (h3 j), fun i hi => ?_⟩
    have hi' : i < ts.length := by simpa using hi
    obtain ⟨c0, c1, c2⟩ := h4 i hi'
    by_cases e : i = k
    · subst e
      rw [List.getElem_set_self]
      exact ⟨by rw [World.cell?_setCell_other _ _ _ _ (hne _ _ (by omega))]; exact c0, by rw [World.cell?_setCell_other _ _ _ _ (hne _ _ (by omega))]; exact c1, World.cell?_setCell_same _ _ _ c2⟩
    · rw [List.getElem_set_ne (fun e' => e e'.symm)]
      exact ⟨by rw [World.cell?_setCell_other _ _ _ _ (hne _ _ (by omega))]; exact c0, by rw [World.cell?_setCell_other _ _ _ _ (hne _ _ (by omega))]; exact c1, by rw [World.cell?_setCell_other _ _ _ _ (hne _ _ (by omega))]; exact c2⟩
end
end Go.Proofs.Ytiadabmbfpfbjaa
