/-
  DrawQr, RegZ, TinC, DrawJs: laid as one text.
-/
import Derived.Test.YtjlflmbifeocbaaZbf
import Derived.Test.YtjlflmbifeocbaaDiffS
import Derived.Test.YtjlflmbifeocbaaZba
namespace Go.Proofs.Ytjlflmbifeocbaa
open Go.RowKit

def treF (lo : Nat) (v : Value) (w : World) : Prop := ∃ ad cap us, v = .agg #[.slice ad (List.length us) cap] ∧ EL lo w ad us ∧ us.length ≤ 103 ∧ Tiny 100 1620 us
def patQ (ts : List En) (lo : Nat) (ad : Option Addr) (cap : Nat) (cs : List Ch) (w : World) : Prop := CL lo w ad cs ∧ cs.length ≤ cap ∧ ∃ us, DiffRel ts us cs ∧ us.length ≤ 103 ∧ Tiny 100 1620 us
def patF (ts : List En) (lo : Nat) (v : Value) (w : World) : Prop := ∃ ad cap cs, v = .agg #[.slice ad (List.length cs) cap] ∧ patQ ts lo ad cap cs w
theorem treF.on {lo k : Nat} {v : Value} {w w' : World} (h : treF lo v w) (hg : w.grownBy w' (some k)) (hk : k < lo) : treF lo v w' := by
  obtain ⟨ad, cap, us, h1, h2, h3⟩ := h
  exact ⟨ad, cap, us, h1, h2.grown hg (fun j _ hj _ e => by cases e; omega), h3⟩
theorem patQ.on {ts : List En} {lo k : Nat} {ad : Option Addr} {cap : Nat} {cs : List Ch} {w w' : World} (h : patQ ts lo ad cap cs w) (hg : w.grownBy w' (some k)) (hk : k < lo) : patQ ts lo ad cap cs w' :=
  ⟨h.1.grown hg (fun j _ hj _ e => by cases e; omega), h.2⟩
theorem patF.on {ts : List En} {lo k : Nat} {v : Value} {w w' : World} (h : patF ts lo v w) (hg : w.grownBy w' (some k)) (hk : k < lo) : patF ts lo v w' := by
  obtain ⟨ad, cap, cs, h1, h2⟩ := h
  exact ⟨ad, cap, cs, h1, h2.on hg hk⟩
/-- What stands: the reader (one call turns it: mc), what is handed back (s2, s3). -/
def IQ (mc s2 s3 P0 : Nat) (w : World) (g r2 r3 b4 : Nat) (a : Option Addr) (cap : Nat) (zs : List Int) (t : Tr) (L : Array Bool) (W : World) : Prop :=
  ∃ p u3, (p ≤ P0 ∨ (L.getD mc false = true ∧ p ≤ P0 + 200)) ∧ Q6 w g r2 r3 b4 a cap zs p t (rcV (L.getD s2 false) t) u3 W ∧ ((L.getD s3 false = false ∧ u3 = .slice none 0 0) ∨ (L.getD s3 false = true ∧ ∃ ad cp cs, u3 = .slice ad (List.length cs) cp ∧ patQ t.ts (b4 + 1) ad cp cs W))
section
variable {mc s2 s3 P0 : Nat} {w : World} {g r2 r3 b4 : Nat} {a : Option Addr} {cap : Nat} {zs : List Int} {t : Tr} {L : Array Bool} {W W' : World} {i : Nat}
theorem IQ.keep (h : IQ mc s2 s3 P0 w g r2 r3 b4 a cap zs t L W) (h1 : i ≠ mc) (h2 : i ≠ s2) (h3 : i ≠ s3) (hb : Below W.heap.size W W') : IQ mc s2 s3 P0 w g r2 r3 b4 a cap zs t (L.setIfInBounds i true) W' := by
  obtain ⟨p, u3, hp, hq, hu⟩ := h
  have o := hq.ord
  refine ⟨p, u3, ?_, ?_, ?_⟩
  · rw [getD_set_ne false h1]; exact hp
  · rw [getD_set_ne false h2]; exact hq.later hb
  · rw [getD_set_ne false h3]
    rcases hu with hu | ⟨h4, ad, cp, cs, h5, h6⟩
    · exact .inl hu
    · exact .inr ⟨h4, ad, cp, cs, h5, h6.on (k := g) (gr_below hb) (by omega)⟩
theorem IQ.draw (h : IQ mc s2 s3 P0 w g r2 r3 b4 a cap zs t L W) (h2 : mc ≠ s2) (h3 : mc ≠ s3) (hL : L.getD mc true = false) : ∃ p, p ≤ P0 ∧ Rd W g a cap zs p ∧ ∀ (W' : World) (p' : Nat), p' ≤ P0 + 200 → W.grownBy W' (some g) → Rd W' g a cap zs p' → IQ mc s2 s3 P0 w g r2 r3 b4 a cap zs t (L.setIfInBounds mc true) W' := by
  obtain ⟨p, u3, hp, hq, hu⟩ := h
  have o := hq.ord
  have g1 : (L.setIfInBounds mc true).getD mc false = true := by
    have h1 := getD_false hL
    have h2 : mc < L.size := by simpa using (List.getElem?_eq_some_iff.1 h1).1
    rw [Array.getD_eq_getD_getElem?, Array.getElem?_setIfInBounds_self_of_lt h2]
    rfl
  refine ⟨p, ?_, hq.rd, fun W' p' hp' hg hR => ⟨p', u3, .inr ⟨g1, hp'⟩, ?_, ?_⟩⟩
  · rcases hp with hp | ⟨hp, _⟩
    · exact hp
    · rw [getD_ft hL] at hp; cases hp
  · rw [getD_set_ne false h2]; exact hq.step hg hR
  · rw [getD_set_ne false h3]
    rcases hu with hu | ⟨h4, ad, cp, cs, h5, h6⟩
    · exact .inl hu
    · exact .inr ⟨h4, ad, cp, cs, h5, h6.on hg (by omega)⟩
theorem IQ.st2 (h : IQ mc s2 s3 P0 w g r2 r3 b4 a cap zs t L W) (h1 : s2 ≠ mc) (h3 : s2 ≠ s3) (hL : L.getD s2 true = false) : IQ mc s2 s3 P0 w g r2 r3 b4 a cap zs t (L.setIfInBounds s2 true) (W.setCell ⟨r2, 0, none⟩ (.slice t.ad t.ts.length t.cp)) := by
  obtain ⟨p, u3, hp, hq, hu⟩ := h
  have o := hq.ord
  have g1 : (L.setIfInBounds s2 true).getD s2 false = true := by
    have h1 := getD_false hL
    have h2 : s2 < L.size := by simpa using (List.getElem?_eq_some_iff.1 h1).1
    rw [Array.getD_eq_getD_getElem?, Array.getElem?_setIfInBounds_self_of_lt h2]
    rfl
  refine ⟨p, u3, ?_, ?_, ?_⟩
  · rw [getD_set_ne false h1]; exact hp
  · rw [g1]; exact hq.set2 _
  · rw [getD_set_ne false h3]
    rcases hu with hu | ⟨h4, ad, cp, cs, h5, h6⟩
    · exact .inl hu
    · exact .inr ⟨h4, ad, cp, cs, h5, h6.on (grown_set0 W r2 0 _) (by omega)⟩
theorem IQ.st3 (h : IQ mc s2 s3 P0 w g r2 r3 b4 a cap zs t L W) (h1 : s3 ≠ mc) (h2 : s3 ≠ s2) (hL : L.getD s3 true = false) {ad : Option Addr} {cp : Nat} {cs : List Ch} (hc : patQ t.ts (b4 + 1) ad cp cs W) : IQ mc s2 s3 P0 w g r2 r3 b4 a cap zs t (L.setIfInBounds s3 true) (W.setCell ⟨r3, 0, none⟩ (.slice ad cs.length cp)) := by
  obtain ⟨p, u3, hp, hq, hu⟩ := h
  have o := hq.ord
  have g1 : (L.setIfInBounds s3 true).getD s3 false = true := by
    have h1 := getD_false hL
    have h2 : s3 < L.size := by simpa using (List.getElem?_eq_some_iff.1 h1).1
    rw [Array.getD_eq_getD_getElem?, Array.getElem?_setIfInBounds_self_of_lt h2]
    rfl
  refine ⟨p, _, ?_, ?_, .inr ⟨g1, ad, cp, cs, rfl, hc.on (grown_set0 W r3 0 _) (by omega)⟩⟩
  · rw [getD_set_ne false h1]; exact hp
  · rw [getD_set_ne false h2]; exact hq.set3 _
theorem IQ.ox (h : IQ mc s2 s3 P0 w g r2 r3 b4 a cap zs t L W) : TX [g, r2, r3, b4] b4 t W ∧ (W.cell? ⟨r2, 0, none⟩ = some (rcV (L.getD s2 false) t) ∧ W.frozen? ⟨r2, 0, none⟩ = false) ∧ (L.getD s3 false = false → W.cell? ⟨r3, 0, none⟩ = some (.slice none 0 0)) ∧ W.frozen? ⟨r3, 0, none⟩ = false ∧ b4 + 1 ≤ W.heap.size := by
  obtain ⟨p, u3, hp, hq, hu⟩ := h
  refine ⟨hq.x4, ⟨hq.c2, hq.f2⟩, fun h0 => ?_, hq.f3, hq.x4.lt⟩
  rcases hu with ⟨_, rfl⟩ | ⟨h4, _⟩
  · exact hq.c3
  · rw [h0] at h4; cases h4
end
/-- What l6Draw gives. -/
def Drawn6 (g : Nat) (a : Option Addr) (cap : Nat) (zs : List Int) (K p : Nat) (w : World) (e : Ending) (w' : World) : Prop :=
  ∃ (t : Tr) (adp : Option Addr) (cpp : Nat) (cs : List Ch), e = .returned (.tuple #[.agg #[.slice t.ad t.ts.length t.cp], .agg #[.slice adp cs.length cpp]]) ∧ EL w.heap.size w' t.ad t.ts ∧ t.ts.length ≤ t.cp ∧ t.ts.length ≤ 100 ∧ Asc t.ts ∧ Tiny 40 20 t.ts ∧ NilOk t.ad t.cp ∧ patQ t.ts w.heap.size adp cpp cs w' ∧ Dr g a cap zs w w' p K
theorem IQ.fin {mc s2 s3 P0 p0 : Nat} {w : World} {g r2 r3 b4 : Nat} {a : Option Addr} {cap : Nat} {zs : List Int} {t : Tr} {L : Array Bool} {W : World} (h : IQ mc s2 s3 P0 w g r2 r3 b4 a cap zs t L W) (h2 : L.getD s2 false = true) (h3 : L.getD s3 false = true) (hP : P0 ≤ p0 + 300) (hn : t.ts.length ≤ 100) (hA : Asc t.ts) (hT : Tiny 40 20 t.ts) (hN : NilOk t.ad t.cp) :
    ∃ (adp : Option Addr) (cpp : Nat) (cs : List Ch), W.cell? ⟨r2, 0, none⟩ = some (.slice t.ad t.ts.length t.cp) ∧ W.cell? ⟨r3, 0, none⟩ = some (.slice adp (List.length cs) cpp) ∧ Drawn6 g a cap zs 500 p0 w (.returned (.tuple #[.agg #[.slice t.ad t.ts.length t.cp], .agg #[.slice adp cs.length cpp]])) W := by
  obtain ⟨p, u3, hp, hq, hu⟩ := h
  have o := hq.ord
  rcases hu with ⟨h0, _⟩ | ⟨_, adp, cpp, cs, rfl, hc⟩
  · rw [h3] at h0; cases h0
  · have c2 := hq.c2
    rw [h2] at c2
    exact ⟨adp, cpp, cs, c2, hq.c3, t, adp, cpp, cs, rfl, hq.lo, hq.x4.rm, hn, hA, hT, hN, ⟨hc.1.mono (by omega), hc.2⟩, ⟨p, by rcases hp with hp | ⟨_, hp⟩ <;> omega, hq.rd⟩, hq.gr⟩
end Go.Proofs.Ytjlflmbifeocbaa

namespace Go.Proofs.Ytjlflmbifeocbaa
open Go.RowKit

theorem getD_set_true {L : Array Bool} {i : Nat} (hL : L.getD i true = false) : (L.setIfInBounds i true).getD i false = true := by
  have h1 := getD_false hL
  have h2 : i < L.size := by simpa using (List.getElem?_eq_some_iff.1 h1).1
  rw [Array.getD_eq_getD_getElem?, Array.getElem?_setIfInBounds_self_of_lt h2]
  rfl
structure EVL (T0 : Array Value) (ds : List Nat) (tab : Nat → Option Value) (ex : Nat → Value → Array Bool → World → Prop) (I : Array Bool → World → Prop) (L : Array Bool) (a : Act) (w : World) : Prop where
  sl : Sl2 T0 ds tab L a
  wd : I L w
  ex : ∀ i (h : i < ds.length), L.getD i false = true → ex i (a.eval (.tmp ds[i])) L w
theorem EVL.step {T0 : Array Value} {ds : List Nat} {tab : Nat → Option Value} {ex : Nat → Value → Array Bool → World → Prop} {I : Array Bool → World → Prop} {L : Array Bool} {a : Act} {w w' : World} (h : EVL T0 ds tab ex I L a w) (nd : ds.Nodup) {i : Nat} {v : Value} (hst : ∀ j v, j ≠ i → ex j v L w → ex j v (L.setIfInBounds i true) w') (hi : i < ds.length) (hd : ds[i] < T0.size) (ht : ∀ u, tab i = some u → u = v) (he : ex i v (L.setIfInBounds i true) w') (hI : I (L.setIfInBounds i true) w') : EVL T0 ds tab ex I (L.setIfInBounds i true) (a.put (some ds[i]) v) w' := by
  refine ⟨h.sl.put nd hi hd ht, hI, fun j hj hL => ?_⟩
  by_cases e : j = i
  · subst e
    rw [eval_put_same (by rw [h.sl.sz]; exact hd)]
    exact he
  · rw [Act.eval_put (fun d hd' => by cases hd'; intro e'; injection e' with e'; exact nodup_ne nd hi hj e e')]
    exact hst j _ e (h.ex j hj (getD_of_set hL e))
theorem EVL.skip {T0 : Array Value} {ds : List Nat} {tab : Nat → Option Value} {ex : Nat → Value → Array Bool → World → Prop} {I : Array Bool → World → Prop} {L : Array Bool} {a : Act} {w w' : World} (h : EVL T0 ds tab ex I L a w) {i : Nat} (hst : ∀ j v, j ≠ i → ex j v L w → ex j v (L.setIfInBounds i true) w') (ht : tab i = none) (he : ∀ v, ex i v (L.setIfInBounds i true) w') (hI : I (L.setIfInBounds i true) w') : EVL T0 ds tab ex I (L.setIfInBounds i true) a w' := by
  refine ⟨h.sl.skip ht, hI, fun j hj hL => ?_⟩
  by_cases e : j = i
  · subst e; exact he _
  · exact hst j _ e (h.ex j hj (getD_of_set hL e))
/-- An append, at a step of a region outside of rounds. -/
theorem wpIn_appendZ {n : Nat} {P : Program} {o : Oper} {a : Act} {w w' : World} {K : Act → World → Prop} {Q : Exit → Act → World → Prop} (s x : Operand) (t : TypeId) (ho : o.op = .call { callee := .builtin .append, args := #[s, x], argTypes := #[t, t] }) {v u v' : Value} (hs : a.eval s = v) (hx : a.eval x = u)
    (hr : (Builtin.append_ #[t, t] o.type #[v, u]).run P w = .ok v' w') (hK : K (a.put o.dst v') w') : o.wpIn Fence.wide n P a w K Q := by
  refine ⟨fun f _ => trivial, ?_⟩
  show Oper.uponIn Fence.wide n P o a K Q ((execOp a.eval o).run P w)
  unfold execOp
  simp only [ho, resolve, invoke, builtin, Sem.run_bind, Sem.run_pure, Result.andThen_ok, List.map_toArray, List.map_cons, List.map_nil, hs, hx, hr]
  exact hK
end Go.Proofs.Ytjlflmbifeocbaa

namespace Go.Proofs.Ytjlflmbifeocbaa
open Go.RowKit

def TinyC (P T : Nat) (cs : List Ch) : Prop := ∀ c ∈ cs, c.path.size ≤ P ∧ c.old.text.size ≤ T ∧ c.new.text.size ≤ T
theorem TinyC.wide {P T P' T' : Nat} {cs : List Ch} (h : TinyC P T cs) (hP : P ≤ P') (hT : T ≤ T') : TinyC P' T' cs := fun c hc => ⟨Nat.le_trans (h c hc).1 hP, Nat.le_trans (h c hc).2.1 hT, Nat.le_trans (h c hc).2.2 hT⟩
theorem TinyC.set {P T k : Nat} {cs : List Ch} {c : Ch} (h : TinyC P T cs) (hc : c.path.size ≤ P ∧ c.old.text.size ≤ T ∧ c.new.text.size ≤ T) : TinyC P T (cs.set k c) := fun x hx => by
  rcases List.mem_or_eq_of_mem_set hx with h1 | h1
  · exact h x h1
  · subst h1; exact hc
theorem TinyC.snoc {P T : Nat} {cs : List Ch} {c : Ch} (h : TinyC P T cs) (hc : c.path.size ≤ P ∧ c.old.text.size ≤ T ∧ c.new.text.size ≤ T) : TinyC P T (cs ++ [c]) := fun x hx => by
  rcases List.mem_append.1 hx with h1 | h1
  · exact h x h1
  · rw [List.mem_singleton.1 h1]; exact hc
theorem TinyC.erase {P T k : Nat} {cs : List Ch} (h : TinyC P T cs) : TinyC P T (cs.take k ++ cs.drop (k + 1)) := fun x hx => by
  rcases List.mem_append.1 hx with h1 | h1
  · exact h x (List.mem_of_mem_take h1)
  · exact h x (List.mem_of_mem_drop h1)
end Go.Proofs.Ytjlflmbifeocbaa

namespace Go.Proofs.Ytjlflmbifeocbaa
open Go.RowKit

/-- A patch: where its changes lie, their room. -/
structure Pt where
  ad : Option Addr
  cp : Nat
  cs : List Ch
/-- A tree in a box b; what it holds lies from lo on, below hi. -/
structure TB (lo hi b : Nat) (t : Tr) (W : World) : Prop where
  c : W.cell? ⟨b, 0, none⟩ = some (.slice t.ad t.ts.length t.cp)
  f : W.frozen? ⟨b, 0, none⟩ = false
  el : EL lo W t.ad t.ts
  up : t.ts = [] ∨ ∃ k, blk t.ad = some k ∧ k < hi
  rm : t.ts.length ≤ t.cp
  nl : NilOk t.ad t.cp
section
variable {lo hi b k : Nat} {t u : Tr} {W W' : World}
theorem TB.lt (h : TB lo hi b t W) : b < W.heap.size := World.block_lt_of_cell? W ⟨b, 0, none⟩ h.c
theorem TB.grown (h : TB lo hi b t W) (hg : W.grownBy W' (some k)) (hk : k < lo ∨ hi ≤ k) (hb : b ≠ k) : TB lo hi b t W' := by
  have hh := hg.block b h.lt (fun e => hb (by cases e; rfl))
  refine ⟨(World.cell?_of_block hh).trans h.c, frozen_of hh h.f, ?_, h.up, h.rm, h.nl⟩
  rcases h.up with h0 | ⟨j, h1, h2⟩
  · rw [h0]; exact EL.nil _ _ _
  · exact h.el.grown hg (fun i hi hj _ e => by rw [h1] at hi; cases hi; cases e; omega)
theorem TB.later (h : TB lo hi b t W) (hb : Below W.heap.size W W') : TB lo hi b t W' :=
  ⟨cell_later hb h.c, (hb.frozen (p := ⟨b, 0, none⟩) h.lt).trans h.f, h.el.below hb, h.up, h.rm, h.nl⟩
theorem TB.upOf {B : Nat} (h : EL B W t.ad t.ts) : t.ts = [] ∨ ∃ k, blk t.ad = some k ∧ k < W.heap.size := by
  rcases h with h | ⟨g, e, _, h2, _⟩
  · exact .inl h
  · exact .inr ⟨g, by rw [e]; rfl, h2⟩
theorem TB.new {B : Nat} (h : EL B W t.ad t.ts) (hr : t.ts.length ≤ t.cp) (hn : NilOk t.ad t.cp) : TB B W.heap.size W.heap.size t (W.alloc (.cells #[.slice t.ad t.ts.length t.cp] 25)) :=
  ⟨by simp, by simp, h.below (below_oneD _ _), TB.upOf h, hr, hn⟩
/-- Another is put into the box. -/
theorem TB.put {lo' hi' : Nat} (h : TB lo hi b t W) (he : EL lo' W u.ad u.ts) (hu : u.ts = [] ∨ ∃ k, blk u.ad = some k ∧ k < hi') (hr : u.ts.length ≤ u.cp) (hn : NilOk u.ad u.cp) (hb : b < lo' ∨ hi' ≤ b) : TB lo' hi' b u (W.setCell ⟨b, 0, none⟩ (.slice u.ad u.ts.length u.cp)) := by
  refine ⟨World.cell?_setCell_same _ _ _ h.c, (World.frozen?_setCell _ _ _ _).trans h.f, ?_, hu, hr, hn⟩
  rcases hu with h0 | ⟨j, h1, h2⟩
  · rw [h0]; exact EL.nil _ _ _
  · exact he.grown (grown_set0 W b 0 _) (fun i hi hj _ e => by rw [h1] at hi; cases hi; cases e; omega)
end
/-- A tree, its room unknown, in a box b; what it holds lies from lo on, below hi. -/
structure VB (lo hi b : Nat) (t : Tr) (W : World) : Prop where
  c : W.cell? ⟨b, 0, none⟩ = some (.slice t.ad t.ts.length t.cp)
  f : W.frozen? ⟨b, 0, none⟩ = false
  el : EL lo W t.ad t.ts
  up : t.ts = [] ∨ ∃ k, blk t.ad = some k ∧ k < hi
  nl : NilOk t.ad t.cp
section
variable {lo hi b k : Nat} {t u : Tr} {W W' : World}
theorem VB.lt (h : VB lo hi b t W) : b < W.heap.size := World.block_lt_of_cell? W ⟨b, 0, none⟩ h.c
theorem VB.grown (h : VB lo hi b t W) (hg : W.grownBy W' (some k)) (hk : k < lo ∨ hi ≤ k) (hb : b ≠ k) : VB lo hi b t W' := by
  have hh := hg.block b h.lt (fun e => hb (by cases e; rfl))
  refine ⟨(World.cell?_of_block hh).trans h.c, frozen_of hh h.f, ?_, h.up, h.nl⟩
  rcases h.up with h0 | ⟨j, h1, h2⟩
  · rw [h0]; exact EL.nil _ _ _
  · exact h.el.grown hg (fun i hi hj _ e => by rw [h1] at hi; cases hi; cases e; omega)
theorem VB.later (h : VB lo hi b t W) (hb : Below W.heap.size W W') : VB lo hi b t W' :=
  ⟨cell_later hb h.c, (hb.frozen (p := ⟨b, 0, none⟩) h.lt).trans h.f, h.el.below hb, h.up, h.nl⟩
theorem VB.upOf {B : Nat} (h : EL B W t.ad t.ts) : t.ts = [] ∨ ∃ k, blk t.ad = some k ∧ k < W.heap.size := by
  rcases h with h | ⟨g, e, _, h2, _⟩
  · exact .inl h
  · exact .inr ⟨g, by rw [e]; rfl, h2⟩
theorem VB.new {B : Nat} (h : EL B W t.ad t.ts) (hn : NilOk t.ad t.cp) : VB B W.heap.size W.heap.size t (W.alloc (.cells #[.slice t.ad t.ts.length t.cp] 25)) :=
  ⟨by simp, by simp, h.below (below_oneD _ _), VB.upOf h, hn⟩
/-- Another is put into the box. -/
theorem VB.put {lo' hi' : Nat} (h : VB lo hi b t W) (he : EL lo' W u.ad u.ts) (hu : u.ts = [] ∨ ∃ k, blk u.ad = some k ∧ k < hi') (hn : NilOk u.ad u.cp) (hb : b < lo' ∨ hi' ≤ b) : VB lo' hi' b u (W.setCell ⟨b, 0, none⟩ (.slice u.ad u.ts.length u.cp)) := by
  refine ⟨World.cell?_setCell_same _ _ _ h.c, (World.frozen?_setCell _ _ _ _).trans h.f, ?_, hu, hn⟩
  rcases hu with h0 | ⟨j, h1, h2⟩
  · rw [h0]; exact EL.nil _ _ _
  · exact he.grown (grown_set0 W b 0 _) (fun i hi hj _ e => by rw [h1] at hi; cases hi; cases e; omega)
end
theorem TB.vb {lo hi b : Nat} {t : Tr} {W : World} (h : TB lo hi b t W) : VB lo hi b t W := ⟨h.c, h.f, h.el, h.up, h.nl⟩
/-- A patch in a box b; what it holds lies from lo on, below hi. -/
structure PB (lo hi b : Nat) (t : Pt) (W : World) : Prop where
  c : W.cell? ⟨b, 0, none⟩ = some (.slice t.ad t.cs.length t.cp)
  f : W.frozen? ⟨b, 0, none⟩ = false
  el : CL lo W t.ad t.cs
  up : t.cs = [] ∨ ∃ k, blk t.ad = some k ∧ k < hi
  rm : t.cs.length ≤ t.cp
section
variable {lo hi b k : Nat} {t u : Pt} {W W' : World}
theorem PB.lt (h : PB lo hi b t W) : b < W.heap.size := World.block_lt_of_cell? W ⟨b, 0, none⟩ h.c
theorem PB.grown (h : PB lo hi b t W) (hg : W.grownBy W' (some k)) (hk : k < lo ∨ hi ≤ k) (hb : b ≠ k) : PB lo hi b t W' := by
  have hh := hg.block b h.lt (fun e => hb (by cases e; rfl))
  refine ⟨(World.cell?_of_block hh).trans h.c, frozen_of hh h.f, ?_, h.up, h.rm⟩
  rcases h.up with h0 | ⟨j, h1, h2⟩
  · rw [h0]; exact CL.nil _ _ _
  · exact h.el.grown hg (fun i hi hj _ e => by rw [h1] at hi; cases hi; cases e; omega)
theorem PB.later (h : PB lo hi b t W) (hb : Below W.heap.size W W') : PB lo hi b t W' :=
  ⟨cell_later hb h.c, (hb.frozen (p := ⟨b, 0, none⟩) h.lt).trans h.f, h.el.below hb, h.up, h.rm⟩
theorem PB.upOf {B : Nat} (h : CL B W t.ad t.cs) : t.cs = [] ∨ ∃ k, blk t.ad = some k ∧ k < W.heap.size := by
  rcases h with h | ⟨g, e, _, h2, _⟩
  · exact .inl h
  · exact .inr ⟨g, by rw [e]; rfl, h2⟩
theorem PB.new {B : Nat} (h : CL B W t.ad t.cs) (hr : t.cs.length ≤ t.cp) : PB B W.heap.size W.heap.size t (W.alloc (.cells #[.slice t.ad t.cs.length t.cp] 30)) :=
  ⟨by simp, by simp, h.below (below_oneD _ _), PB.upOf h, hr⟩
/-- Another is put into the box. -/
theorem PB.put {lo' hi' : Nat} (h : PB lo hi b t W) (he : CL lo' W u.ad u.cs) (hu : u.cs = [] ∨ ∃ k, blk u.ad = some k ∧ k < hi') (hr : u.cs.length ≤ u.cp) (hb : b < lo' ∨ hi' ≤ b) : PB lo' hi' b u (W.setCell ⟨b, 0, none⟩ (.slice u.ad u.cs.length u.cp)) := by
  refine ⟨World.cell?_setCell_same _ _ _ h.c, (World.frozen?_setCell _ _ _ _).trans h.f, ?_, hu, hr⟩
  rcases hu with h0 | ⟨j, h1, h2⟩
  · rw [h0]; exact CL.nil _ _ _
  · exact he.grown (grown_set0 W b 0 _) (fun i hi hj _ e => by rw [h1] at hi; cases hi; cases e; omega)
end
/-- A reader and two boxes for what is handed back. -/
structure RB (w : World) (g r2 r3 : Nat) (a : Option Addr) (cap : Nat) (zs : List Int) (p : Nat) (u2 u3 : Value) (W : World) : Prop where
  rd : Rd W g a cap zs p
  bw : Below w.heap.size w W
  c2 : W.cell? ⟨r2, 0, none⟩ = some u2
  f2 : W.frozen? ⟨r2, 0, none⟩ = false
  c3 : W.cell? ⟨r3, 0, none⟩ = some u3
  f3 : W.frozen? ⟨r3, 0, none⟩ = false
  ord : w.heap.size ≤ r2 ∧ r2 < r3 ∧ r3 < g
section
variable {w : World} {g r2 r3 k : Nat} {a : Option Addr} {cap : Nat} {zs : List Int} {p p' : Nat} {u2 u3 : Value} {W W' : World}
theorem RB.step (h : RB w g r2 r3 a cap zs p u2 u3 W) (hg : W.grownBy W' (some g)) (hR : Rd W' g a cap zs p') : RB w g r2 r3 a cap zs p' u2 u3 W' := by
  have o := h.ord
  have k2 := hg.block r2 (World.block_lt_of_cell? W ⟨r2, 0, none⟩ h.c2) (by simp; omega)
  have k3 := hg.block r3 (World.block_lt_of_cell? W ⟨r3, 0, none⟩ h.c3) (by simp; omega)
  exact ⟨hR, h.bw.grown hg h.bw.size (fun j e => by cases e; omega), (World.cell?_of_block k2).trans h.c2, frozen_of k2 h.f2, (World.cell?_of_block k3).trans h.c3, frozen_of k3 h.f3, o⟩
theorem RB.later (h : RB w g r2 r3 a cap zs p u2 u3 W) (hb : Below W.heap.size W W') : RB w g r2 r3 a cap zs p u2 u3 W' := h.step (gr_below hb) (h.rd.below hb)
theorem RB.box (h : RB w g r2 r3 a cap zs p u2 u3 W) (v : Value) (hk : g < k) : RB w g r2 r3 a cap zs p u2 u3 (W.setCell ⟨k, 0, none⟩ v) := by
  have o := h.ord
  have hg : W.grownBy (W.setCell ⟨k, 0, none⟩ v) (some k) := grown_set0 W k 0 v
  have k2 := hg.block r2 (World.block_lt_of_cell? W ⟨r2, 0, none⟩ h.c2) (by simp; omega)
  have k3 := hg.block r3 (World.block_lt_of_cell? W ⟨r3, 0, none⟩ h.c3) (by simp; omega)
  exact ⟨h.rd.kept hg (fun j e => by cases e; omega), h.bw.setCell (p := ⟨k, 0, none⟩) (by show _ ≤ k; omega) _, (World.cell?_of_block k2).trans h.c2, frozen_of k2 h.f2, (World.cell?_of_block k3).trans h.c3, frozen_of k3 h.f3, o⟩
/-- The same with no reader. -/
structure RC (w : World) (r2 r3 : Nat) (u2 u3 : Value) (W : World) : Prop where
  bw : Below w.heap.size w W
  c2 : W.cell? ⟨r2, 0, none⟩ = some u2
  f2 : W.frozen? ⟨r2, 0, none⟩ = false
  c3 : W.cell? ⟨r3, 0, none⟩ = some u3
  f3 : W.frozen? ⟨r3, 0, none⟩ = false
  ord : w.heap.size ≤ r2 ∧ r2 < r3
theorem RB.rc (h : RB w g r2 r3 a cap zs p u2 u3 W) : RC w r2 r3 u2 u3 W := ⟨h.bw, h.c2, h.f2, h.c3, h.f3, h.ord.1, h.ord.2.1⟩
theorem RC.later (h : RC w r2 r3 u2 u3 W) (hb : Below W.heap.size W W') : RC w r2 r3 u2 u3 W' := ⟨h.bw.trans (hb.mono h.bw.size), cell_later hb h.c2, (hb.frozen (p := ⟨r2, 0, none⟩) (World.block_lt_of_cell? W ⟨r2, 0, none⟩ h.c2)).trans h.f2, cell_later hb h.c3, (hb.frozen (p := ⟨r3, 0, none⟩) (World.block_lt_of_cell? W ⟨r3, 0, none⟩ h.c3)).trans h.f3, h.ord⟩
theorem RC.set2 (h : RC w r2 r3 u2 u3 W) (v : Value) : RC w r2 r3 v u3 (W.setCell ⟨r2, 0, none⟩ v) := by
  have o := h.ord
  have hg : W.grownBy (W.setCell ⟨r2, 0, none⟩ v) (some r2) := grown_set0 W r2 0 v
  have k3 := hg.block r3 (World.block_lt_of_cell? W ⟨r3, 0, none⟩ h.c3) (by simp; omega)
  exact ⟨h.bw.setCell (p := ⟨r2, 0, none⟩) (by show _ ≤ r2; omega) _, World.cell?_setCell_same _ _ _ h.c2, (World.frozen?_setCell _ _ _ _).trans h.f2, (World.cell?_of_block k3).trans h.c3, frozen_of k3 h.f3, o⟩
theorem RC.set3 (h : RC w r2 r3 u2 u3 W) (v : Value) : RC w r2 r3 u2 v (W.setCell ⟨r3, 0, none⟩ v) := by
  have o := h.ord
  have hg : W.grownBy (W.setCell ⟨r3, 0, none⟩ v) (some r3) := grown_set0 W r3 0 v
  have k2 := hg.block r2 (World.block_lt_of_cell? W ⟨r2, 0, none⟩ h.c2) (by simp; omega)
  exact ⟨h.bw.setCell (p := ⟨r3, 0, none⟩) (by show _ ≤ r3; omega) _, (World.cell?_of_block k2).trans h.c2, frozen_of k2 h.f2, World.cell?_setCell_same _ _ _ h.c3, (World.frozen?_setCell _ _ _ _).trans h.f3, o⟩
end
def pkV (b : Bool) (v : Value) : Value := bif b then v else .slice none 0 0
/-- Where the last region stands: what is handed back, or nothing yet; the two boxes it is read from. -/
structure IZ (w : World) (r2 r3 : Nat) (v2 v3 : Value) (A : World → Prop) (L : Array Bool) (W : World) : Prop where
  rb : RC w r2 r3 (pkV (L.getD 2 false) v2) (pkV (L.getD 3 false) v3) W
  ab : A W
section
variable {w : World} {r2 r3 : Nat} {v2 v3 : Value} {A : World → Prop} {L : Array Bool} {W : World}
theorem IZ.keep {i : Nat} (h : IZ w r2 r3 v2 v3 A L W) (h2 : i ≠ 2) (h3 : i ≠ 3) : IZ w r2 r3 v2 v3 A (L.setIfInBounds i true) W :=
  ⟨by rw [getD_set_ne false h2, getD_set_ne false h3]; exact h.rb, h.ab⟩
theorem IZ.st2 (h : IZ w r2 r3 v2 v3 A L W) (hL : L.getD 2 true = false) (hA : ∀ W v, A W → A (W.setCell ⟨r2, 0, none⟩ v)) : IZ w r2 r3 v2 v3 A (L.setIfInBounds 2 true) (W.setCell ⟨r2, 0, none⟩ v2) :=
  ⟨by rw [getD_set_true hL, getD_set_ne false (by omega)]; exact h.rb.set2 v2, hA W _ h.ab⟩
theorem IZ.st3 (h : IZ w r2 r3 v2 v3 A L W) (hL : L.getD 3 true = false) (hA : ∀ W v, A W → A (W.setCell ⟨r3, 0, none⟩ v)) : IZ w r2 r3 v2 v3 A (L.setIfInBounds 3 true) (W.setCell ⟨r3, 0, none⟩ v3) :=
  ⟨by rw [getD_set_true hL, getD_set_ne false (by omega)]; exact h.rb.set3 v3, hA W _ h.ab⟩
end
def zTab2 (vA vB : Value) : Nat → Option Value
  | 0 => some vA
  | 1 => some vB
  | _ => none
/-- What is known of a patch that is drawn. -/
def PQ (q : Pt) : Prop := q.cs.length ≤ 310 ∧ TinyC 1100 10000 q.cs
end Go.Proofs.Ytjlflmbifeocbaa
