/-
  spec.DrawFeed: its ground.
-/
import Derived.Test.YtdlbmjmhlcaalaaSpoilAny
namespace Go.Proofs.Ytdlbmjmhlcaalaa
open Go.RowKit

/-- All that DrawFeed holds: the reader, the answer's block, the decoder's block, its row. -/
structure DF (w0 W : World) (g : Nat) (a : Option Addr) (cap : Nat) (zs : List Int) (p b5 B : Nat) (m : Int) (rest : ByteArray) (sl : Value) (bad : Bool) (ss : List ByteArray) : Prop where
  rd : Rd W g a cap zs p
  below : Below w0.heap.size w0 W
  f2 : Fed W w0.heap.size 0 ⟨#[]⟩ (.slice none 0 0) false
  f5 : Fed W b5 m rest sl bad
  ty : ∃ c f, W.heap[b5]? = some (.cells c 32 f)
  own : W.ownsRow B 9 1 sl ss.length (ss.map .string)
  g1 : w0.heap.size < g
  b1 : g < b5
  B1 : g < B
  B2 : B ≤ W.heap.size

theorem DF.ne {w0 W : World} {g : Nat} {a : Option Addr} {cap : Nat} {zs : List Int} {p b5 B : Nat} {m : Int} {rest : ByteArray} {sl : Value} {bad : Bool} {ss : List ByteArray} (h : DF w0 W g a cap zs p b5 B m rest sl bad ss) : some b5 ≠ sl.ownBlock := by
  intro e
  obtain ⟨c, f, hc⟩ := h.ty
  rcases h.own.2 with ⟨hv, _⟩ | ⟨k, cp, cur, hv, _, h2, _⟩
  · rw [hv] at e; simp [Value.ownBlock] at e
  · rw [hv] at e
    simp [Value.ownBlock] at e
    subst e
    rw [h2] at hc
    cases hc
theorem DF.grow {w0 W W' : World} {g : Nat} {a : Option Addr} {cap : Nat} {zs : List Int} {p b5 B : Nat} {m : Int} {rest : ByteArray} {sl : Value} {bad : Bool} {ss : List ByteArray} (h : DF w0 W g a cap zs p b5 B m rest sl bad ss) (hb : Below W.heap.size W W') : DF w0 W' g a cap zs p b5 B m rest sl bad ss := by
  have := h.below.size
  obtain ⟨c, f, hc⟩ := h.ty
  exact ⟨h.rd.below hb, h.below.trans (hb.mono this), h.f2.later hb, h.f5.later hb, ⟨c, f, (hb.block b5 h.f5.lt).trans hc⟩, owns_below h.own hb, h.g1, h.b1, h.B1, Nat.le_trans h.B2 hb.size⟩
theorem DF.pick {w0 W W' : World} {g : Nat} {a : Option Addr} {cap : Nat} {zs : List Int} {p p' b5 B : Nat} {m : Int} {rest : ByteArray} {sl : Value} {bad : Bool} {ss : List ByteArray} (h : DF w0 W g a cap zs p b5 B m rest sl bad ss) (hg : W.grownBy W' (some g)) (hR : Rd W' g a cap zs p') : DF w0 W' g a cap zs p' b5 B m rest sl bad ss := by
  have h1 := h.g1; have h2 := h.b1; have h3 := h.B1
  obtain ⟨c, f, hc⟩ := h.ty
  exact ⟨hR, h.below.grown hg h.below.size (fun k e => by cases e; omega), h.f2.grown hg (by simp; omega), h.f5.grown' hg (by omega), ⟨c, f, (hg.block b5 h.f5.lt (by simp; omega)).trans hc⟩, owns_rd h.own hg (by omega), h.g1, h.b1, h.B1, Nat.le_trans h.B2 hg.size⟩

theorem ty_set {W : World} {b : Nat} {t : TypeId} (p : Addr) (v : Value) (h : ∃ c f, W.heap[b]? = some (.cells c t f)) : ∃ c f, (W.setCell p v).heap[b]? = some (.cells c t f) := by
  obtain ⟨c, f, hc⟩ := h
  by_cases e : p.block = b
  · unfold World.setCell
    simp only [Array.getElem?_modify, e, if_true, hc, Option.map_some]
    split
    · exact ⟨_, _, rfl⟩
    · exact ⟨_, _, rfl⟩
  · exact ⟨c, f, (Below.heap_setCell W p v b (fun h => e h.symm)).trans hc⟩

/-- The decoder is written anew. -/
theorem DF.put {w0 W : World} {g : Nat} {a : Option Addr} {cap : Nat} {zs : List Int} {p b5 B B' : Nat} {m m' : Int} {rest rest' : ByteArray} {sl sl' : Value} {bad bad' : Bool} {ss ss' : List ByteArray} (h : DF w0 W g a cap zs p b5 B m rest sl bad ss)
    (ho : W.ownsRow B' 9 1 sl' ss'.length (ss'.map .string)) (hB1 : g < B') (hB2 : B' ≤ W.heap.size) :
    DF w0 ((((W.setCell ⟨b5, 0, none⟩ (.int .i64 m')).setCell ⟨b5, 1, none⟩ (.string rest')).setCell ⟨b5, 2, none⟩ sl').setCell ⟨b5, 3, none⟩ (.bool bad')) g a cap zs p b5 B' m' rest' sl' bad' ss' := by
  have h1 := h.g1; have h2 := h.b1
  have hne : some b5 ≠ sl'.ownBlock := by
    intro e
    obtain ⟨c, f, hc⟩ := h.ty
    rcases ho.2 with ⟨hv, _⟩ | ⟨k, cp, cur, hv, _, h2, _⟩
    · rw [hv] at e; simp [Value.ownBlock] at e
    · rw [hv] at e
      simp [Value.ownBlock] at e
      subst e
      rw [h2] at hc
      cases hc
  have hk : ∀ k, some b5 = some k → g < k := fun k hk => by cases hk; exact h2
  have hb : ∀ (X : World) (i : Nat) (v : Value), Below w0.heap.size w0 X → Below w0.heap.size w0 (X.setCell ⟨b5, i, none⟩ v) := fun X i v hX => hX.setCell (by show w0.heap.size ≤ b5; omega) _
  exact ⟨(((h.rd.kept (grown_set _ _ _ _) hk).kept (grown_set _ _ _ _) hk).kept (grown_set _ _ _ _) hk).kept (grown_set _ _ _ _) hk, hb _ _ _ (hb _ _ _ (hb _ _ _ (hb _ _ _ h.below))), (((h.f2.other (by omega)).other (by omega)).other (by omega)).other (by omega), h.f5.set0.set1.set2.set3, ty_set _ _ (ty_set _ _ (ty_set _ _ (ty_set _ _ h.ty))), owns_set (owns_set (owns_set (owns_set ho hne) hne) hne) hne, h1, h2, hB1, by simpa using hB2⟩
/-- The decoder is written anew after what turned the reader and the row. -/
theorem DF.spoil {w0 W W' : World} {g : Nat} {a : Option Addr} {cap : Nat} {zs : List Int} {p p' b5 B : Nat} {m m' : Int} {rest rest' : ByteArray} {sl sl' : Value} {bad bad' : Bool} {ss ss' : List ByteArray} (h : DF w0 W g a cap zs p b5 B m rest sl bad ss)
    (hG : G2 W W' g sl.ownBlock) (hR : Rd W' g a cap zs p') (ho : W'.ownsRow B 9 1 sl' ss'.length (ss'.map .string)) :
    Fed W' b5 m rest sl bad ∧ DF w0 ((((W'.setCell ⟨b5, 0, none⟩ (.int .i64 m')).setCell ⟨b5, 1, none⟩ (.string rest')).setCell ⟨b5, 2, none⟩ sl').setCell ⟨b5, 3, none⟩ (.bool bad')) g a cap zs p' b5 B m' rest' sl' bad' ss' := by
  have h1 := h.g1; have h2 := h.b1; have h3 := h.B1; have hs := h.below.size
  have hne0 := h.ne
  have hrow : ∀ k, sl.ownBlock = some k → B ≤ k := fun k hk => owns_row_ge h.own hk
  have blk : ∀ k, k < W.heap.size → k ≠ g → some k ≠ sl.ownBlock → W'.heap[k]? = W.heap[k]? := hG.block
  have hfed : ∀ (b : Nat) (n : Int) (r : ByteArray) (v : Value) (d : Bool), Fed W b n r v d → b ≠ g → some b ≠ sl.ownBlock → Fed W' b n r v d := fun b n r v d hf hg hr => by
    have e := blk b hf.lt hg hr
    exact ⟨(World.cell?_of_block (w := W) (a := ⟨b, 0, none⟩) e).trans hf.c0, (World.cell?_of_block (w := W) (a := ⟨b, 1, none⟩) e).trans hf.c1, (World.cell?_of_block (w := W) (a := ⟨b, 2, none⟩) e).trans hf.c2, (World.cell?_of_block (w := W) (a := ⟨b, 3, none⟩) e).trans hf.c3, fun j => (World.frozen?_of_block (w := W) (a := ⟨b, j, none⟩) e).trans (hf.cf j)⟩
  have f5 := hfed _ _ _ _ _ h.f5 (by omega) hne0
  have f2 := hfed _ _ _ _ _ h.f2 (by omega) (fun e => by have := hrow _ e.symm; omega)
  have hbel : Below w0.heap.size w0 W' := h.below.trans ⟨hG.os, hG.tape, hG.output, hG.size, fun k hk => blk k (by omega) (by omega) (fun e => by have := hrow _ e.symm; omega)⟩
  obtain ⟨c, f, hc⟩ := h.ty
  have ty : ∃ c f, W'.heap[b5]? = some (.cells c 32 f) := ⟨c, f, (blk b5 h.f5.lt (by omega) hne0).trans hc⟩
  have hne : some b5 ≠ sl'.ownBlock := by
    intro e
    obtain ⟨c, f, hc⟩ := ty
    rcases ho.2 with ⟨hv, _⟩ | ⟨k, cp, cur, hv, _, h2, _⟩
    · rw [hv] at e; simp [Value.ownBlock] at e
    · rw [hv] at e
      simp [Value.ownBlock] at e
      subst e
      rw [h2] at hc
      cases hc
  have hk : ∀ k, some b5 = some k → g < k := fun k hk => by cases hk; exact h2
  have hb : ∀ (X : World) (i : Nat) (v : Value), Below w0.heap.size w0 X → Below w0.heap.size w0 (X.setCell ⟨b5, i, none⟩ v) := fun X i v hX => hX.setCell (by show w0.heap.size ≤ b5; omega) _
  exact ⟨f5, (((hR.kept (grown_set _ _ _ _) hk).kept (grown_set _ _ _ _) hk).kept (grown_set _ _ _ _) hk).kept (grown_set _ _ _ _) hk, hb _ _ _ (hb _ _ _ (hb _ _ _ (hb _ _ _ hbel))), (((f2.other (by omega)).other (by omega)).other (by omega)).other (by omega), f5.set0.set1.set2.set3, ty_set _ _ (ty_set _ _ (ty_set _ _ (ty_set _ _ ty))), owns_set (owns_set (owns_set (owns_set ho hne) hne) hne) hne, h1, h2, h3, by have := hG.size; have := h.B2; simp; omega⟩
/-- The answer is written. -/
theorem DF.ends {w0 W : World} {g : Nat} {a : Option Addr} {cap : Nat} {zs : List Int} {p b5 B : Nat} {m : Int} {rest : ByteArray} {sl : Value} {bad : Bool} {ss : List ByteArray} (h : DF w0 W g a cap zs p b5 B m rest sl bad ss) :
    Fed ((((W.setCell ⟨w0.heap.size, 0, none⟩ (.int .i64 m)).setCell ⟨w0.heap.size, 1, none⟩ (.string rest)).setCell ⟨w0.heap.size, 2, none⟩ sl).setCell ⟨w0.heap.size, 3, none⟩ (.bool bad)) w0.heap.size m rest sl bad ∧
    ((((W.setCell ⟨w0.heap.size, 0, none⟩ (.int .i64 m)).setCell ⟨w0.heap.size, 1, none⟩ (.string rest)).setCell ⟨w0.heap.size, 2, none⟩ sl).setCell ⟨w0.heap.size, 3, none⟩ (.bool bad)).ownsRow w0.heap.size 9 1 sl ss.length (ss.map .string) ∧
    Below w0.heap.size w0 ((((W.setCell ⟨w0.heap.size, 0, none⟩ (.int .i64 m)).setCell ⟨w0.heap.size, 1, none⟩ (.string rest)).setCell ⟨w0.heap.size, 2, none⟩ sl).setCell ⟨w0.heap.size, 3, none⟩ (.bool bad)) := by
  have h1 := h.g1; have h3 := h.B1
  have hap : some w0.heap.size ≠ sl.ownBlock := fun e => by have := owns_row_ge h.own e.symm; omega
  have hb : ∀ (X : World) (i : Nat) (v : Value), Below w0.heap.size w0 X → Below w0.heap.size w0 (X.setCell ⟨w0.heap.size, i, none⟩ v) := fun X i v hX => hX.setCell (Nat.le_refl _) _
  exact ⟨h.f2.set0.set1.set2.set3, owns_mono (owns_set (owns_set (owns_set (owns_set h.own hap) hap) hap) hap) (by omega), hb _ _ _ (hb _ _ _ (hb _ _ _ (hb _ _ _ h.below)))⟩

theorem Code0.later {w w' : World} {a : Option Addr} {cap : Nat} {zs : List Int} (h : Code0 w a cap zs) (hb : Below w.heap.size w w') : Code0 w' a cap zs := by
  refine ⟨?_, h.len, h.cap, h.wf⟩
  rcases h.bytes with h0 | ⟨b, off, ha, hlt, hc⟩
  · exact .inl h0
  · exact .inr ⟨b, off, ha, Nat.lt_of_lt_of_le hlt hb.size, fun i hi => cell_later hb (hc i hi)⟩

def FeedDrawn (w : World) (e : Ending) (w' : World) : Prop :=
  ∃ m rest ad cp ss bad s, e = .returned (.tuple #[decV m rest (.slice ad (List.length ss) cp) bad, .string s]) ∧ w'.ownsRow w.heap.size 9 1 (.slice ad ss.length cp) ss.length (ss.map .string) ∧ Small rest ss ∧ s.size ≤ 3000000 ∧ Below w.heap.size w w'
end Go.Proofs.Ytdlbmjmhlcaalaa
