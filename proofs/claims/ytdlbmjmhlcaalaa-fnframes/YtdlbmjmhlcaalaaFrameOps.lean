/-
  impl's states of the frame reader, one by one.
-/
import Derived.Test.YtdlbmjmhlcaalaaFrameSt
import Derived.Test.YtdlbmjmhlcaalaaClone
import Derived.Deep.RegionLaw
namespace Go.Proofs.Ytdlbmjmhlcaalaa
open Go.RowKit

/-- A function as a value. -/
def fnv1 (f : FuncId) : Value := .func (.func f) #[] #[]

/-- A call of a Go function of one argument, at a step of a region that draws its order. -/
theorem step_fn {ops : Array Oper} {o : Oper} {a : Act} {K : Act → World → Prop} {Q : Exit → Act → World → Prop} {E : Prop} {w : World} (hgd : o.guard = none) (f : FuncId) (x : Operand) (ty : TypeId) (ho : o.op = .call { callee := .value (.func f), args := #[x], argTypes := #[ty] })
    (v : Value) (hx : a.eval x = v) (hf : ∀ w, (callFunc f #[v]).run Try.prog w = .ok (.enter f #[v]) w) {P2 : Ending → World → Prop} (hc : Calls Try.prog f #[v] w P2)
    (hK : ∀ e w', P2 e w' → ∃ u, e = .returned u ∧ K (a.put o.dst u) w') :
    if Region.wanted o (yielded ops a.tmps) = true then Oper.wp Try.prog o a w K Q else E := by
  rw [if_pos (by simp [Region.wanted, hgd])]
  have he : a.eval (.func f) = .func (.func f) #[] #[] := rfl
  have hr : (execOp a.eval o).run Try.prog w = .ok (.enter f #[v]) w := by
    unfold execOp
    simp only [ho, resolve, Deferred.ofValue, invoke, Sem.run_bind, Sem.run_pure, Result.andThen_ok, List.map_toArray, List.map_cons, List.map_nil, hx, he]
    exact hf w
  unfold Oper.wp
  rw [hr, Oper.upon_enter]
  refine hc.mono ?_
  intro e w' h2
  obtain ⟨u, rfl, hk⟩ := hK e w' h2
  exact hk

def OpPost (B : Nat) (w : World) (g : Nat) (st : Value) (r' : R) (ts' : List ByteArray) (e : Ending) (w' : World) : Prop :=
  e = .returned st ∧ St B w' g r' ts' ∧ Below B w w'

set_option maxRecDepth 20000 in
set_option maxHeartbeats 1000000 in
theorem badState_any (B : Nat) (w : World) (g : Nat) (r : R) (ts : List ByteArray) (h : St B w g r ts) :
    Calls Try.prog 55 #[.pointer (some ⟨g, 0, none⟩)] w fun e w' => OpPost B w g .nilFunc { r with bad := true, rest := ⟨#[]⟩ } ts e w' := by
  have h2 : w.cell? ⟨g, 2, none⟩ = some (.string r.rest) := h.rc.cells 2 (by omega)
  have h4 : w.cell? ⟨g, 4, none⟩ = some (.bool r.bad) := h.rc.cells 4 (by omega)
  have f2 := h.rc.soft 2
  have f4 := h.rc.soft 4
  go_enter Try.func55, Try.ntmps55
  go_wp2
  go_ret
  refine ⟨rfl, ?_, ((Below.refl _ _).setCell h.ge _).setCell h.ge _⟩
  refine (h.set 4 _ { r with bad := true } (by omega) rfl rfl ?_).set 2 _ { r with bad := true, rest := ⟨#[]⟩ } (by omega) rfl rfl ?_
  all_goals (intro j hj hne; match j, hj, hne with | 0, _, _ => rfl | 1, _, _ => rfl | 2, _, _ => (first | rfl | contradiction) | 3, _, _ => rfl | 4, _, _ => (first | rfl | contradiction) | 5, _, _ => rfl | 6, _, _ => rfl | 7, _, _ => rfl)

set_option maxRecDepth 20000 in
set_option maxHeartbeats 1000000 in
theorem payState_any (B : Nat) (w : World) (g : Nat) (r : R) (ts : List ByteArray) (h : St B w g r ts) (hs : r.rest.size ≤ 1099511627776) (hp : r.past ≤ r.rest.size) (hn : r.size ≤ 1000) :
    Calls Try.prog 56 #[.pointer (some ⟨g, 0, none⟩)] w fun e w' =>
      (r.rest.size < r.past + r.size ∧ OpPost B w g .nilFunc r ts e w') ∨ (r.past + r.size ≤ r.rest.size ∧ OpPost B w g (fnv1 57) { r with past := r.past + r.size, payload := r.rest.extract r.past (r.past + r.size) } ts e w') := by
  have h6 : w.cell? ⟨g, 6, none⟩ = some (.int .i64 r.size) := h.rc.cells 6 (by omega)
  go_enter Try.func56, Try.ntmps56
  go_wp2_with fail
  refine (next_any B w g r ts r.size h hs hp hn).mono ?_
  rintro e w1 (⟨rfl, hlt, h1, hb1⟩ | ⟨rfl, hle, h1, hb1⟩)
  · go_wp2
    go_ret
    exact .inl ⟨hlt, rfl, h1, hb1⟩
  · have h7 : w1.cell? ⟨g, 7, none⟩ = some (.string r.payload) := h1.rc.cells 7 (by omega)
    have f7 := h1.rc.soft 7
    go_wp2
    go_ret
    refine .inr ⟨hle, rfl, ?_, hb1.setCell h1.ge _⟩
    refine h1.set 7 _ { r with past := r.past + r.size, payload := r.rest.extract r.past (r.past + r.size) } (by omega) rfl rfl ?_
    all_goals (intro j hj hne; match j, hj, hne with | 0, _, _ => rfl | 1, _, _ => rfl | 2, _, _ => rfl | 3, _, _ => rfl | 4, _, _ => rfl | 5, _, _ => rfl | 6, _, _ => rfl | 7, _, _ => (first | rfl | contradiction))

set_option maxRecDepth 20000 in
set_option maxHeartbeats 1000000 in
theorem sumState_any (B : Nat) (w : World) (g : Nat) (r : R) (ts : List ByteArray) (h : St B w g r ts) (hs : r.rest.size ≤ 1099511627776) (hp : r.past ≤ r.rest.size) (h1 : 1 ≤ r.width) (h8 : r.width ≤ 8) (hpl : r.payload.size ≤ 1000) :
    Calls Try.prog 57 #[.pointer (some ⟨g, 0, none⟩)] w fun e w' =>
      (r.rest.size < r.past + r.width ∧ OpPost B w g .nilFunc r ts e w') ∨
      (r.past + r.width ≤ r.rest.size ∧ sumStr r.payload.data.toList r.width = r.rest.extract r.past (r.past + r.width) ∧ OpPost B w g (fnv1 58) { r with past := r.past + r.width } ts e w') ∨
      (r.past + r.width ≤ r.rest.size ∧ ¬ sumStr r.payload.data.toList r.width = r.rest.extract r.past (r.past + r.width) ∧ OpPost B w g (fnv1 55) { r with past := r.past + r.width } ts e w') := by
  have h0 : w.cell? ⟨g, 0, none⟩ = some (.int .i64 r.width) := h.rc.cells 0 (by omega)
  go_enter Try.func57, Try.ntmps57
  go_wp2_with fail
  refine (next_any B w g r ts r.width h hs hp (by omega)).mono ?_
  rintro e w1 (⟨rfl, hlt, hS1, hb1⟩ | ⟨rfl, hle, hS1, hb1⟩)
  · go_wp2
    go_ret
    exact .inl ⟨hlt, rfl, hS1, hb1⟩
  · have k7 : w1.cell? ⟨g, 7, none⟩ = some (.string r.payload) := hS1.rc.cells 7 (by omega)
    have k0 : w1.cell? ⟨g, 0, none⟩ = some (.int .i64 r.width) := hS1.rc.cells 0 (by omega)
    have hbs := hS1.size
    by_cases hq : sumStr r.payload.data.toList r.width = r.rest.extract r.past (r.past + r.width)
    · have HQ : Hid (sumStr r.payload.data.toList r.width = r.rest.extract r.past (r.past + r.width)) := hq
      have hqB := bs_same hq.symm
      clear hq
      go_wp2_with fail
      go_region_held3 (fun w' => w'.cell? ⟨g, 7, none⟩ = some (.string r.payload) ∧ w'.cell? ⟨g, 0, none⟩ = some (.int .i64 r.width)) (first | go_keep | (exact ⟨e7, e0⟩))
        ((first | (go_at_call 31; refine (implSum_any r.payload r.width _ (by unfold maxLen; omega) h1 h8).mono ?_; rintro e w2 ⟨rfl, hb2⟩; have e7 := cell_later (w := w1.drew) hb2 k7; have e0 := cell_later (w := w1.drew) hb2 k0)))
      go_wp2
      go_ret
      exact .inr (.inl ⟨hle, HQ.out, rfl, hS1.drew.below hb2, hb1.trans ((Below.refl _ _).drew.trans (hb2.mono hbs))⟩)
    · have HQ : Hid (¬ sumStr r.payload.data.toList r.width = r.rest.extract r.past (r.past + r.width)) := hq
      have hqB := bs_diff (Ne.symm hq)
      clear hq
      go_wp2_with fail
      go_region_held3 (fun w' => w'.cell? ⟨g, 7, none⟩ = some (.string r.payload) ∧ w'.cell? ⟨g, 0, none⟩ = some (.int .i64 r.width)) (first | go_keep | (exact ⟨e7, e0⟩))
        ((first | (go_at_call 31; refine (implSum_any r.payload r.width _ (by unfold maxLen; omega) h1 h8).mono ?_; rintro e w2 ⟨rfl, hb2⟩; have e7 := cell_later (w := w1.drew) hb2 k7; have e0 := cell_later (w := w1.drew) hb2 k0)))
      go_wp2
      go_ret
      exact .inr (.inr ⟨hle, HQ.out, rfl, hS1.drew.below hb2, hb1.trans ((Below.refl _ _).drew.trans (hb2.mono hbs))⟩)

set_option maxRecDepth 20000 in
set_option maxHeartbeats 1000000 in
theorem takeState_full (B : Nat) (w : World) (g : Nat) (r : R) (ts : List ByteArray) (h : St B w g r ts) (h0 : r.room = 0) :
    Calls Try.prog 58 #[.pointer (some ⟨g, 0, none⟩)] w fun e w' => OpPost B w g (fnv1 55) r ts e w' := by
  have h1 : w.cell? ⟨g, 1, none⟩ = some (.int .i64 0) := by have := h.rc.cells 1 (by omega); rw [this, R.val, h0]; rfl
  go_enter Try.func58, Try.ntmps58
  go_wp2
  go_ret
  exact ⟨rfl, h, Below.refl _ _⟩

set_option maxRecDepth 20000 in
set_option maxHeartbeats 2000000 in
theorem takeState_any (B : Nat) (w : World) (g : Nat) (r : R) (ts : List ByteArray) (h : St B w g r ts) (h0 : 0 < r.room) (hr : r.room ≤ 500) (hp : r.past ≤ r.rest.size) (hpl : r.payload.size ≤ 1000) (hts : ts.length ≤ 500) :
    Calls Try.prog 58 #[.pointer (some ⟨g, 0, none⟩)] w fun e w' => ∃ tk, OpPost B w g (fnv1 49) { r with room := r.room - 1, taken := tk, rest := r.rest.extract r.past r.rest.size, past := 0, size := 0 } (ts ++ [r.payload]) e w' := by
  obtain ⟨i0, hi, hz0, hz1, hz2⟩ := info_parts Try.infoStr
  have h1 : w.cell? ⟨g, 1, none⟩ = some (.int .i64 r.room) := h.rc.cells 1 (by omega)
  have f1 := h.rc.soft 1
  have hne : ((r.room : Int) == 0) = false := by simp; omega
  have hS1 : St B (w.setCell ⟨g, 1, none⟩ (.int .i64 ((r.room : Int) - 1))) g { r with room := r.room - 1 } ts := by
    refine h.set 1 _ { r with room := r.room - 1 } (by omega) rfl ?_ ?_
    · show Value.int .i64 ((r.room - 1 : Nat) : Int) = _
      congr 1; omega
    · intro j hj hne
      match j, hj, hne with | 0, _, _ => rfl | 2, _, _ => rfl | 3, _, _ => rfl | 4, _, _ => rfl | 5, _, _ => rfl | 6, _, _ => rfl | 7, _, _ => rfl
  have k3 := hS1.rc.cells 3 (by omega)
  have k7 := hS1.rc.cells 7 (by omega)
  have g3 := hS1.rc.soft 3
  simp only [R.val] at k3 k7
  have hb0 : Below B w (w.setCell ⟨g, 1, none⟩ (.int .i64 ((r.room : Int) - 1))) := (Below.refl _ _).setCell h.ge _
  go_enter Try.func58, Try.ntmps58
  go_wp2_with fail
  generalize w.setCell ⟨g, 1, none⟩ (.int .i64 ((r.room : Int) - 1)) = w0 at *
  have hsz0 := hS1.size
  have hown0 : w0.ownsRow B 9 1 r.taken ts.length (ts.map .string) := hS1.own
  go_region_law ((first | (refine step_fn (by rfl) 35 _ _ (by rfl) (.string r.payload) (by rfl) (fun _ => by kernel_rfl) (P2 := fun e w' => e = .returned (.string r.payload) ∧ Below w0.drew.heap.size w0.drew w') (clone_any r.payload _ (by omega)) ?_; rintro e w1 ⟨rfl, hb1⟩; refine ⟨_, rfl, ?_⟩; have e7 := cell_later (w := w0.drew) hb1 k7; have e3 := cell_later (w := w0.drew) hb1 k3; have e3' : ∀ o, (w1.alloc o).cell? ⟨g, 3, none⟩ = some r.taken := fun o => (World.cell?_alloc_some w1 _ o (by rw [e3]; rfl)).trans e3; have hT1 := hS1.drew.below hb1; have hsz1 := hb1.size; have hap : some g ≠ r.taken.ownBlock := h.apart; have hsz2 : B ≤ w1.heap.size + 1 := Nat.le_succ_of_le (Nat.le_trans hsz0 hsz1)) | (refine step_append_lies _ (by rfl) _ _ 22 (by rfl) B 9 i0 _ 1 16 Try.underlying22 hi hz0 hz1 hz2 rfl (by decide) r.taken ts.length (ts.map .string) (by rfl) (by exact hT1.own.alloc _) ⟨w1.heap.size, 0, none⟩ 1 1 [.string r.payload] (by rfl) (by rfl) (by exact cell_one_new _ _ _) (by simp [Value.oneCell']) (by omega) (by unfold maxLen; omega) (by omega) (by simpa using hsz2) (w1.heap.size + 1) (by simp) ?_; intro g2 cap2 w2 hown2 hgrow2 hat2 hlt2; have q3 := hgrow2.cell (a := ⟨g, 3, none⟩) ((World.cell?_alloc_some w1 _ _ (by rw [e3]; rfl)).trans e3) hap; have q7 := hgrow2.cell (a := ⟨g, 7, none⟩) ((World.cell?_alloc_some w1 _ _ (by rw [e7]; rfl)).trans e7) hap; have qf := (hgrow2.frozen_far ⟨g, 3, none⟩ (by simpa using Nat.lt_succ_of_lt hT1.rc.lt) hap).trans ((World.frozen?_alloc_past (w := w1) _ g 3 hT1.rc.lt).trans (hT1.rc.soft 3)))))
  all_goals
    have hx1 : Below B w w1 := hb0.trans ((Below.refl _ _).drew.trans (hb1.mono hsz0))
    have hx2 := (hx1.alloc (Nat.le_trans hsz0 hsz1) _).grown hgrow2 (by simpa using hsz2) (owns_base hT1.own)
    have hS2 : St B (w2.setCell ⟨g, 3, none⟩ (.slice (some ⟨g2, 0, none⟩) (ts.length + 1) cap2)) g { r with room := r.room - 1, taken := .slice (some ⟨g2, 0, none⟩) (ts.length + 1) cap2 } (ts ++ [r.payload]) := by
      have hap2 : some g ≠ (Value.slice (some ⟨g2, 0, none⟩) (ts.length + 1) cap2).ownBlock := by
        intro e
        have e' : g = g2 := by simpa [Value.ownBlock] using e
        have hglt := hT1.rc.lt
        rcases hat2 with h | h
        · exact hap (by rw [h, e'])
        · omega
      have hrc : RC w2 g { r with room := r.room - 1 } := hT1.rc.block ((hgrow2.block g (by simpa using Nat.lt_succ_of_lt hT1.rc.lt) hap).trans (Below.heap_alloc w1 _ g hT1.rc.lt))
      refine ⟨hrc.set 3 _ _ (by omega) rfl ?_, ?_, hap2, h.ge, fun e => by simp at e⟩
      · intro j hj hne
        match j, hj, hne with | 0, _, _ => rfl | 1, _, _ => rfl | 2, _, _ => rfl | 4, _, _ => rfl | 5, _, _ => rfl | 6, _, _ => rfl | 7, _, _ => rfl
      · rw [List.length_append, List.map_append]
        exact owns_set hown2 hap2
    have hx3 := hx2.setCell h.ge (.slice (some ⟨g2, 0, none⟩) (ts.length + 1) cap2) (p := ⟨g, 3, none⟩)
    generalize w2.setCell ⟨g, 3, none⟩ (.slice (some ⟨g2, 0, none⟩) (ts.length + 1) cap2) = w3 at *
    have m2 := hS2.rc.cells 2 (by omega)
    have m5 := hS2.rc.cells 5 (by omega)
    have m6 := hS2.rc.cells 6 (by omega)
    have n2 := hS2.rc.soft 2
    have n5 := hS2.rc.soft 5
    have n6 := hS2.rc.soft 6
    simp only [R.val] at m2 m5 m6
    clear e3 e3' e7 q3 q7 qf hown2 hgrow2 hat2 hlt2 hT1 hown0 k3 k7 g3 hS1 h1 f1
    go_wp2
    go_region
    all_goals (try go_wp2)
  all_goals
    go_ret
    refine ⟨.slice (some ⟨g2, 0, none⟩) (ts.length + 1) cap2, rfl, ?_, (((hx3.setCell h.ge _).setCell h.ge _).setCell h.ge _).drew⟩
    refine (((hS2.set 2 _ { r with room := r.room - 1, taken := .slice (some ⟨g2, 0, none⟩) (ts.length + 1) cap2, rest := r.rest.extract r.past r.rest.size } (by omega) rfl rfl ?_).set 5 _ { r with room := r.room - 1, taken := .slice (some ⟨g2, 0, none⟩) (ts.length + 1) cap2, rest := r.rest.extract r.past r.rest.size, past := 0 } (by omega) rfl rfl ?_).set 6 _ { r with room := r.room - 1, taken := .slice (some ⟨g2, 0, none⟩) (ts.length + 1) cap2, rest := r.rest.extract r.past r.rest.size, past := 0, size := 0 } (by omega) rfl rfl ?_).drew
    all_goals (intro j hj hne; match j, hj, hne with | 0, _, _ => rfl | 1, _, _ => rfl | 2, _, _ => (first | rfl | contradiction) | 3, _, _ => rfl | 4, _, _ => rfl | 5, _, _ => (first | rfl | contradiction) | 6, _, _ => (first | rfl | contradiction) | 7, _, _ => rfl)
end Go.Proofs.Ytdlbmjmhlcaalaa
