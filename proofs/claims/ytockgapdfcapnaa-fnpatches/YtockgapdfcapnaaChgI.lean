/-
  impl's change (a pointer's method that appends), where there is a change.
-/
import Derived.Test.YtockgapdfcapnaaZbf
import Derived.Test.YtockgapdfcapnaaPatP
import Derived.Deep.DeepCutAuto
import Derived.Deep.RegionLaw
namespace Go.Proofs.Ytockgapdfcapnaa
open Go.RowKit

def ChangePost (h : Nat) (W0 : World) (us : List Ch) (c : Ch) (e : Ending) (w' : World) : Prop := e = .returned (.tuple #[]) ∧ ∃ ad cap, OutCh h W0 (.slice ad (us.length + 1) cap) (us ++ [c]) w'

theorem step_fn1 {ops : Array Oper} {o : Oper} {a : Act} {K : Act → World → Prop} {Q : Exit → Act → World → Prop} {E : Prop} {w : World} (hgd : o.guard = none) (f : FuncId) (x : Operand) (ty : TypeId) (ho : o.op = .call { callee := .value (.func f), args := #[x], argTypes := #[ty] })
    (v : Value) (hx : a.eval x = v) (hf : ∀ w, (callFunc f #[v]).run Try.prog w = .ok (.enter f #[v]) w) {P2 : Ending → World → Prop} (hc : Calls Try.prog f #[v] w P2)
    (hK : ∀ e w', P2 e w' → ∃ u, e = .returned u ∧ K (a.put o.dst u) w') :
    if Region.wanted o (yielded ops a.tmps) = true then Oper.wp Try.prog o a w K Q else E := by
  rw [if_pos (by simp [Region.wanted, hgd])]
  have he : a.eval (.func f) = .func (.func f) #[] #[] := rfl
  have hr : (execOp a.eval o).run Try.prog w = .ok (.enter f #[v]) w := by
    unfold execOp
    simp only [ho, resolve, Deferred.ofValue, invoke, Sem.run_bind, Sem.run_pure, Result.andThen_ok, List.map_toArray, List.map_cons, List.map_nil, hx, he]
    exact hf w
  unfold Oper.wp
  rw [hr, Oper.upon_enter]
  refine hc.mono ?_
  intro e w' h2
  obtain ⟨u, rfl, hk⟩ := hK e w' h2
  exact hk

/-- A change's state with the two boxes of 'change', one above the other. -/
structure ChgSt (h : Nat) (W0 : World) (v : Value) (us : List Ch) (c : Ch) (b : Nat) (W : World) : Prop where
  out : OutCh h W0 v us W
  d0 : W.cell? ⟨b, 0, none⟩ = some (.bool c.old.there)
  d1 : W.cell? ⟨b, 1, none⟩ = some (.string c.old.text)
  d2 : W.cell? ⟨b, 2, none⟩ = some (.bool c.old.runs)
  n0 : W.cell? ⟨b + 1, 0, none⟩ = some (.bool c.new.there)
  n1 : W.cell? ⟨b + 1, 1, none⟩ = some (.string c.new.text)
  n2 : W.cell? ⟨b + 1, 2, none⟩ = some (.bool c.new.runs)
  lt : b + 1 < W.heap.size
theorem ChgSt.later {h : Nat} {W0 : World} {v : Value} {us : List Ch} {c : Ch} {b : Nat} {W W' : World} (s : ChgSt h W0 v us c b W) (hb : Below W.heap.size W W') : ChgSt h W0 v us c b W' :=
  ⟨s.out.later hb, cell_later hb s.d0, cell_later hb s.d1, cell_later hb s.d2, cell_later hb s.n0, cell_later hb s.n1, cell_later hb s.n2, Nat.lt_of_lt_of_le s.lt hb.size⟩
theorem ChgSt.all {h : Nat} {W0 : World} {v : Value} {us : List Ch} {c : Ch} {b : Nat} {W : World} (s : ChgSt h W0 v us c b W) : W.cell? ⟨h, 0, none⟩ = some v ∧ (W.cell? ⟨b, 0, none⟩ = some (.bool c.old.there) ∧ W.cell? ⟨b, 1, none⟩ = some (.string c.old.text) ∧ W.cell? ⟨b, 2, none⟩ = some (.bool c.old.runs)) ∧ W.cell? ⟨b + 1, 0, none⟩ = some (.bool c.new.there) ∧ W.cell? ⟨b + 1, 1, none⟩ = some (.string c.new.text) ∧ W.cell? ⟨b + 1, 2, none⟩ = some (.bool c.new.runs) :=
  ⟨s.out.cell, ⟨s.d0, s.d1, s.d2⟩, s.n0, s.n1, s.n2⟩
theorem grown_all {h : Nat} {W0 : World} {v : Value} {us : List Ch} {c : Ch} {b : Nat} {W W1 w2 : World} (s : ChgSt h W0 v us c b W) (hb : Below W.heap.size W W1) (hg : W1.grownBy w2 v.ownBlock) (hv : ∀ k, v.ownBlock = some k → k < b) : w2.cell? ⟨h, 0, none⟩ = some v ∧ (w2.cell? ⟨b, 0, none⟩ = some (.bool c.old.there) ∧ w2.cell? ⟨b, 1, none⟩ = some (.string c.old.text) ∧ w2.cell? ⟨b, 2, none⟩ = some (.bool c.old.runs)) ∧ w2.cell? ⟨b + 1, 0, none⟩ = some (.bool c.new.there) ∧ w2.cell? ⟨b + 1, 1, none⟩ = some (.string c.new.text) ∧ w2.cell? ⟨b + 1, 2, none⟩ = some (.bool c.new.runs) := by
  have s1 := s.later hb
  have hbl := s1.lt
  have e0 : ∀ j, w2.cell? ⟨b, j, none⟩ = W1.cell? ⟨b, j, none⟩ := fun j => hg.cell_far ⟨b, j, none⟩ (show b < _ by omega) (fun e => by have := hv b e.symm; omega)
  have e1 : ∀ j, w2.cell? ⟨b + 1, j, none⟩ = W1.cell? ⟨b + 1, j, none⟩ := fun j => hg.cell_far ⟨b + 1, j, none⟩ (show b + 1 < _ by omega) (fun e => by have := hv (b + 1) e.symm; omega)
  exact ⟨(s.out.mid hb hg).1, ⟨(e0 0).trans s1.d0, (e0 1).trans s1.d1, (e0 2).trans s1.d2⟩, (e1 0).trans s1.n0, (e1 1).trans s1.n1, (e1 2).trans s1.n2⟩

theorem set_all {h b : Nat} {c : Ch} {x : Value} {w' : World} (h0 : h ≠ b) (h1 : h ≠ b + 1) (H : (w'.cell? ⟨b, 0, none⟩ = some (.bool c.old.there) ∧ w'.cell? ⟨b, 1, none⟩ = some (.string c.old.text) ∧ w'.cell? ⟨b, 2, none⟩ = some (.bool c.old.runs)) ∧ w'.cell? ⟨b + 1, 0, none⟩ = some (.bool c.new.there) ∧ w'.cell? ⟨b + 1, 1, none⟩ = some (.string c.new.text) ∧ w'.cell? ⟨b + 1, 2, none⟩ = some (.bool c.new.runs)) : ((w'.setCell ⟨h, 0, none⟩ x).cell? ⟨b, 0, none⟩ = some (.bool c.old.there) ∧ (w'.setCell ⟨h, 0, none⟩ x).cell? ⟨b, 1, none⟩ = some (.string c.old.text) ∧ (w'.setCell ⟨h, 0, none⟩ x).cell? ⟨b, 2, none⟩ = some (.bool c.old.runs)) ∧ (w'.setCell ⟨h, 0, none⟩ x).cell? ⟨b + 1, 0, none⟩ = some (.bool c.new.there) ∧ (w'.setCell ⟨h, 0, none⟩ x).cell? ⟨b + 1, 1, none⟩ = some (.string c.new.text) ∧ (w'.setCell ⟨h, 0, none⟩ x).cell? ⟨b + 1, 2, none⟩ = some (.bool c.new.runs) := by
  have e0 : ∀ j, (w'.setCell ⟨h, 0, none⟩ x).cell? ⟨b, j, none⟩ = w'.cell? ⟨b, j, none⟩ := fun j => World.cell?_of_block (Below.heap_setCell _ _ _ _ (fun e => h0 e.symm))
  have e1 : ∀ j, (w'.setCell ⟨h, 0, none⟩ x).cell? ⟨b + 1, j, none⟩ = w'.cell? ⟨b + 1, j, none⟩ := fun j => World.cell?_of_block (Below.heap_setCell _ _ _ _ (fun e => h1 e.symm))
  rw [e0, e0, e0, e1, e1, e1]; exact H

set_option maxRecDepth 100000 in
set_option maxHeartbeats 8000000 in
theorem change_any (h : Nat) (W0 : World) (v : Value) (us : List Ch) (c : Ch) (w : World) (hst : OutCh h W0 v us w) (hul : us.length ≤ 1048576) (hne : sameF c.old c.new = false) (hp : c.path.size ≤ 281474976710656) (ho : c.old.text.size ≤ 281474976710656) (hnw : c.new.text.size ≤ 281474976710656) :
    Calls Try.prog 41 #[.pointer (some ⟨h, 0, none⟩), .string c.path, flV c.old, flV c.new] w fun e w' => ChangePost h W0 us c e w' := by
  have hco := copied_any c.old
  have hcn := copied_any c.new
  unfold flV at hco hcn ⊢
  obtain ⟨i0, hi, hz0, hz1, hzb⟩ := info_parts Try.infoChange
  have hal : Below w.heap.size w ((w.alloc (.cells #[.bool c.old.there, .string c.old.text, .bool c.old.runs] 69)).alloc (.cells #[.bool c.new.there, .string c.new.text, .bool c.new.runs] 69)) := ((Below.refl _ _).alloc (Nat.le_refl _) _).alloc (by simp) _
  have HS2 : Keep (ChgSt h W0 v us c w.heap.size ((w.alloc (.cells #[.bool c.old.there, .string c.old.text, .bool c.old.runs] 69)).alloc (.cells #[.bool c.new.there, .string c.new.text, .bool c.new.runs] 69))) := ⟨⟨hst.later hal, by simp, by simp, by simp, by simp, by simp, by simp, by simp⟩⟩
  have HV : Keep (∀ k, v.ownBlock = some k → k < w.heap.size) := ⟨fun k hk => by
    rcases hst.row.2 with ⟨e, _⟩ | ⟨g, cap, cur, e, _, hg, _⟩
    · rw [e] at hk; simp [Value.ownBlock] at hk
    · rw [e] at hk; simp [Value.ownBlock] at hk; subst hk; exact (Array.getElem?_eq_some_iff.1 hg).1⟩
  have HH : Keep (h < w.heap.size) := ⟨hst.size⟩
  go_enter Try.func41, Try.ntmps41
  go_upto_region 1 with fail
  go_cut [10] (fun x wx => x = .bool true ∧ wx = (w.alloc (.cells #[.bool c.old.there, .string c.old.text, .bool c.old.runs] 69)).alloc (.cells #[.bool c.new.there, .string c.new.text, .bool c.new.runs] 69))
  case first =>
    by_cases h1 : c.old.there = c.new.there
    · by_cases h2 : c.old.text.toList = c.new.text.toList
      · by_cases h3 : c.old.runs = c.new.runs
        · exfalso
          rw [Bool.eq_false_iff] at hne
          exact hne ((by simp [sameF, h1, h2, h3] : sameF c.old c.new = true))
        · go_wp2_with fail
          go_meet
          case rel => exact ⟨rfl, by rw [h1]⟩
      · go_wp2_with fail
        go_meet
        case rel => exact ⟨rfl, by rw [h1]⟩
    · go_wp2_with fail
      go_meet
      case rel => exact ⟨rfl, rfl⟩
  case rest =>
    obtain ⟨rfl, rfl⟩ := hcut
    clear hne hst hal
    go_wp2_with fail
    generalize (w.alloc (.cells #[.bool c.old.there, .string c.old.text, .bool c.old.runs] 69)).alloc (.cells #[.bool c.new.there, .string c.new.text, .bool c.new.runs] 69) = w2 at *
    have s2 := HS2.out
    have HQ0 : Keep (ChgSt h W0 v us c w.heap.size w2.drew) := ⟨s2.later (Below.refl _ _).drew⟩
    obtain ⟨b, hbe⟩ : ∃ b, b = w.heap.size := ⟨_, rfl⟩
    rw [← hbe] at HS2 HV HQ0 s2 HH ⊢
    clear hbe
    obtain ⟨o0, ⟨d0, d1, d2⟩, n0, n1, n2⟩ := s2.all
    have hhb : h ≠ b := fun e => by have := HH.out; omega
    have hhb1 : h ≠ b + 1 := fun e => by have := HH.out; omega
    have of := s2.out.fz
    clear s2
    go_region_law ((first
      | (refine step_fn1 (by rfl) 28 _ _ (by rfl) (.string c.path) (by rfl) (fun _ => by kernel_rfl) (P2 := fun e w' => e = .returned (.string c.path) ∧ ChgSt h W0 v us c b w') ((clone_any c.path _ hp).mono (fun e w' hh => ⟨hh.1, HQ0.out.later hh.2⟩)) ?_; rintro e w3 ⟨rfl, hq⟩; refine ⟨_, rfl, ?_⟩; have HQ : Keep (ChgSt h W0 v us c b w3) := ⟨hq⟩; obtain ⟨ph, ⟨p0, p1, p2⟩, p3, p4, p5⟩ := hq.all; clear hq; have pha : ∀ o, (w3.alloc o).cell? ⟨h, 0, none⟩ = some v := fun o => cell_later ((Below.refl _ _).alloc (Nat.le_refl _) _) ph)
      | (refine step_fn1 (by rfl) 70 _ _ (by rfl) (.agg #[.bool c.old.there, .string c.old.text, .bool c.old.runs]) (by rfl) (fun _ => by kernel_rfl) (P2 := fun e w' => e = .returned (.agg #[.bool c.old.there, .string c.old.text, .bool c.old.runs]) ∧ ChgSt h W0 v us c b w') ((hco _ ho).mono (fun e w' hh => ⟨hh.1, HQ.out.later hh.2⟩)) ?_; rintro e w3 ⟨rfl, hq⟩; refine ⟨_, rfl, ?_⟩; have HQ : Keep (ChgSt h W0 v us c b w3) := ⟨hq⟩; obtain ⟨ph, ⟨p0, p1, p2⟩, p3, p4, p5⟩ := hq.all; clear hq; have pha : ∀ o, (w3.alloc o).cell? ⟨h, 0, none⟩ = some v := fun o => cell_later ((Below.refl _ _).alloc (Nat.le_refl _) _) ph)
      | (refine step_fn1 (by rfl) 70 _ _ (by rfl) (.agg #[.bool c.new.there, .string c.new.text, .bool c.new.runs]) (by rfl) (fun _ => by kernel_rfl) (P2 := fun e w' => e = .returned (.agg #[.bool c.new.there, .string c.new.text, .bool c.new.runs]) ∧ ChgSt h W0 v us c b w') ((hcn _ hnw).mono (fun e w' hh => ⟨hh.1, HQ.out.later hh.2⟩)) ?_; rintro e w3 ⟨rfl, hq⟩; refine ⟨_, rfl, ?_⟩; have HQ : Keep (ChgSt h W0 v us c b w3) := ⟨hq⟩; obtain ⟨ph, ⟨p0, p1, p2⟩, p3, p4, p5⟩ := hq.all; clear hq; have pha : ∀ o, (w3.alloc o).cell? ⟨h, 0, none⟩ = some v := fun o => cell_later ((Below.refl _ _).alloc (Nat.le_refl _) _) ph)
      | (refine step_append_lies _ (by rfl) _ _ 35 (by rfl) W0.heap.size 82 i0 _ 7 80 Try.underlying35 hi hz0 hz1 hzb rfl (by decide) v us.length (ccells us) (by rfl) (by exact HQ.out.out.row.alloc _) ⟨w3.heap.size, 0, none⟩ 1 1 (chL c) (by rfl) (by rfl) (by exact news_7 w3 c _ _ rfl) (by exact one_7 _) (by omega) (by unfold maxLen; omega) (by omega) (by have := HQ.out.out.grown.size; simp; omega) (w3.heap.size + 1) (by simp) ?_; intro g2 cap2 w4 hown2 hgrow2 hat2 hlt2; have hal3 := (Below.refl w3.heap.size w3).alloc (Nat.le_refl _) (.cells #[.string c.path, .bool c.old.there, .string c.old.text, .bool c.old.runs, .bool c.new.there, .string c.new.text, .bool c.new.runs] 82); have hfz := (HQ.out.out.mid hal3 hgrow2).2; have ph := (HQ.out.out.mid hal3 hgrow2).1)))
    all_goals
      have hfin := HQ.out.out.append hal3 hgrow2 hown2
      clear hal3 hgrow2 hown2 hat2 ph hfz
      go_wp2
      refine bodyPost_ret (v := .tuple #[]) ?_ rfl ⟨rfl, _, _, hfin⟩
      go_light
      simp [results, Try.results41, go_sem]
end Go.Proofs.Ytockgapdfcapnaa
