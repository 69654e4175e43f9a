/-
  impl's reader of forms: the whole of a text.
-/
import Derived.Test.YtamaioeikcjhoaaDoorRdI6
namespace Go.Proofs.YtamaioeikcjhoaaDoor
open Go.RowKit

def WhPost (b : Nat) (W : World) (l : List UInt8) (e : Ending) (W' : World) : Prop :=
  Below b W W' ∧ ((readV l = none ∧ ∃ y, e = .returned (flt y)) ∨ (∃ xs r v', readV l = some xs ∧ e = .returned .nilIface ∧ RM b W' r v' xs))

set_option maxRecDepth 20000 in
set_option maxHeartbeats 2000000 in
theorem whole_any (b : Nat) (W : World) (l : List UInt8) (v : Value) (h : RM b W l v []) (hl : l.length ≤ 1048576) :
    Calls Tryd.prog 16 #[.pointer (some ⟨b, 0, none⟩)] W fun e W' => WhPost b W l e W' := by
  have hsz := mkL_size l
  have c0 := h.c0
  have hv : ValIH b 13 0 := value_any b 13 0 rfl
  have hcall := hv W l v [] h (Nat.zero_le _) hl
  clear hv
  go_enter Tryd.func16, Tryd.ntmps16
  by_cases hz : l.length ≤ 100000
  · have hz1 : ¬ (100000 : Int) < (mkL l).size := by rw [hsz]; omega
    have HR : RKeep ((pVal 13 300 l = none → readV l = none) ∧ (∀ ys, pVal 13 300 l = some (ys, []) → readV l = some ys) ∧ (∀ ys c r, pVal 13 300 l = some (ys, c :: r) → readV l = none)) := ⟨by unfold readV; rw [if_pos hz]; exact ⟨fun h => by rw [h], fun ys h => by rw [h], fun ys c r h => by rw [h]⟩⟩
    clear hsz hz
    go_wp2_with fail
    refine hcall.mono ?_
    rintro e w1 ⟨hb1, ⟨hp, y, rfl⟩ | ⟨ys, r, v1, hp, rfl, hM1⟩⟩
    · have HP : RKeep (WhPost b W l (.returned (flt y)) w1) := ⟨hb1, .inl ⟨HR.out.1 hp, y, rfl⟩⟩
      clear hp hcall c0
      unfold flt at HP ⊢
      go_wp2
      refine bodyPost_ret (v := .iface 45 (.agg #[.string y])) ?_ rfl HP.out
      go_light
      simp [results, Tryd.results16, go_sem]
    · have hp : pVal 13 300 l = some (ys, r) := hp
      have hM1 : RM b w1 r v1 ys := hM1
      have d0 := hM1.c0
      clear hcall c0
      cases r with
      | nil =>
        have hq : ((mkL []).toList == []) = true := by rw [mkL_toList]; rfl
        have HP : RKeep (WhPost b W l (.returned .nilIface) w1) := ⟨hb1, .inr ⟨ys, [], v1, HR.out.2.1 _ hp, rfl, hM1⟩⟩
        clear hp
        generalize mkL [] = em at *
        go_wp2
        refine bodyPost_ret (v := .nilIface) ?_ rfl HP.out
        go_light
        simp [results, Tryd.results16, go_sem]
      | cons c r =>
        have hq : ((mkL (c :: r)).toList == []) = false := by rw [mkL_toList]; rfl
        have HP : RKeep (WhPost b W l (.returned (flt ⟨#[98, 121, 116, 101, 115, 32, 98, 101, 104, 105, 110, 100, 32, 105, 116, 115, 32, 101, 110, 100]⟩)) w1) := ⟨hb1, .inl ⟨HR.out.2.2 _ _ _ hp, _, rfl⟩⟩
        clear hp hM1
        unfold flt at HP
        generalize mkL (c :: r) = em at *
        go_wp2
        refine bodyPost_ret (v := .iface 45 (.agg #[.string ⟨#[98, 121, 116, 101, 115, 32, 98, 101, 104, 105, 110, 100, 32, 105, 116, 115, 32, 101, 110, 100]⟩])) ?_ rfl HP.out
        go_light
        simp [results, Tryd.results16, go_sem]
  · have hz1 : (100000 : Int) < (mkL l).size := by rw [hsz]; omega
    have HP : RKeep (WhPost b W l (.returned (flt ⟨#[116, 111, 111, 32, 109, 97, 110, 121, 32, 98, 121, 116, 101, 115]⟩)) W) := ⟨Below.refl _ _, .inl ⟨by unfold readV; rw [if_neg hz], _, rfl⟩⟩
    unfold flt at HP
    clear hcall hsz hz
    go_wp2
    refine bodyPost_ret (v := .iface 45 (.agg #[.string ⟨#[116, 111, 111, 32, 109, 97, 110, 121, 32, 98, 121, 116, 101, 115]⟩])) ?_ rfl HP.out
    go_light
    simp [results, Tryd.results16, go_sem]
end Go.Proofs.YtamaioeikcjhoaaDoor
