/-
  impl.partsOf and the function that it gives: the parts of a text, one by one.
-/
import Derived.RangeFuncNested
import Derived.RangeFuncBound
import Derived.RangeFuncCalls
import Derived.RangeFuncLeaves
import Derived.Shelf.Abstract
import Derived.Shelf.RegionOpen
import Derived.WalkKit
import Derived.OwnWalkIn
import Derived.TacticsInMore
import Derived.LoopNIn
import Derived.LoopIn
import Derived.Test.YtockgapdfcapnaaSplitP
namespace Go.Proofs.Ytockgapdfcapnaa
open Go.RowKit Go.Shelf

attribute [local go_sem] Oper.semAt_some

def itFar : Value → Value → Nat
  | .string r, .bool true => r.size + 1
  | _, _ => 0

theorem grown_drewN (w : World) (n : Nat) (row : Option Nat) : w.grownBy (w.drewN n) row := ⟨rfl, rfl, rfl, Nat.le_refl _, fun _ _ _ => rfl⟩

set_option maxRecDepth 100000 in
set_option maxHeartbeats 2000000 in
theorem partsOf1_in (n l Bs : Nat) (s : ByteArray) (hs : s.size ≤ 1099511627776) (Kp : World → World → Prop) (J Jx : List ByteArray → World → Prop) (W : World) (hJ : ∀ pre W1 k, J pre W1 → J pre (World.drewN W1 k))
    (hY : ∀ pre x W1, J pre W1 → (∃ r, partsB s = (pre ++ [x]) ++ r) → YieldAt Fence.wide (n - 1) Try.prog l #[.string x] W1 fun e W' =>
      (e = .returned (.bool true) ∧ J (pre ++ [x]) W' ∧ Kp W1 W') ∨ (e = .returned (.bool false) ∧ Jx (pre ++ [x]) W'))
    (hBs : W.cell? ⟨Bs, 0, none⟩ = some (.string s)) (h0 : J [] W) :
    CallsIn Fence.wide n Try.prog 93 #[.func (.yield l) #[] #[], .pointer (some ⟨Bs, 0, none⟩)] W fun e W' => (∃ v, e = .returned v) ∧
      ((∃ ys, ys = partsB s ∧ J ys W') ∨ (∃ pre, pre <+: partsB s ∧ Jx pre W')) := by
  refine callsIn_of_wp Try.func93 rfl trivial ?_ rfl
  simp only [Try.ntmps93, List.size_toArray, List.length_cons, List.length_nil, Nat.reduceAdd, Nat.reduceSub, Array.replicate_succ, Array.replicate_zero, List.push_toArray, List.append_toArray, List.nil_append, List.cons_append]
  gi_wp2
  gi_loopw [3, 4] (fun r m wr => ∃ (pre : List ByteArray) (rs : ByteArray) (mb : Bool), r = .string rs ∧ m = .bool mb ∧ rs.size ≤ 1099511627776 ∧ partsB s = pre ++ (if mb = true then partsB rs else []) ∧ J pre wr)
    (fun r m _ => itFar r m)
  case atStart => exact ⟨[], s, true, rfl, rfl, hs, by simp, h0⟩
  case round =>
    obtain ⟨pre, rs, mb, rfl, rfl, hrs, hp, hJs⟩ := hrel
    cases mb with
    | false =>
      gi_wp2
      go_end0
      exact ⟨⟨_, rfl⟩, .inl ⟨pre, by simp [hp], hJs⟩⟩
    | true =>
      have hcut := partsB_cut rs
      have hsz := cutRest_size rs
      have hp2 : partsB s = (pre ++ [cutHead rs]) ++ (if cutMore rs = true then partsB (cutRest rs) else []) := by
        rw [hp, hcut]; simp
      have HP : Keep (partsB s = (pre ++ [cutHead rs]) ++ (if cutMore rs = true then partsB (cutRest rs) else [])) := ⟨hp2⟩
      have HZ : Keep (((cutRest rs).size + if cutMore rs = true then 1 else 0) ≤ rs.size) := ⟨hsz⟩
      have hlen : ∃ r, partsB s = (pre ++ [cutHead rs]) ++ r := ⟨_, hp2⟩
      have hJ1 : ∀ k, J pre (wr.drewN k) := fun k => hJ pre wr k hJs
      have hY1 := fun k => hY pre (cutHead rs) (wr.drewN k) (hJ1 k) hlen
      clear hcut hsz hp hp2 hJ1 hY hlen
      gi_wp2_with (refine ⟨trivial, fun h => Bool.noConfusion h, ?_⟩; gi_at_call 94; refine (callsIn_wide.2 (cut_any rs wr hrs)).mono ?_; rintro e w1 ⟨rfl, k, rfl⟩; obtain ⟨fn, tmps, assign, body, hy, hR⟩ := hY1 k)
      refine ⟨fun h => Bool.noConfusion h, hR.mono ?_⟩
      rintro e W3 (⟨rfl, hJ3, hk3⟩ | ⟨rfl, hJx3⟩)
      · gi_wp2
        go_roundw
        case rel => exact ⟨pre ++ [cutHead rs], cutRest rs, cutMore rs, rfl, rfl, by have := HZ.out; split at this <;> omega, HP.out, hJ3⟩
        case measure =>
          have := HZ.out
          cases hm : cutMore rs with
          | true => rw [hm] at this; simp [itFar] at this ⊢; omega
          | false => simp [itFar]
      · gi_wp2
        refine bodyPost_ret (results_none rfl _ _ _) rfl ?_
        exact ⟨⟨_, rfl⟩, .inr ⟨pre ++ [cutHead rs], ⟨_, HP.out.symm⟩, hJx3⟩⟩

theorem partsOf1_stops (n Bs : Nat) (s : ByteArray) (hs : s.size ≤ 1099511627776) (Kp : World → World → Prop) (w : World) (hlt : Bs < w.heap.size) (hBs : w.cell? ⟨Bs, 0, none⟩ = some (.string s)) :
    SeqStopsK Fence.wide n Try.prog 93 #[.pointer (some ⟨Bs, 0, none⟩)] (fun x => #[.string x]) Kp (fun xs => xs = partsB s) (fun pre => pre <+: partsB s) (partsB s).length w :=
  fun l J Jx W hW hJ _ hY h0 => partsOf1_in n l Bs s hs Kp J Jx W (fun pre W1 k h => hJ pre W1 _ none h (grown_drewN W1 k none) (fun r e => by cases e)) (fun pre x W1 hj ⟨r, hr⟩ => hY pre x W1 hj (by rw [hr]; simp)) ((hW.cell (p := ⟨Bs, 0, none⟩) hlt).trans hBs) h0

set_option maxHeartbeats 400000 in
theorem partsOf_any (s : ByteArray) (w : World) :
    Calls Try.prog 89 #[.string s] w fun e w' => e = .returned (.func (.func 93) #[] #[.pointer (some ⟨w.heap.size, 0, none⟩)]) ∧ w' = w.alloc (.cells #[.string s] 9) := by
  go_enter Try.func89, Try.ntmps89
  go_wp2
  go_ret
  exact ⟨rfl, rfl⟩
end Go.Proofs.Ytockgapdfcapnaa
