/-
  slices.IndexFunc, slices.ContainsFunc at []string, over any closure that answers.
-/
import Derived.Test.YtjienajcpjcfiafStrsB
import Derived.Test.YtjienajcpjcfiafBase
import Derived.Test.YtjienajcpjcfiafSplitP
import Derived.Shelf.Abstract
namespace Go.Proofs.Ytjienajcpjcfiaf
open Go.RowKit

theorem any_take {gs : List ByteArray} {p : ByteArray → Bool} {k : Nat} (h : k < gs.length) : (gs.take (k + 1)).any p = ((gs.take k).any p || p gs[k]) := by
  rw [List.take_succ_eq_append_getElem h, List.any_append]
  simp
theorem any_at {gs : List ByteArray} {p : ByteArray → Bool} {k : Nat} (h : k < gs.length) (hk : p gs[k] = true) : gs.any p = true := List.any_eq_true.2 ⟨_, List.getElem_mem h, hk⟩

set_option maxRecDepth 20000 in
set_option maxHeartbeats 2000000 in
theorem idxF_any (g : Nat) (lb : Array Value) (eg : ∀ args w, (callFunc g args).run Try.prog w = .ok (.enter g args) w) (p : ByteArray → Bool) (a : Option Addr) (c : Nat) (gs : List ByteArray) (w : World) (hgs : SS w a gs) (hn : gs.length ≤ 1000000)
    (hp : ∀ (W : World) x, x ∈ gs → Below w.heap.size w W → Calls Try.prog g (#[.string x] ++ lb) W fun e w' => e = .returned (.bool (p x)) ∧ Below w.heap.size w w') :
    Calls Try.prog 137 #[.slice a gs.length c, .func (.func g) #[] lb] w fun e w' => ∃ r : Int, e = .returned (.int .i64 r) ∧ decide (0 ≤ r) = gs.any p ∧ -1 ≤ r ∧ r ≤ gs.length ∧ Below w.heap.size w w' := by
  go_enter Try.func137, Try.ntmps137
  go_wp2
  go_loopw [8] (fun s8 wr => ∃ k : Nat, k ≤ gs.length ∧ s8 = .int .i64 (k : Int) ∧ Keep ((gs.take k).any p = false) ∧ Below w.heap.size w wr) (fun s8 _ => gs.length - (intOf s8).toNat)
  case atStart => exact ⟨0, Nat.zero_le _, rfl, ⟨rfl⟩, Below.refl _ _⟩
  case round =>
    obtain ⟨k, hk, rfl, HA, hB⟩ := hrel
    by_cases hlt : k < gs.length
    · have hlt' : (k : Int) < gs.length := by omega
      obtain ⟨b, off, rfl, hc⟩ := hgs.at hlt
      have y := cell_later hB (hc k hlt)
      have hcall := hp wr gs[k] (List.getElem_mem hlt) hB
      have HT := any_take (p := p) hlt
      have HA2 : p gs[k] = true → gs.any p = true := any_at hlt
      obtain ⟨x, hx⟩ : ∃ x, gs[k] = x := ⟨_, rfl⟩
      rw [hx] at y hcall HT HA2
      rw [HA.out, Bool.false_or] at HT
      clear hp hc hx
      cases hq : p x with
      | true =>
        rw [hq] at hcall
        have HA3 : Keep (gs.any p = true) := ⟨HA2 hq⟩
        clear HT HA2 hq
        go_wp2_with (go_at_fn g; refine hcall.mono ?_; rintro e w' ⟨rfl, hb'⟩)
        go_ret
        exact ⟨k, rfl, by rw [HA3.out]; simp, by omega, by omega, hb'⟩
      | false =>
        rw [hq] at hcall HT
        have HA3 : Keep ((gs.take (k + 1)).any p = false) := ⟨HT⟩
        clear HT HA2 hq
        go_wp2_with (go_at_fn g; refine hcall.mono ?_; rintro e w' ⟨rfl, hb'⟩)
        go_roundw
        case rel => exact ⟨k + 1, hlt, by go_num, HA3, hb'⟩
        case measure => simp only [intOf]; omega
    · obtain rfl : k = gs.length := by omega
      have HA3 : Keep (gs.any p = false) := ⟨by have := HA.out; rwa [List.take_length] at this⟩
      clear HA hp
      go_wp2
      go_ret
      exact ⟨-1, rfl, by rw [HA3.out]; rfl, by omega, by omega, hB⟩

set_option maxRecDepth 20000 in
set_option maxHeartbeats 2000000 in
theorem contF_any (g : Nat) (lb : Array Value) (eg : ∀ args w, (callFunc g args).run Try.prog w = .ok (.enter g args) w) (p : ByteArray → Bool) (a : Option Addr) (c : Nat) (gs : List ByteArray) (w : World) (hgs : SS w a gs) (hn : gs.length ≤ 1000000)
    (hp : ∀ (W : World) x, x ∈ gs → Below w.heap.size w W → Calls Try.prog g (#[.string x] ++ lb) W fun e w' => e = .returned (.bool (p x)) ∧ Below w.heap.size w w') :
    Calls Try.prog 117 #[.slice a gs.length c, .func (.func g) #[] lb] w fun e w' => e = .returned (.bool (gs.any p)) ∧ Below w.heap.size w w' := by
  have ci := idxF_any g lb eg p a c gs w hgs hn hp
  go_enter Try.func117, Try.ntmps117
  go_wp2_with fail
  refine ci.mono ?_
  rintro e w1 ⟨r, rfl, hr, h1, h2, hb⟩
  have HR : Keep (decide (0 ≤ r) = gs.any p) := ⟨hr⟩
  clear hr ci hp
  go_wp2
  go_ret
  exact ⟨by rw [← HR.out]; rfl, hb⟩
end Go.Proofs.Ytjienajcpjcfiaf
