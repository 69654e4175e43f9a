/-
  spec's desk: short numbers.
-/
import Derived.Test.YtamaioeikcjhoaaDoorSdP
namespace Go.Proofs.YtamaioeikcjhoaaDoor
open Go.RowKit

theorem sh_m (m c v : Nat) : IntKind.u64.wrap ((m : Int) + IntKind.u64.wrap ((c : Int) % 128 * (v : Int))) = (((m + c % 128 * v) % 18446744073709551616 : Nat) : Int) := by
  have h : ((c : Int) % 128 * (v : Int)) = ((c % 128 * v : Nat) : Int) := by simp
  rw [h]
  generalize c % 128 * v = t
  rw [wrap_u, wrap_u]
  omega
theorem sh_v (v : Nat) : IntKind.u64.wrap ((v : Int) * 128) = ((v * 128 % 18446744073709551616 : Nat) : Int) := by
  rw [wrap_u]
  omega
theorem sh_pow {k : Nat} (h : k < 10) : 128 ^ k % 18446744073709551616 = 128 ^ k := by
  have : 128 ^ k ≤ 128 ^ 9 := Nat.pow_le_pow_right (by omega) (by omega)
  exact Nat.mod_eq_of_lt (by omega)
theorem DK.drewN {b : Nat} {W : World} {s : ByteArray} {p n : Nat} {bad : Bool} (h : DK b W s p n bad) (j : Nat) : DK b (W.drewN j) s p n bad :=
  h.far (row := none) ⟨rfl, rfl, rfl, Nat.le_refl _, fun _ _ _ => rfl⟩ (by simp)
theorem dk_drewN {w w1 : World} {row : Option Nat} (h : w.grownBy w1 row) (j : Nat) : w.grownBy (w1.drewN j) row := ⟨h.os, h.tape, h.output, h.size, h.block⟩

set_option maxRecDepth 20000 in
set_option maxHeartbeats 1000000 in
theorem dshort_any (b : Nat) (W : World) (s : ByteArray) (p n : Nat) (bad : Bool) (h : DK b W s p n bad) (hp : p ≤ s.size) (hs : s.size ≤ 100000) :
    Calls Tryd.prog 30 #[.pointer (some ⟨b, 0, none⟩)] W fun e W' => ShP b W s p n bad e W' := by
  go_enter Tryd.func30, Tryd.ntmps30
  go_wp2
  go_loopw [3, 4, 5] (fun a u i wr => ∃ (k m q v : Nat), k ≤ 10 ∧ i = .int .i64 k ∧ a = .int .u64 m ∧ m < 18446744073709551616 ∧ u = .int .u64 v ∧ v < 18446744073709551616 ∧ RKeep (v = 128 ^ k % 18446744073709551616) ∧ p ≤ q ∧ q ≤ s.size ∧ DK b wr s q n bad ∧ RKeep (ShI s p q k m) ∧ W.grownBy wr (some b)) (fun _ _ i _ => 10 - (intOf i).toNat)
  case atStart => exact ⟨0, 0, p, 1, by omega, rfl, rfl, by omega, rfl, by omega, ⟨rfl⟩, Nat.le_refl _, hp, h, ⟨ShI.start s p⟩, dk_refl _ _⟩
  case round =>
    clear h
    obtain ⟨k, m, q, v, hk, rfl, rfl, hm, rfl, hv, HV, hpq, hqs, h, HI, hg⟩ := hrel
    have c0 := h.c0
    have c1 := h.c1
    have c2 := h.c2
    have fz := h.fz
    have HE : k = 10 ∨ s.size ≤ q → RKeep (∀ j, ShP b W s p n bad (.returned (.int .u64 0)) ((wr.drewN j).setCell ⟨b, 2, none⟩ (.bool true))) := fun he => ⟨fun j => ⟨0, q, true, rfl, dk_trans (dk_drewN hg j) (dk_set _ _ _ _), (h.drewN j).spoil, by omega, hpq, hqs, fun _ => rfl, ⟨fun x r hx hr => absurd hr (HI.out.ends he hx)⟩⟩⟩
    by_cases hk10 : k < 10
    · have hk1 : (k : Int) < 10 := by omega
      have d1 : decide ((k : Int) < 10) = true := by simpa using hk1
      by_cases hq : q < s.size
      · clear HE
        have hq1 : (q : Int) < s.size := by omega
        have d2 : decide ((q : Int) < s.size) = true := by simpa using hq1
        obtain ⟨c, hc⟩ : ∃ c, s[q] = c := ⟨_, rfl⟩
        have hbyte : c.toNat < 256 := c.toNat_lt
        have hw := sh_m m c.toNat v
        have hw2 := sh_v v
        have hbv : v = 128 ^ k := HV.out.trans (sh_pow hk10)
        have hD : RKeep (∀ j, DK b ((wr.drewN j).setCell ⟨b, 1, none⟩ (.int .i64 ((q : Int) + 1))) s (q + 1) n bad ∧ W.grownBy ((wr.drewN j).setCell ⟨b, 1, none⟩ (.int .i64 ((q : Int) + 1))) (some b)) := ⟨fun j => ⟨by have := (h.drewN j).at (q + 1); rwa [show ((q + 1 : Nat) : Int) = (q : Int) + 1 by omega] at this, dk_trans (dk_drewN hg j) (dk_set _ _ _ _)⟩⟩
        by_cases hlow : c.toNat < 128
        · have hl1 : (c.toNat : Int) < 128 := by omega
          have HP : RKeep (∀ j, ShP b W s p n bad (.returned (.int .u64 (((m + c.toNat % 128 * v) % 18446744073709551616 : Nat) : Int))) ((wr.drewN j).setCell ⟨b, 1, none⟩ (.int .i64 ((q : Int) + 1)))) := ⟨fun j => ⟨_, q + 1, bad, rfl, (hD.out j).2, (hD.out j).1, Nat.mod_lt _ (by omega), by omega, hq, id, ⟨fun x r hx hr => by
            obtain ⟨e1, e2⟩ := HI.out.low hq (by rw [hc]; exact hlow) hx hr
            rw [hc, ← hbv] at e1
            exact ⟨by rw [← e1]; exact Nat.mod_eq_of_lt hx, e2, rfl⟩⟩⟩⟩
          clear HI HV hbv h hg hD
          go_wp2_with fail
          go_quiet (fail)
          go_wp2_with fail
          go_quiet (fail)
          go_wp2
          refine bodyPost_ret (v := .int .u64 (((m + c.toNat % 128 * v) % 18446744073709551616 : Nat) : Int)) ?_ rfl (HP.out _)
          go_light
          simp [results, Tryd.results30, go_sem]
        · have hl1 : ¬ (c.toNat : Int) < 128 := by omega
          have HN : RKeep (ShI s p (q + 1) (k + 1) ((m + c.toNat % 128 * v) % 18446744073709551616)) := ⟨HI.out.high hq (by rw [hc]; exact hlow) (by rw [hc, hbv])⟩
          have HM : RKeep (v * 128 % 18446744073709551616 = 128 ^ (k + 1) % 18446744073709551616) := ⟨by rw [hbv, Nat.pow_succ]⟩
          clear HI HV hbv h hg
          go_wp2_with fail
          go_quiet (fail)
          go_wp2_with fail
          go_quiet (fail)
          go_wp2
          go_roundw
          case rel => exact ⟨k + 1, _, q + 1, _, by omega, by go_num, by simp, Nat.mod_lt _ (by omega), by simp, Nat.mod_lt _ (by omega), HM, by omega, hq, (hD.out _).1, HN, (hD.out _).2⟩
          case measure => simp [intOf]; omega
      · have hq1 : ¬ (q : Int) < s.size := by omega
        have d2 : decide ((q : Int) < s.size) = false := by simpa using hq1
        have HP := HE (.inr (by omega))
        clear HE HI HV h hg
        go_wp2_with fail
        go_quiet (fail)
        go_wp2
        go_ret
        exact HP.out _
    · have hk1 : ¬ (k : Int) < 10 := by omega
      have d1 : decide ((k : Int) < 10) = false := by simpa using hk1
      have HP := HE (.inl (by omega))
      clear HE HI HV h hg
      go_wp2_with fail
      go_quiet (fail)
      go_wp2
      go_ret
      exact HP.out _
end Go.Proofs.YtamaioeikcjhoaaDoor
