/-
  Sd4, RdI2: laid as one text.
-/
import Derived.Test.YtamaioeikcjhoaaDoorSd3
import Derived.Test.YtamaioeikcjhoaaDoorRdI1
import Derived.Test.YtamaioeikcjhoaaDoorWrite
namespace Go.Proofs.YtamaioeikcjhoaaDoor
open Go.RowKit

theorem dvalue_any (b : Nat) : ∀ (f d : Nat), f + d = 13 → ValS b f (d : Int)
  | 0, d, h => dvalue_step b 0 d (by omega) h (fun h => by omega)
  | f + 1, d, h => dvalue_step b (f + 1) d (by omega) h (fun _ => by
    have ih := dvalue_any b f (d + 1) (by omega)
    rw [show ((d + 1 : Nat) : Int) = (d : Int) + 1 by omega] at ih
    exact ih)
end Go.Proofs.YtamaioeikcjhoaaDoor

namespace Go.Proofs.YtamaioeikcjhoaaDoor
open Go.RowKit

theorem and_one (u : Nat) (h : u < 18446744073709551616) : bits .and .u64 (u : Int) 1 = ((u % 2 : Nat) : Int) := by
  have := u64_and_nat u 1 h (by omega)
  rw [show ((1 : Nat) : Int) = 1 from rfl] at this
  rw [this, Nat.and_one_is_mod]
set_option maxRecDepth 20000 in
set_option maxHeartbeats 1000000 in
theorem signed_any (u : Nat) (hu : u < 18446744073709551616) (w : World) :
    Calls Tryd.prog 64 #[.int .u64 u] w fun e w' => e = .returned (.int .i64 (zag u)) ∧ w = w' := by
  have h1 := and_one u hu
  go_enter Tryd.func64, Tryd.ntmps64
  by_cases h : u % 2 = 1
  · have h2 : bits .and .u64 (u : Int) 1 = 1 := by rw [h1, h]; rfl
    have h3 : bits .xor .u64 IntKind.u64.max ((u : Int) / 2) = 18446744073709551615 - (u : Int) / 2 := by
      have hx := u64_xor_nat 18446744073709551615 (u / 2) (by omega) (by omega)
      rw [not_nat (u / 2) (by omega)] at hx
      rw [show IntKind.u64.max = ((18446744073709551615 : Nat) : Int) from rfl, show (u : Int) / 2 = ((u / 2 : Nat) : Int) by omega, hx]
      omega
    have h4 : wrap64 (18446744073709551615 - (u : Int) / 2) = zag u := by
      unfold wrap64 zag
      rw [if_pos h]
      omega
    clear h1
    go_wp2
    go_ret
    exact ⟨by rw [← h4]; rfl, rfl⟩
  · have h2 : bits .and .u64 (u : Int) 1 = 0 := by rw [h1, show u % 2 = 0 by omega]; rfl
    have h4 : (u : Int) / 2 = zag u := by
      unfold zag
      rw [if_neg h]
      omega
    clear h1
    go_wp2
    go_ret
    exact ⟨by rw [← h4]; rfl, rfl⟩

def shM : Nat → Nat
  | 0 => 1
  | 1 => 128
  | 2 => 16384
  | 3 => 2097152
  | 4 => 268435456
  | 5 => 34359738368
  | 6 => 4398046511104
  | 7 => 562949953421312
  | 8 => 72057594037927936
  | _ => 9223372036854775808
theorem or_add (x c s : Nat) (h1 : x < 2 ^ s) (h2 : c * 2 ^ s + x < 18446744073709551616) : bits .or .u64 (x : Int) ((c * 2 ^ s : Nat) : Int) = ((x + c * 2 ^ s : Nat) : Int) := by
  rw [u64_or_nat x (c * 2 ^ s) (by omega) (by omega), ← Nat.shiftLeft_eq, Nat.or_comm, ← Nat.shiftLeft_add_eq_or_of_lt h1, Nat.add_comm]
theorem or_addM (x c s M : Nat) (hM : 2 ^ s = M) (h1 : x < M) (h2 : c * M + x < 18446744073709551616) : bits .or .u64 (x : Int) ((c : Int) * (M : Int)) = ((x + c * M : Nat) : Int) := by
  subst hM
  have := or_add x c s h1 h2
  rw [← this, Int.natCast_mul]
theorem or_q (x q s M x2 : Nat) (Mi : Int) (hMi : Mi = (M : Int)) (hM : 2 ^ s = M) (h1 : x < M) (B : Nat) (hq : q % 128 + 1 ≤ B) (hB : B * M ≤ 18446744073709551616) (h3 : x2 = x + q % 128 * M) : bits .or .u64 (x : Int) ((q : Int) % 128 * Mi) = (x2 : Int) := by
  have h2 : q % 128 * M + x < 18446744073709551616 := by
    have e1 := Nat.mul_le_mul_right M hq
    rw [Nat.add_mul, Nat.one_mul] at e1
    exact Nat.lt_of_lt_of_le (Nat.add_lt_add_left h1 _) (Nat.le_trans e1 hB)
  subst h3 hMi
  have h := or_addM x (q % 128) s M hM h1 h2
  rw [Int.natCast_emod] at h
  exact h
theorem or_q0 (q : Nat) : bits .or .u64 0 ((q : Int) % 128) = ((q % 128 : Nat) : Int) := by
  have h1 := or_q 0 q 0 1 (q % 128) 1 rfl rfl (by omega) 128 (by omega) (by decide) (by omega)
  rw [Int.mul_one] at h1
  exact h1
theorem sh_step (x q M y : Nat) (h : 128 ≤ q) (h2 : q < 256) : x + (q - 128 + 128 * y) * M = x + q % 128 * M + y * (128 * M) := by
  have e : q % 128 = q - 128 := by omega
  rw [e, Nat.add_mul, ← Nat.add_assoc, Nat.mul_comm 128 y, Nat.mul_assoc]
theorem bits_lowR : ∀ x : Fin 256, bits .and .u8 (x.val : Int) 127 = ((x.val % 128 : Nat) : Int) := by decide +kernel
def ShPost (b : Nat) (W : World) (l : List UInt8) (v : Value) (xs : List At) (e : Ending) (W' : World) : Prop :=
  Below b W W' ∧ ((pSh 0 l = none ∧ ∃ y, e = .returned (.tuple #[.int .u64 0, flt y])) ∨ (∃ n r, pSh 0 l = some (n, r) ∧ e = .returned (.tuple #[.int .u64 n, .nilIface]) ∧ RM b W' r v xs))

set_option maxRecDepth 20000 in
set_option maxHeartbeats 4000000 in
theorem short_any (b : Nat) (W : World) (l : List UInt8) (v : Value) (xs : List At) (h : RM b W l v xs) :
    Calls Tryd.prog 63 #[.pointer (some ⟨b, 0, none⟩)] W fun e W' => ShPost b W l v xs e W' := by
  go_enter Tryd.func63, Tryd.ntmps63
  go_wp2
  go_loopw [4, 5] (fun nv sv wr => ∃ (k x s : Nat) (lk : List UInt8), k ≤ 9 ∧ nv = .int .u64 x ∧ sv = .int .i64 s ∧ s = 7 * k ∧ x < shM k ∧ RKeep (pSh 0 l = (pSh k lk).map fun y => (x + y.1 * shM k, y.2)) ∧ RM b wr lk v xs ∧ Below b W wr) (fun _ sv _ => 70 - (intOf sv).toNat)
  case atStart => exact ⟨0, 0, 0, l, by omega, rfl, rfl, rfl, by decide, ⟨by
    cases pSh 0 l with
    | none => rfl
    | some y => simp [shM]⟩, h, Below.refl _ _⟩
  case round =>
    obtain ⟨k, x, s, lk, hk, rfl, rfl, hs, hx, HR, hM, hb⟩ := hrel
    go_wp2_with fail
    refine (oneByte_any b wr lk v xs hM).mono ?_
    rintro e w1 ⟨hb1, ⟨rfl, y, rfl⟩ | ⟨c, r, rfl, rfl, hM1⟩⟩
    · have HP : RKeep (ShPost b W l v xs (.returned (.tuple #[.int .u64 0, flt y])) w1) := ⟨hb.trans hb1, .inl ⟨by rw [HR.out]; simp [pSh], y, rfl⟩⟩
      unfold flt at HP ⊢
      go_wp2
      refine bodyPost_ret (v := .tuple #[.int .u64 0, .iface 45 (.agg #[.string y])]) ?_ rfl HP.out
      go_light
      simp [results, Tryd.results63, go_sem]
    · replace hb := hb.trans hb1
      clear hb1 hM
      have hc : c.toNat < 256 := UInt8.toNat_lt c
      have hA := bits_lowR ⟨c.toNat, hc⟩
      dsimp only at hA
      obtain ⟨q, hq⟩ : ∃ q, q = c.toNat := ⟨_, rfl⟩
      rw [← hq] at hc hA ⊢
      have HQ : RKeep (q = c.toNat) := ⟨hq⟩
      clear hq
      rcases (show k = 0 ∨ k = 1 ∨ k = 2 ∨ k = 3 ∨ k = 4 ∨ k = 5 ∨ k = 6 ∨ k = 7 ∨ k = 8 ∨ k = 9 by omega) with rfl | rfl | rfl | rfl | rfl | rfl | rfl | rfl | rfl | rfl
      · obtain rfl : s = 0 := hs
        obtain rfl : x = 0 := by have : x < 1 := hx; omega
        by_cases h128 : q < 128
        · skip
          obtain ⟨x2, hx2⟩ : ∃ x2, x2 = q := ⟨_, rfl⟩
          have ho : bits .or .u64 0 ((q : Int) % 128) = (x2 : Int) := by rw [or_q0 q, hx2, Nat.mod_eq_of_lt (by omega)]
          have HP : RKeep (ShPost b W l v xs (.returned (.tuple #[.int .u64 x2, .nilIface])) w1) := ⟨hb, .inr ⟨x2, r, by
            have eA : shM 0 = 1 := rfl
            rw [HR.out, eA]
            unfold pSh
            rw [← HQ.out, if_neg (by omega), if_neg (by omega), if_pos (by omega), hx2]
            simp, rfl, hM1⟩⟩
          have i128 : (q : Int) < 128 := by omega
          clear hx2
          go_wp2
          refine bodyPost_ret (v := .tuple #[.int .u64 x2, .nilIface]) ?_ rfl HP.out
          go_light
          simp [results, Tryd.results63, go_sem]
        · skip
          obtain ⟨x2, hx2⟩ : ∃ x2, x2 = q % 128 := ⟨_, rfl⟩
          have ho : bits .or .u64 0 ((q : Int) % 128) = (x2 : Int) := by rw [or_q0 q, hx2]
          have i128 : ¬ (q : Int) < 128 := by omega
          have eB : shM 1 = 128 * 1 := rfl
          have HN : RKeep (pSh 0 l = (pSh 1 r).map fun y => (x2 + y.1 * shM 1, y.2)) := ⟨by
            have eA : shM 0 = 1 := rfl
            rw [HR.out, eA, eB]
            conv => lhs; unfold pSh
            rw [← HQ.out, if_neg (by omega), if_neg (by omega), if_neg (by omega)]
            cases pSh 1 r with
            | none => simp only [Option.map_none]
            | some y =>
              exact congrArg (fun n => some (n, y.2)) (by rw [hx2]; exact (sh_step 0 q 1 y.1 (by omega) hc).trans (by rw [Nat.mul_one, Nat.zero_add]))⟩
          have hlt : x2 < shM 1 := by rw [eB]; omega
          clear eB hx2
          go_wp2
          go_roundw
          case rel => exact ⟨1, x2, 7, r, by omega, rfl, rfl, rfl, hlt, HN, hM1, hb⟩
          case measure => simp [intOf]
      · obtain rfl : s = 7 := hs
        have hx' : x < 128 := hx
        by_cases h0 : q = 0
        · subst h0
          have HP : RKeep (ShPost b W l v xs (.returned (.tuple #[.int .u64 0, flt ⟨#[97, 32, 110, 117, 109, 98, 101, 114, 32, 116, 104, 97, 116, 32, 105, 115, 32, 110, 111, 116, 32, 116, 104, 101, 32, 108, 101, 97, 115, 116]⟩])) w1) := ⟨hb, .inl ⟨by rw [HR.out]; unfold pSh; rw [← HQ.out]; rw [if_neg (by omega), if_pos (by omega)]; rfl, _, rfl⟩⟩
          unfold flt at HP
          go_wp2
          refine bodyPost_ret (v := .tuple #[.int .u64 0, .iface 45 (.agg #[.string ⟨#[97, 32, 110, 117, 109, 98, 101, 114, 32, 116, 104, 97, 116, 32, 105, 115, 32, 110, 111, 116, 32, 116, 104, 101, 32, 108, 101, 97, 115, 116]⟩])]) ?_ rfl HP.out
          go_light
          simp [results, Tryd.results63, go_sem]
        · have z : ((q : Int) == 0) = false := by simpa using h0
          by_cases h128 : q < 128
          · skip
            obtain ⟨x2, hx2⟩ : ∃ x2, x2 = x + q * 128 := ⟨_, rfl⟩
            have ho : bits .or .u64 (x : Int) ((q : Int) % 128 * 128) = (x2 : Int) := or_q x q 7 128 x2 128 rfl (by decide) hx' 128 (by omega) (by decide) (by rw [hx2, Nat.mod_eq_of_lt (by omega)])
            have HP : RKeep (ShPost b W l v xs (.returned (.tuple #[.int .u64 x2, .nilIface])) w1) := ⟨hb, .inr ⟨x2, r, by
              have eA : shM 1 = 128 := rfl
              rw [HR.out, eA]
              unfold pSh
              rw [← HQ.out, if_neg (by omega), if_neg (by omega), if_pos (by omega), hx2]
              simp, rfl, hM1⟩⟩
            have i128 : (q : Int) < 128 := by omega
            clear hx2
            go_wp2
            refine bodyPost_ret (v := .tuple #[.int .u64 x2, .nilIface]) ?_ rfl HP.out
            go_light
            simp [results, Tryd.results63, go_sem]
          · skip
            obtain ⟨x2, hx2⟩ : ∃ x2, x2 = x + q % 128 * 128 := ⟨_, rfl⟩
            have ho : bits .or .u64 (x : Int) ((q : Int) % 128 * 128) = (x2 : Int) := or_q x q 7 128 x2 128 rfl (by decide) hx' 128 (by omega) (by decide) hx2
            have i128 : ¬ (q : Int) < 128 := by omega
            have eB : shM 2 = 128 * 128 := rfl
            have HN : RKeep (pSh 0 l = (pSh 2 r).map fun y => (x2 + y.1 * shM 2, y.2)) := ⟨by
              have eA : shM 1 = 128 := rfl
              rw [HR.out, eA, eB]
              conv => lhs; unfold pSh
              rw [← HQ.out, if_neg (by omega), if_neg (by omega), if_neg (by omega)]
              cases pSh 2 r with
              | none => simp only [Option.map_none]
              | some y =>
                exact congrArg (fun n => some (n, y.2)) (by rw [hx2]; exact sh_step x q 128 y.1 (by omega) hc)⟩
            have hlt : x2 < shM 2 := by rw [eB]; omega
            clear eB hx2
            go_wp2
            go_roundw
            case rel => exact ⟨2, x2, 14, r, by omega, rfl, rfl, rfl, hlt, HN, hM1, hb⟩
            case measure => simp [intOf]
      · obtain rfl : s = 14 := hs
        have hx' : x < 16384 := hx
        by_cases h0 : q = 0
        · subst h0
          have HP : RKeep (ShPost b W l v xs (.returned (.tuple #[.int .u64 0, flt ⟨#[97, 32, 110, 117, 109, 98, 101, 114, 32, 116, 104, 97, 116, 32, 105, 115, 32, 110, 111, 116, 32, 116, 104, 101, 32, 108, 101, 97, 115, 116]⟩])) w1) := ⟨hb, .inl ⟨by rw [HR.out]; unfold pSh; rw [← HQ.out]; rw [if_neg (by omega), if_pos (by omega)]; rfl, _, rfl⟩⟩
          unfold flt at HP
          go_wp2
          refine bodyPost_ret (v := .tuple #[.int .u64 0, .iface 45 (.agg #[.string ⟨#[97, 32, 110, 117, 109, 98, 101, 114, 32, 116, 104, 97, 116, 32, 105, 115, 32, 110, 111, 116, 32, 116, 104, 101, 32, 108, 101, 97, 115, 116]⟩])]) ?_ rfl HP.out
          go_light
          simp [results, Tryd.results63, go_sem]
        · have z : ((q : Int) == 0) = false := by simpa using h0
          by_cases h128 : q < 128
          · skip
            obtain ⟨x2, hx2⟩ : ∃ x2, x2 = x + q * 16384 := ⟨_, rfl⟩
            have ho : bits .or .u64 (x : Int) ((q : Int) % 128 * 16384) = (x2 : Int) := or_q x q 14 16384 x2 16384 rfl (by decide) hx' 128 (by omega) (by decide) (by rw [hx2, Nat.mod_eq_of_lt (by omega)])
            have HP : RKeep (ShPost b W l v xs (.returned (.tuple #[.int .u64 x2, .nilIface])) w1) := ⟨hb, .inr ⟨x2, r, by
              have eA : shM 2 = 16384 := rfl
              rw [HR.out, eA]
              unfold pSh
              rw [← HQ.out, if_neg (by omega), if_neg (by omega), if_pos (by omega), hx2]
              simp, rfl, hM1⟩⟩
            have i128 : (q : Int) < 128 := by omega
            clear hx2
            go_wp2
            refine bodyPost_ret (v := .tuple #[.int .u64 x2, .nilIface]) ?_ rfl HP.out
            go_light
            simp [results, Tryd.results63, go_sem]
          · skip
            obtain ⟨x2, hx2⟩ : ∃ x2, x2 = x + q % 128 * 16384 := ⟨_, rfl⟩
            have ho : bits .or .u64 (x : Int) ((q : Int) % 128 * 16384) = (x2 : Int) := or_q x q 14 16384 x2 16384 rfl (by decide) hx' 128 (by omega) (by decide) hx2
            have i128 : ¬ (q : Int) < 128 := by omega
            have eB : shM 3 = 128 * 16384 := rfl
            have HN : RKeep (pSh 0 l = (pSh 3 r).map fun y => (x2 + y.1 * shM 3, y.2)) := ⟨by
              have eA : shM 2 = 16384 := rfl
              rw [HR.out, eA, eB]
              conv => lhs; unfold pSh
              rw [← HQ.out, if_neg (by omega), if_neg (by omega), if_neg (by omega)]
              cases pSh 3 r with
              | none => simp only [Option.map_none]
              | some y =>
                exact congrArg (fun n => some (n, y.2)) (by rw [hx2]; exact sh_step x q 16384 y.1 (by omega) hc)⟩
            have hlt : x2 < shM 3 := by rw [eB]; omega
            clear eB hx2
            go_wp2
            go_roundw
            case rel => exact ⟨3, x2, 21, r, by omega, rfl, rfl, rfl, hlt, HN, hM1, hb⟩
            case measure => simp [intOf]
      · obtain rfl : s = 21 := hs
        have hx' : x < 2097152 := hx
        by_cases h0 : q = 0
        · subst h0
          have HP : RKeep (ShPost b W l v xs (.returned (.tuple #[.int .u64 0, flt ⟨#[97, 32, 110, 117, 109, 98, 101, 114, 32, 116, 104, 97, 116, 32, 105, 115, 32, 110, 111, 116, 32, 116, 104, 101, 32, 108, 101, 97, 115, 116]⟩])) w1) := ⟨hb, .inl ⟨by rw [HR.out]; unfold pSh; rw [← HQ.out]; rw [if_neg (by omega), if_pos (by omega)]; rfl, _, rfl⟩⟩
          unfold flt at HP
          go_wp2
          refine bodyPost_ret (v := .tuple #[.int .u64 0, .iface 45 (.agg #[.string ⟨#[97, 32, 110, 117, 109, 98, 101, 114, 32, 116, 104, 97, 116, 32, 105, 115, 32, 110, 111, 116, 32, 116, 104, 101, 32, 108, 101, 97, 115, 116]⟩])]) ?_ rfl HP.out
          go_light
          simp [results, Tryd.results63, go_sem]
        · have z : ((q : Int) == 0) = false := by simpa using h0
          by_cases h128 : q < 128
          · skip
            obtain ⟨x2, hx2⟩ : ∃ x2, x2 = x + q * 2097152 := ⟨_, rfl⟩
            have ho : bits .or .u64 (x : Int) ((q : Int) % 128 * 2097152) = (x2 : Int) := or_q x q 21 2097152 x2 2097152 rfl (by decide) hx' 128 (by omega) (by decide) (by rw [hx2, Nat.mod_eq_of_lt (by omega)])
            have HP : RKeep (ShPost b W l v xs (.returned (.tuple #[.int .u64 x2, .nilIface])) w1) := ⟨hb, .inr ⟨x2, r, by
              have eA : shM 3 = 2097152 := rfl
              rw [HR.out, eA]
              unfold pSh
              rw [← HQ.out, if_neg (by omega), if_neg (by omega), if_pos (by omega), hx2]
              simp, rfl, hM1⟩⟩
            have i128 : (q : Int) < 128 := by omega
            clear hx2
            go_wp2
            refine bodyPost_ret (v := .tuple #[.int .u64 x2, .nilIface]) ?_ rfl HP.out
            go_light
            simp [results, Tryd.results63, go_sem]
          · skip
            obtain ⟨x2, hx2⟩ : ∃ x2, x2 = x + q % 128 * 2097152 := ⟨_, rfl⟩
            have ho : bits .or .u64 (x : Int) ((q : Int) % 128 * 2097152) = (x2 : Int) := or_q x q 21 2097152 x2 2097152 rfl (by decide) hx' 128 (by omega) (by decide) hx2
            have i128 : ¬ (q : Int) < 128 := by omega
            have eB : shM 4 = 128 * 2097152 := rfl
            have HN : RKeep (pSh 0 l = (pSh 4 r).map fun y => (x2 + y.1 * shM 4, y.2)) := ⟨by
              have eA : shM 3 = 2097152 := rfl
              rw [HR.out, eA, eB]
              conv => lhs; unfold pSh
              rw [← HQ.out, if_neg (by omega), if_neg (by omega), if_neg (by omega)]
              cases pSh 4 r with
              | none => simp only [Option.map_none]
              | some y =>
                exact congrArg (fun n => some (n, y.2)) (by rw [hx2]; exact sh_step x q 2097152 y.1 (by omega) hc)⟩
            have hlt : x2 < shM 4 := by rw [eB]; omega
            clear eB hx2
            go_wp2
            go_roundw
            case rel => exact ⟨4, x2, 28, r, by omega, rfl, rfl, rfl, hlt, HN, hM1, hb⟩
            case measure => simp [intOf]
      · obtain rfl : s = 28 := hs
        have hx' : x < 268435456 := hx
        by_cases h0 : q = 0
        · subst h0
          have HP : RKeep (ShPost b W l v xs (.returned (.tuple #[.int .u64 0, flt ⟨#[97, 32, 110, 117, 109, 98, 101, 114, 32, 116, 104, 97, 116, 32, 105, 115, 32, 110, 111, 116, 32, 116, 104, 101, 32, 108, 101, 97, 115, 116]⟩])) w1) := ⟨hb, .inl ⟨by rw [HR.out]; unfold pSh; rw [← HQ.out]; rw [if_neg (by omega), if_pos (by omega)]; rfl, _, rfl⟩⟩
          unfold flt at HP
          go_wp2
          refine bodyPost_ret (v := .tuple #[.int .u64 0, .iface 45 (.agg #[.string ⟨#[97, 32, 110, 117, 109, 98, 101, 114, 32, 116, 104, 97, 116, 32, 105, 115, 32, 110, 111, 116, 32, 116, 104, 101, 32, 108, 101, 97, 115, 116]⟩])]) ?_ rfl HP.out
          go_light
          simp [results, Tryd.results63, go_sem]
        · have z : ((q : Int) == 0) = false := by simpa using h0
          by_cases h128 : q < 128
          · skip
            obtain ⟨x2, hx2⟩ : ∃ x2, x2 = x + q * 268435456 := ⟨_, rfl⟩
            have ho : bits .or .u64 (x : Int) ((q : Int) % 128 * 268435456) = (x2 : Int) := or_q x q 28 268435456 x2 268435456 rfl (by decide) hx' 128 (by omega) (by decide) (by rw [hx2, Nat.mod_eq_of_lt (by omega)])
            have HP : RKeep (ShPost b W l v xs (.returned (.tuple #[.int .u64 x2, .nilIface])) w1) := ⟨hb, .inr ⟨x2, r, by
              have eA : shM 4 = 268435456 := rfl
              rw [HR.out, eA]
              unfold pSh
              rw [← HQ.out, if_neg (by omega), if_neg (by omega), if_pos (by omega), hx2]
              simp, rfl, hM1⟩⟩
            have i128 : (q : Int) < 128 := by omega
            clear hx2
            go_wp2
            refine bodyPost_ret (v := .tuple #[.int .u64 x2, .nilIface]) ?_ rfl HP.out
            go_light
            simp [results, Tryd.results63, go_sem]
          · skip
            obtain ⟨x2, hx2⟩ : ∃ x2, x2 = x + q % 128 * 268435456 := ⟨_, rfl⟩
            have ho : bits .or .u64 (x : Int) ((q : Int) % 128 * 268435456) = (x2 : Int) := or_q x q 28 268435456 x2 268435456 rfl (by decide) hx' 128 (by omega) (by decide) hx2
            have i128 : ¬ (q : Int) < 128 := by omega
            have eB : shM 5 = 128 * 268435456 := rfl
            have HN : RKeep (pSh 0 l = (pSh 5 r).map fun y => (x2 + y.1 * shM 5, y.2)) := ⟨by
              have eA : shM 4 = 268435456 := rfl
              rw [HR.out, eA, eB]
              conv => lhs; unfold pSh
              rw [← HQ.out, if_neg (by omega), if_neg (by omega), if_neg (by omega)]
              cases pSh 5 r with
              | none => simp only [Option.map_none]
              | some y =>
                exact congrArg (fun n => some (n, y.2)) (by rw [hx2]; exact sh_step x q 268435456 y.1 (by omega) hc)⟩
            have hlt : x2 < shM 5 := by rw [eB]; omega
            clear eB hx2
            go_wp2
            go_roundw
            case rel => exact ⟨5, x2, 35, r, by omega, rfl, rfl, rfl, hlt, HN, hM1, hb⟩
            case measure => simp [intOf]
      · obtain rfl : s = 35 := hs
        have hx' : x < 34359738368 := hx
        by_cases h0 : q = 0
        · subst h0
          have HP : RKeep (ShPost b W l v xs (.returned (.tuple #[.int .u64 0, flt ⟨#[97, 32, 110, 117, 109, 98, 101, 114, 32, 116, 104, 97, 116, 32, 105, 115, 32, 110, 111, 116, 32, 116, 104, 101, 32, 108, 101, 97, 115, 116]⟩])) w1) := ⟨hb, .inl ⟨by rw [HR.out]; unfold pSh; rw [← HQ.out]; rw [if_neg (by omega), if_pos (by omega)]; rfl, _, rfl⟩⟩
          unfold flt at HP
          go_wp2
          refine bodyPost_ret (v := .tuple #[.int .u64 0, .iface 45 (.agg #[.string ⟨#[97, 32, 110, 117, 109, 98, 101, 114, 32, 116, 104, 97, 116, 32, 105, 115, 32, 110, 111, 116, 32, 116, 104, 101, 32, 108, 101, 97, 115, 116]⟩])]) ?_ rfl HP.out
          go_light
          simp [results, Tryd.results63, go_sem]
        · have z : ((q : Int) == 0) = false := by simpa using h0
          by_cases h128 : q < 128
          · skip
            obtain ⟨x2, hx2⟩ : ∃ x2, x2 = x + q * 34359738368 := ⟨_, rfl⟩
            have ho : bits .or .u64 (x : Int) ((q : Int) % 128 * 34359738368) = (x2 : Int) := or_q x q 35 34359738368 x2 34359738368 rfl (by decide) hx' 128 (by omega) (by decide) (by rw [hx2, Nat.mod_eq_of_lt (by omega)])
            have HP : RKeep (ShPost b W l v xs (.returned (.tuple #[.int .u64 x2, .nilIface])) w1) := ⟨hb, .inr ⟨x2, r, by
              have eA : shM 5 = 34359738368 := rfl
              rw [HR.out, eA]
              unfold pSh
              rw [← HQ.out, if_neg (by omega), if_neg (by omega), if_pos (by omega), hx2]
              simp, rfl, hM1⟩⟩
            have i128 : (q : Int) < 128 := by omega
            clear hx2
            go_wp2
            refine bodyPost_ret (v := .tuple #[.int .u64 x2, .nilIface]) ?_ rfl HP.out
            go_light
            simp [results, Tryd.results63, go_sem]
          · skip
            obtain ⟨x2, hx2⟩ : ∃ x2, x2 = x + q % 128 * 34359738368 := ⟨_, rfl⟩
            have ho : bits .or .u64 (x : Int) ((q : Int) % 128 * 34359738368) = (x2 : Int) := or_q x q 35 34359738368 x2 34359738368 rfl (by decide) hx' 128 (by omega) (by decide) hx2
            have i128 : ¬ (q : Int) < 128 := by omega
            have eB : shM 6 = 128 * 34359738368 := rfl
            have HN : RKeep (pSh 0 l = (pSh 6 r).map fun y => (x2 + y.1 * shM 6, y.2)) := ⟨by
              have eA : shM 5 = 34359738368 := rfl
              rw [HR.out, eA, eB]
              conv => lhs; unfold pSh
              rw [← HQ.out, if_neg (by omega), if_neg (by omega), if_neg (by omega)]
              cases pSh 6 r with
              | none => simp only [Option.map_none]
              | some y =>
                exact congrArg (fun n => some (n, y.2)) (by rw [hx2]; exact sh_step x q 34359738368 y.1 (by omega) hc)⟩
            have hlt : x2 < shM 6 := by rw [eB]; omega
            clear eB hx2
            go_wp2
            go_roundw
            case rel => exact ⟨6, x2, 42, r, by omega, rfl, rfl, rfl, hlt, HN, hM1, hb⟩
            case measure => simp [intOf]
      · obtain rfl : s = 42 := hs
        have hx' : x < 4398046511104 := hx
        by_cases h0 : q = 0
        · subst h0
          have HP : RKeep (ShPost b W l v xs (.returned (.tuple #[.int .u64 0, flt ⟨#[97, 32, 110, 117, 109, 98, 101, 114, 32, 116, 104, 97, 116, 32, 105, 115, 32, 110, 111, 116, 32, 116, 104, 101, 32, 108, 101, 97, 115, 116]⟩])) w1) := ⟨hb, .inl ⟨by rw [HR.out]; unfold pSh; rw [← HQ.out]; rw [if_neg (by omega), if_pos (by omega)]; rfl, _, rfl⟩⟩
          unfold flt at HP
          go_wp2
          refine bodyPost_ret (v := .tuple #[.int .u64 0, .iface 45 (.agg #[.string ⟨#[97, 32, 110, 117, 109, 98, 101, 114, 32, 116, 104, 97, 116, 32, 105, 115, 32, 110, 111, 116, 32, 116, 104, 101, 32, 108, 101, 97, 115, 116]⟩])]) ?_ rfl HP.out
          go_light
          simp [results, Tryd.results63, go_sem]
        · have z : ((q : Int) == 0) = false := by simpa using h0
          by_cases h128 : q < 128
          · skip
            obtain ⟨x2, hx2⟩ : ∃ x2, x2 = x + q * 4398046511104 := ⟨_, rfl⟩
            have ho : bits .or .u64 (x : Int) ((q : Int) % 128 * 4398046511104) = (x2 : Int) := or_q x q 42 4398046511104 x2 4398046511104 rfl (by decide) hx' 128 (by omega) (by decide) (by rw [hx2, Nat.mod_eq_of_lt (by omega)])
            have HP : RKeep (ShPost b W l v xs (.returned (.tuple #[.int .u64 x2, .nilIface])) w1) := ⟨hb, .inr ⟨x2, r, by
              have eA : shM 6 = 4398046511104 := rfl
              rw [HR.out, eA]
              unfold pSh
              rw [← HQ.out, if_neg (by omega), if_neg (by omega), if_pos (by omega), hx2]
              simp, rfl, hM1⟩⟩
            have i128 : (q : Int) < 128 := by omega
            clear hx2
            go_wp2
            refine bodyPost_ret (v := .tuple #[.int .u64 x2, .nilIface]) ?_ rfl HP.out
            go_light
            simp [results, Tryd.results63, go_sem]
          · skip
            obtain ⟨x2, hx2⟩ : ∃ x2, x2 = x + q % 128 * 4398046511104 := ⟨_, rfl⟩
            have ho : bits .or .u64 (x : Int) ((q : Int) % 128 * 4398046511104) = (x2 : Int) := or_q x q 42 4398046511104 x2 4398046511104 rfl (by decide) hx' 128 (by omega) (by decide) hx2
            have i128 : ¬ (q : Int) < 128 := by omega
            have eB : shM 7 = 128 * 4398046511104 := rfl
            have HN : RKeep (pSh 0 l = (pSh 7 r).map fun y => (x2 + y.1 * shM 7, y.2)) := ⟨by
              have eA : shM 6 = 4398046511104 := rfl
              rw [HR.out, eA, eB]
              conv => lhs; unfold pSh
              rw [← HQ.out, if_neg (by omega), if_neg (by omega), if_neg (by omega)]
              cases pSh 7 r with
              | none => simp only [Option.map_none]
              | some y =>
                exact congrArg (fun n => some (n, y.2)) (by rw [hx2]; exact sh_step x q 4398046511104 y.1 (by omega) hc)⟩
            have hlt : x2 < shM 7 := by rw [eB]; omega
            clear eB hx2
            go_wp2
            go_roundw
            case rel => exact ⟨7, x2, 49, r, by omega, rfl, rfl, rfl, hlt, HN, hM1, hb⟩
            case measure => simp [intOf]
      · obtain rfl : s = 49 := hs
        have hx' : x < 562949953421312 := hx
        by_cases h0 : q = 0
        · subst h0
          have HP : RKeep (ShPost b W l v xs (.returned (.tuple #[.int .u64 0, flt ⟨#[97, 32, 110, 117, 109, 98, 101, 114, 32, 116, 104, 97, 116, 32, 105, 115, 32, 110, 111, 116, 32, 116, 104, 101, 32, 108, 101, 97, 115, 116]⟩])) w1) := ⟨hb, .inl ⟨by rw [HR.out]; unfold pSh; rw [← HQ.out]; rw [if_neg (by omega), if_pos (by omega)]; rfl, _, rfl⟩⟩
          unfold flt at HP
          go_wp2
          refine bodyPost_ret (v := .tuple #[.int .u64 0, .iface 45 (.agg #[.string ⟨#[97, 32, 110, 117, 109, 98, 101, 114, 32, 116, 104, 97, 116, 32, 105, 115, 32, 110, 111, 116, 32, 116, 104, 101, 32, 108, 101, 97, 115, 116]⟩])]) ?_ rfl HP.out
          go_light
          simp [results, Tryd.results63, go_sem]
        · have z : ((q : Int) == 0) = false := by simpa using h0
          by_cases h128 : q < 128
          · skip
            obtain ⟨x2, hx2⟩ : ∃ x2, x2 = x + q * 562949953421312 := ⟨_, rfl⟩
            have ho : bits .or .u64 (x : Int) ((q : Int) % 128 * 562949953421312) = (x2 : Int) := or_q x q 49 562949953421312 x2 562949953421312 rfl (by decide) hx' 128 (by omega) (by decide) (by rw [hx2, Nat.mod_eq_of_lt (by omega)])
            have HP : RKeep (ShPost b W l v xs (.returned (.tuple #[.int .u64 x2, .nilIface])) w1) := ⟨hb, .inr ⟨x2, r, by
              have eA : shM 7 = 562949953421312 := rfl
              rw [HR.out, eA]
              unfold pSh
              rw [← HQ.out, if_neg (by omega), if_neg (by omega), if_pos (by omega), hx2]
              simp, rfl, hM1⟩⟩
            have i128 : (q : Int) < 128 := by omega
            clear hx2
            go_wp2
            refine bodyPost_ret (v := .tuple #[.int .u64 x2, .nilIface]) ?_ rfl HP.out
            go_light
            simp [results, Tryd.results63, go_sem]
          · skip
            obtain ⟨x2, hx2⟩ : ∃ x2, x2 = x + q % 128 * 562949953421312 := ⟨_, rfl⟩
            have ho : bits .or .u64 (x : Int) ((q : Int) % 128 * 562949953421312) = (x2 : Int) := or_q x q 49 562949953421312 x2 562949953421312 rfl (by decide) hx' 128 (by omega) (by decide) hx2
            have i128 : ¬ (q : Int) < 128 := by omega
            have eB : shM 8 = 128 * 562949953421312 := rfl
            have HN : RKeep (pSh 0 l = (pSh 8 r).map fun y => (x2 + y.1 * shM 8, y.2)) := ⟨by
              have eA : shM 7 = 562949953421312 := rfl
              rw [HR.out, eA, eB]
              conv => lhs; unfold pSh
              rw [← HQ.out, if_neg (by omega), if_neg (by omega), if_neg (by omega)]
              cases pSh 8 r with
              | none => simp only [Option.map_none]
              | some y =>
                exact congrArg (fun n => some (n, y.2)) (by rw [hx2]; exact sh_step x q 562949953421312 y.1 (by omega) hc)⟩
            have hlt : x2 < shM 8 := by rw [eB]; omega
            clear eB hx2
            go_wp2
            go_roundw
            case rel => exact ⟨8, x2, 56, r, by omega, rfl, rfl, rfl, hlt, HN, hM1, hb⟩
            case measure => simp [intOf]
      · obtain rfl : s = 56 := hs
        have hx' : x < 72057594037927936 := hx
        by_cases h0 : q = 0
        · subst h0
          have HP : RKeep (ShPost b W l v xs (.returned (.tuple #[.int .u64 0, flt ⟨#[97, 32, 110, 117, 109, 98, 101, 114, 32, 116, 104, 97, 116, 32, 105, 115, 32, 110, 111, 116, 32, 116, 104, 101, 32, 108, 101, 97, 115, 116]⟩])) w1) := ⟨hb, .inl ⟨by rw [HR.out]; unfold pSh; rw [← HQ.out]; rw [if_neg (by omega), if_pos (by omega)]; rfl, _, rfl⟩⟩
          unfold flt at HP
          go_wp2
          refine bodyPost_ret (v := .tuple #[.int .u64 0, .iface 45 (.agg #[.string ⟨#[97, 32, 110, 117, 109, 98, 101, 114, 32, 116, 104, 97, 116, 32, 105, 115, 32, 110, 111, 116, 32, 116, 104, 101, 32, 108, 101, 97, 115, 116]⟩])]) ?_ rfl HP.out
          go_light
          simp [results, Tryd.results63, go_sem]
        · have z : ((q : Int) == 0) = false := by simpa using h0
          by_cases h128 : q < 128
          · skip
            obtain ⟨x2, hx2⟩ : ∃ x2, x2 = x + q * 72057594037927936 := ⟨_, rfl⟩
            have ho : bits .or .u64 (x : Int) ((q : Int) % 128 * 72057594037927936) = (x2 : Int) := or_q x q 56 72057594037927936 x2 72057594037927936 rfl (by decide) hx' 128 (by omega) (by decide) (by rw [hx2, Nat.mod_eq_of_lt (by omega)])
            have HP : RKeep (ShPost b W l v xs (.returned (.tuple #[.int .u64 x2, .nilIface])) w1) := ⟨hb, .inr ⟨x2, r, by
              have eA : shM 8 = 72057594037927936 := rfl
              rw [HR.out, eA]
              unfold pSh
              rw [← HQ.out, if_neg (by omega), if_neg (by omega), if_pos (by omega), hx2]
              simp, rfl, hM1⟩⟩
            have i128 : (q : Int) < 128 := by omega
            clear hx2
            go_wp2
            refine bodyPost_ret (v := .tuple #[.int .u64 x2, .nilIface]) ?_ rfl HP.out
            go_light
            simp [results, Tryd.results63, go_sem]
          · skip
            obtain ⟨x2, hx2⟩ : ∃ x2, x2 = x + q % 128 * 72057594037927936 := ⟨_, rfl⟩
            have ho : bits .or .u64 (x : Int) ((q : Int) % 128 * 72057594037927936) = (x2 : Int) := or_q x q 56 72057594037927936 x2 72057594037927936 rfl (by decide) hx' 128 (by omega) (by decide) hx2
            have i128 : ¬ (q : Int) < 128 := by omega
            have eB : shM 9 = 128 * 72057594037927936 := rfl
            have HN : RKeep (pSh 0 l = (pSh 9 r).map fun y => (x2 + y.1 * shM 9, y.2)) := ⟨by
              have eA : shM 8 = 72057594037927936 := rfl
              rw [HR.out, eA, eB]
              conv => lhs; unfold pSh
              rw [← HQ.out, if_neg (by omega), if_neg (by omega), if_neg (by omega)]
              cases pSh 9 r with
              | none => simp only [Option.map_none]
              | some y =>
                exact congrArg (fun n => some (n, y.2)) (by rw [hx2]; exact sh_step x q 72057594037927936 y.1 (by omega) hc)⟩
            have hlt : x2 < shM 9 := by rw [eB]; omega
            clear eB hx2
            go_wp2
            go_roundw
            case rel => exact ⟨9, x2, 63, r, by omega, rfl, rfl, rfl, hlt, HN, hM1, hb⟩
            case measure => simp [intOf]
      · obtain rfl : s = 63 := hs
        have hx' : x < 9223372036854775808 := hx
        by_cases h1 : 1 < q
        · have i1 : (1 : Int) < q := by omega
          have HP : RKeep (ShPost b W l v xs (.returned (.tuple #[.int .u64 0, flt ⟨#[97, 32, 110, 117, 109, 98, 101, 114, 32, 111, 102, 32, 109, 111, 114, 101, 32, 116, 104, 97, 110, 32, 54, 52, 32, 98, 105, 116, 115]⟩])) w1) := ⟨hb, .inl ⟨by rw [HR.out]; unfold pSh; rw [← HQ.out]; rw [if_pos ⟨rfl, h1⟩]; rfl, _, rfl⟩⟩
          unfold flt at HP
          go_wp2
          refine bodyPost_ret (v := .tuple #[.int .u64 0, .iface 45 (.agg #[.string ⟨#[97, 32, 110, 117, 109, 98, 101, 114, 32, 111, 102, 32, 109, 111, 114, 101, 32, 116, 104, 97, 110, 32, 54, 52, 32, 98, 105, 116, 115]⟩])]) ?_ rfl HP.out
          go_light
          simp [results, Tryd.results63, go_sem]
        · have i1 : ¬ (1 : Int) < q := by omega
          by_cases h0 : q = 0
          · subst h0
            have HP : RKeep (ShPost b W l v xs (.returned (.tuple #[.int .u64 0, flt ⟨#[97, 32, 110, 117, 109, 98, 101, 114, 32, 116, 104, 97, 116, 32, 105, 115, 32, 110, 111, 116, 32, 116, 104, 101, 32, 108, 101, 97, 115, 116]⟩])) w1) := ⟨hb, .inl ⟨by rw [HR.out]; unfold pSh; rw [← HQ.out]; rw [if_neg (by omega), if_pos (by omega)]; rfl, _, rfl⟩⟩
            unfold flt at HP
            go_wp2
            refine bodyPost_ret (v := .tuple #[.int .u64 0, .iface 45 (.agg #[.string ⟨#[97, 32, 110, 117, 109, 98, 101, 114, 32, 116, 104, 97, 116, 32, 105, 115, 32, 110, 111, 116, 32, 116, 104, 101, 32, 108, 101, 97, 115, 116]⟩])]) ?_ rfl HP.out
            go_light
            simp [results, Tryd.results63, go_sem]
          · have z : ((q : Int) == 0) = false := by simpa using h0
            obtain ⟨x2, hx2⟩ : ∃ x2, x2 = x + q * 9223372036854775808 := ⟨_, rfl⟩
            have ho : bits .or .u64 (x : Int) ((q : Int) % 128 * 9223372036854775808) = (x2 : Int) := or_q x q 63 9223372036854775808 x2 9223372036854775808 rfl (by decide) hx' 2 (by omega) (by decide) (by rw [hx2, Nat.mod_eq_of_lt (by omega)])
            have hwr : IntKind.u64.wrap ((q : Int) % 128 * 9223372036854775808) = (q : Int) % 128 * 9223372036854775808 := by rw [wrap_u]; omega
            have HP : RKeep (ShPost b W l v xs (.returned (.tuple #[.int .u64 x2, .nilIface])) w1) := ⟨hb, .inr ⟨x2, r, by
              have eA : shM 9 = 9223372036854775808 := rfl
              rw [HR.out, eA]
              unfold pSh
              rw [← HQ.out, if_neg (by omega), if_neg (by omega), if_pos (by omega), hx2]
              simp, rfl, hM1⟩⟩
            have i128 : (q : Int) < 128 := by omega
            clear hx2
            go_wp2
            refine bodyPost_ret (v := .tuple #[.int .u64 x2, .nilIface]) ?_ rfl HP.out
            go_light
            simp [results, Tryd.results63, go_sem]
end Go.Proofs.YtamaioeikcjhoaaDoor
