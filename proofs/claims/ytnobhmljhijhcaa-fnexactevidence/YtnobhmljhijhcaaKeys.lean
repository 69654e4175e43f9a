/-
  The key of impl.Clash's map: how an array of eight bytes reads as a key; one key, one sum.
-/
import Derived.Test.YtnobhmljhijhcaaSums
import Derived.Maps.OwnSet
import Derived.DeepKeys4
namespace Go.Proofs.Ytnobhmljhijhcaa
open Go.RowKit

def kbs (v : Int) (n : Nat) : List UInt8 := (List.range 8).map fun j => UInt8.ofNat (kb v n j).toNat
def keyLit (v : Int) (n : Nat) : Lit := .string (kbs v n)

theorem kb_range (v : Int) (n j : Nat) : 0 ≤ kb v n j ∧ kb v n j < 256 := by
  unfold kb; split <;> omega

theorem sum_bytes (l : List UInt8) (n : Nat) (h8 : n ≤ 8) : (sumStr l n).data.toList = (List.range n).map fun i => UInt8.ofNat (kb (fnv l) n (8 - n + i)).toNat := by
  unfold sumStr
  rw [strOfNums_data]
  unfold sumL
  rw [List.map_map]
  refine List.map_congr_left fun i hi => ?_
  have hi' : i < n := by simpa using hi
  simp only [Function.comp, kb]
  rw [if_pos (by omega), show 7 - (8 - n + i) = n - 1 - i by omega]

theorem kbs_split (v : Int) (n : Nat) (h8 : n ≤ 8) : kbs v n = List.replicate (8 - n) 0 ++ (List.range n).map fun i => UInt8.ofNat (kb v n (8 - n + i)).toNat := by
  unfold kbs
  rw [show List.range 8 = List.range ((8 - n) + n) by rw [Nat.sub_add_cancel h8], List.range_add, List.map_append, List.map_map]
  congr 1
  rw [List.eq_replicate_iff]
  refine ⟨by simp, fun b hb => ?_⟩
  obtain ⟨j, hj, rfl⟩ := List.mem_map.1 hb
  have hj' : j < 8 - n := by simpa using hj
  unfold kb
  rw [if_neg (by omega)]
  rfl

theorem keyLit_iff (l l' : List UInt8) (n : Nat) (h8 : n ≤ 8) : keyLit (fnv l) n = keyLit (fnv l') n ↔ sumStr l n = sumStr l' n := by
  unfold keyLit
  rw [Lit.string.injEq, kbs_split _ n h8, kbs_split _ n h8, List.append_cancel_left_eq, ← sum_bytes l n h8, ← sum_bytes l' n h8]
  exact ⟨fun h => WideShapes.bytes_inj h, fun h => by rw [h]⟩

theorem byte_key (x : Int) (h : 0 ≤ x ∧ x < 256) : Lit.keyBytes (.int .u8 x) = [UInt8.ofNat x.toNat] := by
  have e : (x % 2 ^ IntKind.u8.bits).toNat = x.toNat := by
    have : x % 2 ^ IntKind.u8.bits = x := by simp only [IntKind.bits]; omega
    rw [this]
  have e2 : x.toNat % 256 = x.toNat := by omega
  show bytesBE (IntKind.u8.bits / 8) (x % 2 ^ IntKind.u8.bits).toNat = _
  rw [e]
  show (bytesLE 1 x.toNat).reverse = _
  simp [bytesLE, e2]

theorem wf_u8 (x : Int) (h : 0 ≤ x ∧ x < 256) : (Lit.int .u8 x).wf = true := by
  simp [Lit.wf, IntKind.min, IntKind.max, IntKind.bits, IntKind.signed]; omega

theorem keyOf_key (x0 x1 x2 x3 x4 x5 x6 x7 : Int) (h0 : 0 ≤ x0 ∧ x0 < 256) (h1 : 0 ≤ x1 ∧ x1 < 256) (h2 : 0 ≤ x2 ∧ x2 < 256) (h3 : 0 ≤ x3 ∧ x3 < 256) (h4 : 0 ≤ x4 ∧ x4 < 256) (h5 : 0 ≤ x5 ∧ x5 < 256) (h6 : 0 ≤ x6 ∧ x6 < 256) (h7 : 0 ≤ x7 ∧ x7 < 256) :
    keyOf Try.prog 39 (.agg #[.int .u8 x0, .int .u8 x1, .int .u8 x2, .int .u8 x3, .int .u8 x4, .int .u8 x5, .int .u8 x6, .int .u8 x7]) = some (.string (([x0, x1, x2, x3, x4, x5, x6, x7]).map fun x => UInt8.ofNat x.toNat)) := by
  have ha : Try.prog.underlying 39 = some (.array 8 5) := by kernel_rfl
  have hk : Try.prog.keyType 39 = true := by kernel_rfl
  have hc : Try.prog.cellsOf 39 = 8 := by kernel_rfl
  have hc1 : Try.prog.cellsOf 5 = 1 := by kernel_rfl
  obtain ⟨m, hm⟩ : ∃ m, Try.prog.types.size = m + 1 := ⟨Try.prog.types.size - 1, by have : 0 < Try.prog.types.size := of_decide_eq_true (by kernel_rfl); omega⟩
  have one : ∀ x : Int, 0 ≤ x ∧ x < 256 → Try.prog.keyLits (m + 1) 5 [.int .u8 x] = some [.int .u8 x] := fun x hx => by
    unfold Program.keyLits; rw [Try.underlying5]; simp [wf_u8 x hx]
  unfold keyOf
  rw [ha]
  simp only [hk, Value.formed, ha, hc, Value.cells, hm]
  unfold Program.keyLits
  rw [ha]
  simp only [hc, hc1]
  simp [List.range, List.range.loop, one, h0, h1, h2, h3, h4, h5, h6, h7, keyBytes, byte_key]

theorem key_law : Maps.Keyed Try.prog 39 :=
  Maps.Keyed.of_law (deep_law_laid (by kernel_rfl) (m := 2) (by omega) (of_decide_eq_true (by kernel_rfl)) (by kernel_rfl) (by kernel_rfl))

theorem keyOf_val (l : List UInt8) (n : Nat) : keyOf Try.prog 39 (keyVal (fnv l) n) = some (keyLit (fnv l) n) :=
  keyOf_key _ _ _ _ _ _ _ _ (kb_range _ _ _) (kb_range _ _ _) (kb_range _ _ _) (kb_range _ _ _) (kb_range _ _ _) (kb_range _ _ _) (kb_range _ _ _) (kb_range _ _ _)
end Go.Proofs.Ytnobhmljhijhcaa
