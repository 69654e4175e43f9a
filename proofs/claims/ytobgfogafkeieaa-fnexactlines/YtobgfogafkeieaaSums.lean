/-
  The contracts of the sums' functions (spec.l1In, impl.isWidth, impl.wholeSum, impl.keyOf, impl.Sum, spec.Sum), over plain functions 'fnv', 'sumI'.
-/
import Derived.Test.YtobgfogafkeieaaRows
import Derived.WalkKit
import Derived.WalkSpells
import Derived.WalkLawsBesides
import Derived.Deep.Light
namespace Go.Proofs.Ytobgfogafkeieaa
open Go.RowKit
theorem wsame {w : World} {a : Addr} {v u : Value} (h : w.cell? a = some u) : (w.setCell a v).cell? a = some v := World.cell?_setCell_same w a v h
theorem wother {w : World} {a b : Addr} {v : Value} (h : a ≠ b) : (w.setCell a v).cell? b = w.cell? b := World.cell?_setCell_other w a b v h
def fstep (v : Int) (b : UInt8) : Int := IntKind.u64.wrap (bits .xor .u64 v (IntKind.u64.wrap ↑b.toNat) * 1099511628211)
def fnv (l : List UInt8) : Int := l.foldl fstep 14695981039346656037
theorem fnv_snoc (l : List UInt8) (b : UInt8) : fnv (l ++ [b]) = IntKind.u64.wrap (bits .xor .u64 (fnv l) (IntKind.u64.wrap ↑b.toNat) * 1099511628211) := by
  unfold fnv; rw [List.foldl_append]; rfl
theorem u64_range (n : Int) : 0 ≤ IntKind.u64.wrap n ∧ IntKind.u64.wrap n ≤ 18446744073709551615 := by
  rw [IntKind.wrap_u64]; omega
theorem fnv_range (l : List UInt8) : 0 ≤ fnv l ∧ fnv l ≤ 18446744073709551615 := by
  rcases List.eq_nil_or_concat l with rfl | ⟨l', b, rfl⟩
  · exact ⟨by decide, by decide⟩
  · rw [List.concat_eq_append, fnv_snoc]; exact u64_range _
theorem take_snoc (s : ByteArray) (k : Nat) (h : k < s.size) : s.data.toList.take (k + 1) = s.data.toList.take k ++ [s[k]] := by
  rw [List.take_succ_eq_append_getElem (by simpa using h)]; rfl
theorem ret_int {k : IntKind} {a b : Int} (h : a = b) : Ending.returned (.int k a) = .returned (.int k b) := by rw [h]

set_option maxHeartbeats 400000 in
theorem whole_any (s : ByteArray) (w : World) (hs : s.size ≤ maxLen) :
    Calls Try.prog 32 #[.string s] w fun e w' => e = .returned (.int .u64 (fnv s.data.toList)) ∧ w = w' := by
  unfold maxLen at hs
  go_enter Try.func32, Try.ntmps32
  go_wp2
  go_loop [3, 7] (fun n i => ∃ k : Nat, k ≤ s.size ∧ i = .int .i64 k ∧ n = .int .u64 (fnv (s.data.toList.take k))) (fun _ i => s.size - (intOf i).toNat)
  case atStart => exact ⟨0, Nat.zero_le _, rfl, rfl⟩
  case round =>
    obtain ⟨k, hk, rfl, rfl⟩ := hrel
    by_cases hlt : k < s.size
    · have HS : Hid (fnv (s.data.toList.take (k + 1)) = IntKind.u64.wrap (bits .xor .u64 (fnv (s.data.toList.take k)) (IntKind.u64.wrap ↑s[k].toNat) * 1099511628211)) := by
        rw [take_snoc s k hlt]; exact fnv_snoc _ _
      go_wp2
      go_round
      case rel => exact ⟨k + 1, by omega, by go_num, by rw [HS.out]⟩
      case measure => simp [intOf]; omega
    · go_wp2
      go_ret
      exact ⟨ret_int (by rw [List.take_of_length_le (by simp; omega)]), rfl⟩

set_option maxHeartbeats 400000 in
theorem in_any (n a b : Int) (w : World) :
    Calls Try.prog 20 #[.int .i64 n, .int .i64 a, .int .i64 b] w fun e w' => e = .returned (.bool (decide (a ≤ n) && decide (n ≤ b))) ∧ w = w' := by
  by_cases h1 : a ≤ n
  · by_cases h2 : n ≤ b
    · go_enter Try.func20, Try.ntmps20
      go_wp2
      go_ret
      exact ⟨by simp [h1, h2], rfl⟩
    · go_enter Try.func20, Try.ntmps20
      go_wp2
      go_ret
      exact ⟨by simp [h2], rfl⟩
  · go_enter Try.func20, Try.ntmps20
    go_wp2
    go_ret
    exact ⟨by simp; omega, rfl⟩
set_option maxHeartbeats 400000 in
theorem isw_any (n : Int) (w : World) :
    Calls Try.prog 21 #[.int .i64 n] w fun e w' => e = .returned (.bool (decide (1 ≤ n) && decide (n ≤ 8))) ∧ w = w' := by
  by_cases h1 : 1 ≤ n
  · by_cases h2 : n ≤ 8
    · go_enter Try.func21, Try.ntmps21
      go_wp2
      go_ret
      exact ⟨by simp [h1, h2], rfl⟩
    · go_enter Try.func21, Try.ntmps21
      go_wp2
      go_ret
      exact ⟨by simp [h2], rfl⟩
  · go_enter Try.func21, Try.ntmps21
    go_wp2
    go_ret
    exact ⟨by simp; omega, rfl⟩

def kb (v : Int) (n j : Nat) : Int := if 7 - j < n then v / 2 ^ (8 * (7 - j)) % 256 else 0
theorem kb_zero (v : Int) (j : Nat) : kb v 0 j = 0 := by simp [kb]
theorem kb_hit (v : Int) (k : Nat) (h : k < 8) : kb v (k + 1) (7 - k) = v / 2 ^ (8 * k) % 256 := by
  unfold kb; rw [if_pos (by omega), show 7 - (7 - k) = k by omega]
theorem kb_miss (v : Int) (k j : Nat) (h : k < 8) (hj : j < 8) (hne : j ≠ 7 - k) : kb v (k + 1) j = kb v k j := by
  unfold kb
  by_cases hc : 7 - j < k
  · rw [if_pos hc, if_pos (by omega)]
  · rw [if_neg hc, if_neg (by omega)]
def keyVal (v : Int) (n : Nat) : Value := .agg #[.int .u8 (kb v n 0), .int .u8 (kb v n 1), .int .u8 (kb v n 2), .int .u8 (kb v n 3), .int .u8 (kb v n 4), .int .u8 (kb v n 5), .int .u8 (kb v n 6), .int .u8 (kb v n 7)]

set_option maxHeartbeats 1000000 in
theorem keyOf_any (s : ByteArray) (n : Nat) (w : World) (hs : s.size ≤ maxLen) (h8 : n ≤ 8) :
    Calls Try.prog 22 #[.string s, .int .i64 n] w fun e w' => e = .returned (keyVal (fnv s.data.toList) n) ∧ Below w.heap.size w w' := by
  go_enter Try.func22, Try.ntmps22
  go_wp2_with (go_at_call 32; refine (whole_any _ _ hs).mono ?_; rintro e w' ⟨rfl, rfl⟩)
  go_loopw [11] (fun i wr => ∃ k : Nat, k ≤ n ∧ i = .int .i64 k ∧ Below w.heap.size w wr ∧ wr.heap.size = w.heap.size + 2
      ∧ (∀ j, j < 8 → wr.cell? ⟨w.heap.size + 1, j, none⟩ = some (.int .u8 (kb (fnv s.data.toList) k j)))
      ∧ (∀ j, wr.frozen? ⟨w.heap.size + 1, j, none⟩ = false)
      ∧ (∀ j, j < 8 → wr.cell? ⟨w.heap.size, j, none⟩ = some (.int .u8 0))
      ∧ (∀ j, wr.frozen? ⟨w.heap.size, j, none⟩ = false)) (fun i _ => n - (intOf i).toNat)
  case atStart =>
    refine ⟨0, Nat.zero_le _, rfl, ((Below.refl _ _).alloc (Nat.le_refl _) _).alloc (by simp) _, by simp, ?_, ?_, ?_, ?_⟩
    all_goals intro j
    all_goals simp [kb_zero]
    all_goals intro hj
    all_goals (match j, hj with | 0, _ => rfl | 1, _ => rfl | 2, _ => rfl | 3, _ => rfl | 4, _ => rfl | 5, _ => rfl | 6, _ => rfl | 7, _ => rfl)
  case round =>
    obtain ⟨k, hk, rfl, hb, hz, hc, hf, hc0, hf0⟩ := hrel
    by_cases hlt : k < n
    · have hck := hc (7 - k) (by omega)
      go_wp2
      go_roundw
      case rel =>
        refine ⟨k + 1, by omega, by go_num, hb.setCell (by simp) _, by simpa using hz, ?_, ?_, ?_, ?_⟩
        · intro j hj
          by_cases hjk : j = 7 - k
          · subst hjk
            rw [kb_hit _ _ (by omega), wsame hck]
          · rw [kb_miss _ _ _ (by omega) hj hjk, wother (by simp <;> omega)]
            exact hc j hj
        · intro j; simpa using hf j
        · intro j hj
          rw [wother (by simp)]
          exact hc0 j hj
        · intro j; simpa using hf0 j
      case measure => simp [intOf]; omega
    · obtain rfl : k = n := by omega
      clear hlt hk
      go_wp2
      refine bodyPost_ret (v := keyVal (fnv s.data.toList) k) ?_ rfl ⟨rfl, ?_⟩
      · go_light
        simp [results, Try.results22, go_sem, keyVal, hc0]
      · exact (((((((hb.setCell (by simp) _).setCell (by simp) _).setCell (by simp) _).setCell (by simp) _).setCell (by simp) _).setCell (by simp) _).setCell (by simp) _).setCell (by simp) _

def sumL (v : Int) (n : Nat) : List Int := (List.range n).map fun i => v / 2 ^ (8 * (n - 1 - i)) % 256
theorem sumL_succ (v : Int) (n : Nat) : sumL v (n + 1) = (v / 2 ^ (8 * n) % 256) :: sumL v n := by
  unfold sumL
  rw [List.range_succ_eq_map, List.map_cons, List.map_map]
  rw [show n + 1 - 1 - 0 = n by omega]
  refine congrArg (List.cons _) (List.map_congr_left fun i hi => ?_)
  simp only [Function.comp]
  rw [show n + 1 - 1 - (i + 1) = n - 1 - i by omega]
def sumStr (l : List UInt8) (n : Nat) : ByteArray := strOfNums (sumL (fnv l) n)
theorem sumL_len (v : Int) (n : Nat) : (sumL v n).length = n := by simp [sumL]
theorem sumL_get (v : Int) (n i : Nat) (h : i < n) (h8 : n ≤ 8) : (sumL v n).getD i 0 = kb v n (8 - n + i) := by
  unfold kb
  rw [if_pos (by omega), show 7 - (8 - n + i) = n - 1 - i by omega]
  simp [sumL, List.getD, h]
theorem slice_key (n : Nat) (h8 : n ≤ 8) (b : Nat) (w : World) : (Instr.sliceAt 39 (.pointer (some ⟨b, 0, none⟩)) (some (.int .i64 (8 - (n : Int)))) none none).run Try.prog w = .ok (.slice (some (if 8 = 8 - n then ⟨b, 0, none⟩ else ⟨b, 8 - n, none⟩)) n n) w := by
  have ha : Try.prog.arrayLen 39 = 8 := by kernel_rfl
  have hu : Try.prog.underlying 39 = some (.array (Try.prog.arrayLen 39) (Try.prog.elem 39)) := by kernel_rfl
  have hsz : ∀ w, ((sizeOf (Try.prog.elem 39)).run Try.prog w) = .ok 1 w := fun _ => by kernel_rfl
  rw [run_sliceAt_array_l w 39 _ hu .i64 (8 - (n : Int)) (by omega) (by rw [ha]; omega), hsz, ha]
  have e : (8 - (n : Int)).toNat = 8 - n := by omega
  have e2 : 8 - (8 - n) = n := by omega
  simp only [slicedAt, Result.andThen, e, e2, Addr.add]
  by_cases h0 : 8 = 8 - n
  · rw [if_pos h0, if_pos h0]
  · rw [if_neg h0, if_neg h0]
    by_cases h9 : n = 8
    · subst h9; simp
    · simp; omega
theorem conv_key (v : Int) (n : Nat) (h1 : 1 ≤ n) (h8 : n ≤ 8) (w : World) (b : Nat) (hc : ∀ j, j < 8 → w.cell? ⟨b, j, none⟩ = some (.int .u8 (kb v n j))) : (convert 36 9 (.slice (some ⟨b, 8 - n, none⟩) n n)).run Try.prog w = .ok (.string (strOfNums (sumL v n))) w := by
  refine run_convert_bytes_arg w 36 5 Try.underlying36 Try.underlying5 b (8 - n) n n (sumL v n) (sumL_len v n) ?_ 9 Try.underlying9
  intro i hi
  rw [sumL_get _ _ _ hi h8]
  exact hc _ (by omega)
theorem cells8 (a0 a1 a2 a3 a4 a5 a6 a7 : Value) (w : World) (t : TypeId) (f : Nat → Value) (h : [a0, a1, a2, a3, a4, a5, a6, a7] = (List.range 8).map f) (j : Nat) (hj : j < 8) : (w.alloc (.cells #[a0, a1, a2, a3, a4, a5, a6, a7] t)).cell? ⟨w.heap.size, j, none⟩ = some (f j) := by
  have e : (#[a0, a1, a2, a3, a4, a5, a6, a7] : Array Value) = ((List.range 8).map f).toArray := by rw [← h]
  rw [e]; simp; exact ⟨j, by simp [hj], rfl⟩

set_option maxHeartbeats 1000000 in
theorem implSum_any (s : ByteArray) (n : Nat) (w : World) (hs : s.size ≤ maxLen) (h1 : 1 ≤ n) (h8 : n ≤ 8) :
    Calls Try.prog 7 #[.string s, .int .i64 n] w fun e w' => e = .returned (.string (sumStr s.data.toList n)) ∧ Below w.heap.size w w' := by
  have e1 : decide (1 ≤ (n : Int)) = true := by simp; omega
  have e2 : decide ((n : Int) ≤ 8) = true := by simp; omega
  have hsl : ∀ b w, (Instr.sliceAt 39 (.pointer (some ⟨b, 0, none⟩)) (some (.int .i64 (8 - (n : Int)))) none none).run Try.prog w = .ok (.slice (some ⟨b, 8 - n, none⟩) n n) w := fun b w => by
    rw [slice_key n h8 b w, if_neg (by omega)]
  have hcv : ∀ w1 : World, (convert 36 9 (.slice (some ⟨w1.heap.size, 8 - n, none⟩) n n)).run Try.prog (w1.alloc (Obj.cells #[.int .u8 (kb (fnv s.data.toList) n 0), .int .u8 (kb (fnv s.data.toList) n 1), .int .u8 (kb (fnv s.data.toList) n 2), .int .u8 (kb (fnv s.data.toList) n 3), .int .u8 (kb (fnv s.data.toList) n 4), .int .u8 (kb (fnv s.data.toList) n 5), .int .u8 (kb (fnv s.data.toList) n 6), .int .u8 (kb (fnv s.data.toList) n 7)] 39)) = .ok (.string (sumStr s.data.toList n)) (w1.alloc (Obj.cells #[.int .u8 (kb (fnv s.data.toList) n 0), .int .u8 (kb (fnv s.data.toList) n 1), .int .u8 (kb (fnv s.data.toList) n 2), .int .u8 (kb (fnv s.data.toList) n 3), .int .u8 (kb (fnv s.data.toList) n 4), .int .u8 (kb (fnv s.data.toList) n 5), .int .u8 (kb (fnv s.data.toList) n 6), .int .u8 (kb (fnv s.data.toList) n 7)] 39)) := fun w1 =>
    conv_key _ n h1 h8 _ _ (cells8 _ _ _ _ _ _ _ _ w1 39 (fun j => .int .u8 (kb (fnv s.data.toList) n j)) rfl)
  go_enter Try.func7, Try.ntmps7
  go_wp2_with (first | (go_at_call 21; refine (isw_any _ _).mono ?_; rintro e w' ⟨rfl, rfl⟩) | (go_at_call 22; refine (keyOf_any _ _ _ hs h8).mono ?_; rintro e w1 ⟨rfl, hb⟩; unfold keyVal))
  go_ret
  exact ⟨rfl, hb.alloc hb.size _⟩

theorem conv_one (x : Int) (w : World) : (convert 36 9 (.slice (some ⟨w.heap.size, 0, none⟩) 1 1)).run Try.prog (w.alloc (.cells #[.int .u8 x] 5)) = .ok (.string (strOfNums [x])) (w.alloc (.cells #[.int .u8 x] 5)) := by
  refine run_convert_bytes_arg _ 36 5 Try.underlying36 Try.underlying5 _ 0 1 1 [x] rfl ?_ 9 Try.underlying9
  intro i hi
  obtain rfl : i = 0 := by omega
  simp
theorem div_next (F : Int) (j : Nat) : F / 2 ^ (8 * j) / 256 = F / 2 ^ (8 * (j + 1)) := by
  rw [Int.ediv_ediv_of_nonneg (Int.le_of_lt (Int.pow_pos (by omega)))]
  rw [show 8 * (j + 1) = 8 * j + 8 by omega, Int.pow_add]; rfl
theorem strOfNums_cons (x : Int) (l : List Int) : strOfNums [x] ++ strOfNums l = strOfNums (x :: l) := by
  apply ByteArray.ext
  simp [strOfNums]
theorem div_lo (F : Int) (j : Nat) (h : 0 ≤ F) : 0 ≤ F / 2 ^ (8 * j) := Int.ediv_nonneg h (Int.le_of_lt (Int.pow_pos (by omega)))
theorem div_hi (F : Int) (j : Nat) (h : 0 ≤ F) (h2 : F ≤ 18446744073709551615) : F / 2 ^ (8 * j) ≤ 18446744073709551615 :=
  Int.le_trans (Int.ediv_le_self _ h) h2

set_option maxHeartbeats 1000000 in
theorem specSum_any (s : ByteArray) (n : Nat) (w : World) (hs : s.size ≤ maxLen) (h1 : 1 ≤ n) (h8 : n ≤ 8) :
    Calls Try.prog 6 #[.string s, .int .i64 n] w fun e w' => e = .returned (.string (sumStr s.data.toList n)) ∧ Below w.heap.size w w' := by
  have e1 : decide (1 ≤ (n : Int)) = true := by simp; omega
  have e2 : decide ((n : Int) ≤ 8) = true := by simp; omega
  unfold maxLen at hs
  go_enter Try.func6, Try.ntmps6
  go_wp2_with (first | (go_at_call 20; refine (in_any _ _ _ _).mono ?_; rintro e w' ⟨rfl, rfl⟩))
  go_loop [5, 6] (fun n i => ∃ k : Nat, k ≤ s.size ∧ i = .int .i64 k ∧ n = .int .u64 (fnv (s.data.toList.take k))) (fun _ i => s.size - (intOf i).toNat)
  case atStart => exact ⟨0, Nat.zero_le _, rfl, rfl⟩
  case round =>
    obtain ⟨k, hk, rfl, rfl⟩ := hrel
    by_cases hlt : k < s.size
    · have HS : Hid (fnv (s.data.toList.take (k + 1)) = IntKind.u64.wrap (bits .xor .u64 (fnv (s.data.toList.take k)) (IntKind.u64.wrap ↑s[k].toNat) * 1099511628211)) := by
        rw [take_snoc s k hlt]; exact fnv_snoc _ _
      go_wp2
      go_round
      case rel => exact ⟨k + 1, by omega, by go_num, by rw [HS.out]⟩
      case measure => simp [intOf]; omega
    · have hr := fnv_range (s.data.toList.take k)
      go_wp2
      go_loopw [5, 7, 8] (fun v o i wr => ∃ j : Nat, j ≤ n ∧ i = .int .i64 j ∧ v = .int .u64 (fnv (s.data.toList.take k) / 2 ^ (8 * j)) ∧ o = .string (strOfNums (sumL (fnv (s.data.toList.take k)) j)) ∧ Below w.heap.size w wr) (fun _ _ i _ => n - (intOf i).toNat)
      case atStart => exact ⟨0, Nat.zero_le _, rfl, by simp, rfl, Below.refl _ _⟩
      case round =>
        obtain ⟨j, hj, rfl, rfl, rfl, hb⟩ := hrel
        generalize hF : fnv (s.data.toList.take k) = F at *
        have HF : Hid (fnv (s.data.toList.take k) = F) := hF
        clear hF
        by_cases hlt : j < n
        · have hd0 := div_lo F j hr.1
          have hd1 := div_hi F j hr.1 hr.2
          have hcv := conv_one (F / 2 ^ (8 * j) % 256)
          have hsz : ¬ 9223372036854775807 < (strOfNums [F / 2 ^ (8 * j) % 256]).size + (strOfNums (sumL F j)).size := by
            rw [strOfNums_size, strOfNums_size, sumL_len]; simp; omega
          go_wp2
          go_roundw
          case rel => exact ⟨j + 1, by omega, by go_num, by rw [div_next], by rw [strOfNums_cons, sumL_succ], hb.alloc hb.size _⟩
          case measure => simp [intOf]; omega
        · obtain rfl : j = n := by omega
          go_wp2
          go_ret
          refine ⟨?_, hb⟩
          unfold sumStr
          rw [← HF.out, List.take_of_length_le (by simp; omega)]
          rfl

def isW (n : Int) : Bool := decide (1 ≤ n) && decide (n ≤ 8)
def sumI (l : List UInt8) (n : Int) : ByteArray := if isW n then sumStr l n.toNat else ByteArray.empty

theorem isW_nat {n : Int} (h : isW n = true) : ∃ k : Nat, n = k ∧ 1 ≤ k ∧ k ≤ 8 := by
  simp only [isW, Bool.and_eq_true, decide_eq_true_eq] at h
  exact ⟨n.toNat, by omega, by omega, by omega⟩

set_option maxHeartbeats 1000000 in
theorem implSum_all (s : ByteArray) (n : Int) (w : World) (hs : s.size ≤ maxLen) :
    Calls Try.prog 7 #[.string s, .int .i64 n] w fun e w' => e = .returned (.string (sumI s.data.toList n)) ∧ Below w.heap.size w w' := by
  by_cases h : isW n = true
  · obtain ⟨k, rfl, h1, h8⟩ := isW_nat h
    have e : sumI s.data.toList k = sumStr s.data.toList k := by simp [sumI, h]
    rw [e]
    exact implSum_any s k w hs h1 h8
  · have e : sumI s.data.toList n = ByteArray.empty := by simp [sumI, h]
    rw [e]
    have e1 : (decide (1 ≤ n) && decide (n ≤ 8)) = false := by simpa [isW] using h
    clear h e
    go_enter Try.func7, Try.ntmps7
    go_wp2_with (first | (go_at_call 21; refine (isw_any _ _).mono ?_; rintro e w' ⟨rfl, rfl⟩; rw [e1]))
    go_ret
    exact ⟨rfl, Below.refl _ _⟩

set_option maxHeartbeats 1000000 in
theorem specSum_all (s : ByteArray) (n : Int) (w : World) (hs : s.size ≤ maxLen) :
    Calls Try.prog 6 #[.string s, .int .i64 n] w fun e w' => e = .returned (.string (sumI s.data.toList n)) ∧ Below w.heap.size w w' := by
  by_cases h : isW n = true
  · obtain ⟨k, rfl, h1, h8⟩ := isW_nat h
    have e : sumI s.data.toList k = sumStr s.data.toList k := by simp [sumI, h]
    rw [e]
    exact specSum_any s k w hs h1 h8
  · have e : sumI s.data.toList n = ByteArray.empty := by simp [sumI, h]
    rw [e]
    have e1 : (decide (1 ≤ n) && decide (n ≤ 8)) = false := by simpa [isW] using h
    clear h e
    go_enter Try.func6, Try.ntmps6
    go_wp2_with (first | (go_at_call 20; refine (in_any _ _ _ _).mono ?_; rintro e w' ⟨rfl, rfl⟩; rw [e1]))
    go_ret
    exact ⟨rfl, Below.refl _ _⟩
end Go.Proofs.Ytobgfogafkeieaa
