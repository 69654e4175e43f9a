/-
  impl.digitsOf, impl.fileDigits.
-/
import Derived.Test.YtlgdfeacnalekaaDoorHexB
import Derived.Test.YtlgdfeacnalekaaDoorSplitP
namespace Go.Proofs.YtlgdfeacnalekaaDoor
open Go.RowKit Go.Shelf

/-- The digit of a number below 16. -/
def hexC (n : Nat) : UInt8 := if n < 10 then UInt8.ofNat (48 + n) else UInt8.ofNat (87 + n)
def hexL (l : List UInt8) : List UInt8 := l.flatMap fun b => [hexC (b.toNat / 16), hexC (b.toNat % 16)]
theorem hexL_snoc (l : List UInt8) (b : UInt8) : hexL (l ++ [b]) = (hexL l ++ [hexC (b.toNat / 16)]) ++ [hexC (b.toNat % 16)] := by simp [hexL]
theorem hexL_len (l : List UInt8) : (hexL l).length = 2 * l.length := by
  induction l with
  | nil => rfl
  | cons b l ih => simp [hexL] at ih ⊢; omega

theorem hexS_at : ∀ (n : Nat) (h : n < (⟨#[48, 49, 50, 51, 52, 53, 54, 55, 56, 57, 97, 98, 99, 100, 101, 102]⟩ : ByteArray).size), (⟨#[48, 49, 50, 51, 52, 53, 54, 55, 56, 57, 97, 98, 99, 100, 101, 102]⟩ : ByteArray)[n] = hexC n := by decide

set_option maxRecDepth 20000 in
set_option maxHeartbeats 2000000 in
theorem digitsOf_any (s : ByteArray) (w : World) (hs : s.size ≤ 1048576) :
    Calls Tryd.prog 37 #[.string s] w fun e w' => e = .returned (.string (lnB (hexL s.data.toList))) ∧ Below w.heap.size w w' := by
  go_enter Tryd.func37, Tryd.ntmps37
  go_wp2
  go_loopw [7] (fun i wr => ∃ (k : Nat), k ≤ s.size ∧ i = .int .i64 k ∧ Keep (BldH w.heap.size w.heap.size (hexL (s.data.toList.take k)) wr) ∧ Below w.heap.size w wr) (fun i _ => s.size - (intOf i).toNat)
  case atStart =>
    refine ⟨0, Nat.zero_le _, rfl, ⟨?_⟩, (Below.refl _ _).alloc (Nat.le_refl _) _⟩
    refine .inl ⟨Nat.le_refl _, .slice none 0 0, ?_, ⟨rfl, .inl ⟨rfl, rfl⟩⟩, by simp [Value.ownBlock]⟩
    exact heap_alloc_new w _
  case round =>
    obtain ⟨k, hk, rfl, HB, hb⟩ := hrel
    by_cases hlt : k < s.size
    · have hw1 := writeB_any w.heap.size w.heap.size (hexL (s.data.toList.take k)) (hexC (s[k].toNat / 16)) wr HB.out (by rw [hexL_len]; simp; omega) hb.size
      have hbd : s[k].toNat < 256 := s[k].toNat_lt
      have hA : s[k].toNat / 16 % 256 = s[k].toNat / 16 := by omega
      have b1 : (0 : Int) ≤ (s[k].toNat : Int) / 16 % 256 := by omega
      have b2 : (s[k].toNat : Int) / 16 % 256 < 16 := by omega
      have HS : Keep (s.data.toList.take (k + 1) = s.data.toList.take k ++ [s[k]]) := ⟨take_snoc s k hlt⟩
      go_wp2_with fail
      rw [hexS_at]
      refine hw1.mono ?_
      rintro e w1 ⟨rfl, hB1, hb1⟩
      clear hw1
      replace hb := hb.trans hb1
      have hw2 := writeB_any w.heap.size w.heap.size _ (hexC (s[k].toNat % 16)) w1 hB1 (by rw [List.length_append, hexL_len]; simp; omega) hb.size
      have c1 : (0 : Int) ≤ (s[k].toNat : Int) % 16 % 256 := by omega
      have c2 : (s[k].toNat : Int) % 16 % 256 < 16 := by omega
      have hC : s[k].toNat % 16 % 256 = s[k].toNat % 16 := by omega
      clear hB1 HB
      go_wp2_with fail
      rw [hexS_at]
      refine hw2.mono ?_
      rintro e w2 ⟨rfl, hB2, hb2⟩
      clear hw2
      replace hb := hb.trans hb2
      go_wp2
      go_roundw
      case rel => exact ⟨k + 1, by omega, by go_num, ⟨by rw [HS.out, hexL_snoc]; exact hB2⟩, hb⟩
      case measure => simp [intOf]; omega
    · obtain rfl : k = s.size := by omega
      have hst := stringH_any w.heap.size w.heap.size _ wr HB.out hb.size
      have HT : Keep (s.data.toList.take s.size = s.data.toList) := ⟨by rw [Lib.size_eq, List.take_length]⟩
      clear HB
      go_wp2_with fail
      refine hst.mono ?_
      rintro e w1 ⟨rfl, hb1⟩
      clear hst
      go_wp2
      go_ret
      rw [HT.out]
      exact ⟨rfl, hb.trans hb1⟩
def ffB : ByteArray := ⟨#[102, 105, 108, 101, 32]⟩
theorem sumStr_size (l : List UInt8) (n : Nat) : (sumStr l n).size = n := by simp [sumStr, strOfNums, sumL_len, ByteArray.size]
theorem fileDigits_any (s : ByteArray) (wd : Nat) (w : World) (hs : s.size ≤ 1048576) (hw1 : 1 ≤ wd) (hw8 : wd ≤ 8) :
    Calls Tryd.prog 25 #[.string s, .int .i64 wd] w fun e w' => e = .returned (.string (lnB (hexL (sumStr (ffB ++ s).data.toList wd).data.toList))) ∧ Below w.heap.size w w' := by
  go_enter Tryd.func25, Tryd.ntmps25
  have hsz : (ffB ++ s).size ≤ maxLen := by
    have : ffB.size = 5 := rfl
    simp only [ByteArray.size_append, this]
    unfold maxLen
    omega
  have h1 := implSum_any (ffB ++ s) wd w hsz hw1 hw8
  go_wp2_with fail
  refine h1.mono ?_
  rintro e w1 ⟨rfl, hb1⟩
  clear h1
  have h2 := digitsOf_any (sumStr (ffB ++ s).data.toList wd) w1 (by rw [sumStr_size]; omega)
  go_wp2_with fail
  refine h2.mono ?_
  rintro e w2 ⟨rfl, hb2⟩
  clear h2
  go_wp2
  go_ret
  exact ⟨rfl, hb1.trans (hb2.mono hb1.size)⟩
end Go.Proofs.YtlgdfeacnalekaaDoor
