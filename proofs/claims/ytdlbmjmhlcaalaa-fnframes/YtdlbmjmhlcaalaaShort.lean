/-
  impl.appendShort, impl.appendText.
-/
import Derived.Test.YtdlbmjmhlcaalaaBase
import Derived.Deep.AppendLies
import Derived.Lib.AppendStr
namespace Go.Proofs.Ytdlbmjmhlcaalaa
open Go.RowKit

theorem Try.infoByte : (Try.prog.info? 5).map (fun i => (i.zero, i.size, i.bytes)) = some (some (.int .u8 0), 1, 1) := by kernel_rfl

theorem bits_or : ∀ x : Fin 256, bits .or .u8 (x.val : Int) 128 = ((x.val % 128 + 128 : Nat) : Int) := by decide +kernel
theorem byte_or (q : Nat) : Value.int .u8 (bits .or .u8 ((q : Int) % 256) 128) = .int .u8 ((UInt8.ofNat (q % 128 + 128)).toNat : Int) := by
  have h := bits_or ⟨q % 256, Nat.mod_lt _ (by omega)⟩
  have e : ((q : Int) % 256) = ((q % 256 : Nat) : Int) := by omega
  rw [e, h]
  simp only [UInt8.toNat_ofNat']
  congr 1
  omega
theorem byte_low (q : Nat) (h : q < 128) : Value.int .u8 (q : Int) = .int .u8 ((UInt8.ofNat q).toNat : Int) := by
  congr 1
  simp only [UInt8.toNat_ofNat']
  omega
theorem grow_lies {wr w2 : World} {u : Value} {g n cap : Nat} (o : Obj) (hg : (wr.alloc o).grownBy w2 u.ownBlock) (hat : u.ownBlock = some g ∨ g = wr.heap.size + 1) : Grow wr w2 u (.slice (some ⟨g, 0, none⟩) n cap) := by
  refine Grow.alloc o ⟨hg, ?_⟩
  rcases hat with h | h
  · exact .inl (by rw [h]; rfl)
  · exact .inr ⟨g, rfl, by simp; omega⟩

def AppPost (w : World) (base : Nat) (v : Value) (n : Nat) (xs : List Value) (l : List UInt8) (e : Ending) (w' : World) : Prop :=
  ∃ v', e = .returned v' ∧ w'.ownsRow base 5 1 v' (n + l.length) (xs ++ bc l) ∧ Grow w w' v v'

set_option maxRecDepth 20000 in
set_option maxHeartbeats 1000000 in
theorem appendShort_any (v : Value) (n m base : Nat) (xs : List Value) (w : World) (hown : w.ownsRow base 5 1 v n xs) (hm : m < 18446744073709551616) (hn : n ≤ 1099511627776) (hbase : base ≤ w.heap.size) :
    Calls Try.prog 47 #[v, .int .u64 m] w fun e w' => AppPost w base v n xs (shortL m) e w' := by
  obtain ⟨i0, hi, hz0, hz1, hz2⟩ := info_parts Try.infoByte
  have HM : Hid (m < 18446744073709551616) := hm
  clear hm
  go_enter Try.func47, Try.ntmps47
  go_wp2
  go_loopw [0, 1] (fun v' m' wr => ∃ (q : Nat) (pre : List UInt8), m' = .int .u64 q ∧ q ≤ m ∧ shortL m = pre ++ shortL q ∧ wr.ownsRow base 5 1 v' (n + pre.length) (xs ++ bc pre) ∧ Grow w wr v v') (fun _ m' _ => (intOf m').toNat)
  case atStart => exact ⟨m, [], rfl, Nat.le_refl _, rfl, by simpa [bc] using hown, Grow.refl _ _⟩
  case round =>
    obtain ⟨q, pre, rfl, hq, hpre, hownr, hgr⟩ := hrel
    have hlen := shortL_le HM.out
    rw [hpre, List.length_append] at hlen
    have hsz := hgr.1.size
    have HPRE : Hid (shortL m = pre ++ shortL q) := hpre
    clear hpre
    by_cases h128 : 128 ≤ q
    · have hd : (128 : Int) ≤ (q : Int) := by omega
      go_wp2_with (at_builtin; refine wpList_append_lies _ rfl _ _ 39 rfl base 5 i0 _ 1 1 Try.underlying39 hi hz0 hz1 hz2 rfl (by decide) _ _ _ rfl (hownr.alloc _) ⟨wr.heap.size, 0, none⟩ 1 1 [.int .u8 (bits .or .u8 ((q : Int) % 256) 128)] rfl rfl (cell_one_new _ _ _) (by simp [Value.oneCell']) (by omega) (by unfold maxLen; omega) (by omega) (by simp; omega) (wr.heap.size + 1) (by simp) ?_; intro g2 cap2 w2 hown2 hgrow2 hat2 hlt2)
      go_roundw
      case rel =>
        refine ⟨q / 128, pre ++ [UInt8.ofNat (q % 128 + 128)], by go_num, by omega, ?_, ?_, hgr.trans (grow_lies _ hgrow2 hat2)⟩
        · rw [HPRE.out, shortL_big h128]; simp
        · rw [List.length_append, bc_append, ← List.append_assoc]
          rw [byte_or] at hown2
          exact hown2
      case measure => simp [intOf]; omega
    · have hd : ¬ (128 : Int) ≤ (q : Int) := by omega
      go_wp2_with (at_builtin; refine wpList_append_lies _ rfl _ _ 39 rfl base 5 i0 _ 1 1 Try.underlying39 hi hz0 hz1 hz2 rfl (by decide) _ _ _ rfl (hownr.alloc _) ⟨wr.heap.size, 0, none⟩ 1 1 [.int .u8 (q : Int)] rfl rfl (cell_one_new _ _ _) (by simp [Value.oneCell']) (by omega) (by unfold maxLen; omega) (by omega) (by simp; omega) (wr.heap.size + 1) (by simp) ?_; intro g2 cap2 w2 hown2 hgrow2 hat2 hlt2)
      go_ret
      refine ⟨_, rfl, ?_, hgr.trans (grow_lies _ hgrow2 hat2)⟩
      have e : shortL m = pre ++ [UInt8.ofNat q] := by rw [HPRE.out, shortL_small (by omega)]
      rw [e, List.length_append, bc_append, ← List.append_assoc]
      rw [byte_low q (by omega)] at hown2
      exact hown2

def TxtPost (w : World) (base : Nat) (v : Value) (n : Nat) (xs : List Value) (l : List UInt8) (e : Ending) (w' : World) : Prop :=
  ∃ v', e = .returned v' ∧ w'.ownsRow base 5 1 v' (n + l.length) (xs ++ bc l) ∧ w.grownBy w' v.ownBlock

theorem Grow.with {w w1 w2 : World} {v v1 : Value} (h1 : Grow w w1 v v1) (g2 : w1.grownBy w2 v1.ownBlock) : w.grownBy w2 v.ownBlock := (h1.trans (v2 := v1) ⟨g2, .inl rfl⟩).1

set_option maxRecDepth 20000 in
set_option maxHeartbeats 1000000 in
theorem appendText_any (v : Value) (n base : Nat) (xs : List Value) (s : ByteArray) (w : World) (hown : w.ownsRow base 5 1 v n xs) (hs : s.size ≤ 1099511627776) (hn : n ≤ 1099511627776) (hbase : base ≤ w.heap.size) :
    Calls Try.prog 30 #[v, .string s] w fun e w' => TxtPost w base v n xs (shortL s.size ++ s.data.toList) e w' := by
  obtain ⟨i0, hi, hz0, hz1, hz2⟩ := info_parts Try.infoByte
  go_enter Try.func30, Try.ntmps30
  go_wp2_with fail
  refine (appendShort_any v n s.size base xs w hown (by omega) hn hbase).mono ?_
  rintro e w1 ⟨v1, rfl, hown1, hg1⟩
  have hsz := hg1.1.size
  have hl := shortL_le (n := s.size) (by omega)
  go_wp2_with (at_builtin; refine Go.Lib.wpList_append_own_string _ rfl _ _ 39 9 rfl base 5 i0 Try.underlying39 Try.underlying9 hi hz0 hz1 hz2 _ _ _ rfl hown1 s rfl (by unfold maxLen; omega) (by omega) (by omega) ?_; intro v2 w2 hown2 hgrow2 _)
  go_ret
  refine ⟨_, rfl, ?_, hg1.with hgrow2⟩
  rw [List.length_append, bc_append, ← List.append_assoc, ← Nat.add_assoc]
  exact hown2
end Go.Proofs.Ytdlbmjmhlcaalaa
