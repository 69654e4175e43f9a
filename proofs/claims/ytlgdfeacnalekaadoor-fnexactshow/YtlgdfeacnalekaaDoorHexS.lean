/-
  spec.l9Hex.
-/
import Derived.Test.YtlgdfeacnalekaaDoorFindS
import Derived.Deep.RegionLaw
import Derived.Deep.DeepCutAuto
namespace Go.Proofs.YtlgdfeacnalekaaDoor
open Go.RowKit

theorem Tryd.infoByteH : (Tryd.prog.info? 5).map (fun i => (i.zero, i.size, i.bytes)) = some (some (.int .u8 0), 1, 1) := by kernel_rfl
theorem conv_hx {w : World} {base : Nat} {v : Value} {l : List UInt8} {n : Nat} {xs : List Value} (hn : n = l.length) (hx : xs = bc l) (h : w.ownsRow base 5 1 v n xs) : (convert 70 9 v).run Tryd.prog w = .ok (.string (lnB l)) w := by
  subst hn hx
  rcases h.2 with ⟨hv, h0⟩ | ⟨g, cap, cur, hv, _⟩
  · obtain rfl : l = [] := List.eq_nil_of_length_eq_zero h0
    subst hv
    exact run_convert_bytes_nil (P := Tryd.prog) w 70 5 Tryd.underlying70 Tryd.underlying5 0 0 9 Tryd.underlying9
  · subst hv
    exact run_convert_bytes_back (P := Tryd.prog) w 70 9 5 ⟨g, 0, none⟩ cap l Tryd.underlying70 Tryd.underlying5 Tryd.underlying9 (fun j hj => by
      rw [Go.WideShapes.add_plain, Nat.zero_add, h.cellAt j (by omega)]
      simp [bc, hj])
theorem bc_app (l r : List UInt8) : bc (l ++ r) = bc l ++ bc r := by simp [bc]

set_option maxRecDepth 20000 in
set_option maxHeartbeats 2000000 in
theorem l9Hex_any (s : ByteArray) (w : World) (hs : s.size ≤ 1048576) :
    Calls Tryd.prog 17 #[.string s] w fun e w' => e = .returned (.string (lnB (hexL s.data.toList))) ∧ Below w.heap.size w w' := by
  obtain ⟨i0, hi, hz0, hz1, hz2⟩ := info_parts Tryd.infoByteH
  have hown0 : (w.alloc (.cells #[] 5)).ownsRow w.heap.size 5 1 (.slice (some ⟨w.heap.size, 0, none⟩) 0 0) 0 (bc []) := ⟨by simp [bc], .inr ⟨w.heap.size, 0, #[], rfl, Nat.le_refl _, heap_alloc_new w _, Nat.le_refl _, by unfold maxLen; omega, rfl, by simp [bc]⟩⟩
  have hb0 := belowS_one w (.cells #[] 5)
  go_enter Tryd.func17, Tryd.ntmps17
  go_wp2
  go_loopw [4, 5] (fun v i wr => ∃ (k : Nat), k ≤ s.size ∧ i = .int .i64 k ∧ wr.ownsRow w.heap.size 5 1 v (2 * k) (bc (hexL (s.data.toList.take k))) ∧ Below w.heap.size w wr) (fun _ i _ => s.size - (intOf i).toNat)
  case atStart => exact ⟨0, Nat.zero_le _, rfl, hown0, hb0⟩
  case round =>
    obtain ⟨k, hk, rfl, hrow, hb⟩ := hrel
    by_cases hlt : k < s.size
    · have hbd : s[k].toNat < 256 := s[k].toNat_lt
      obtain ⟨q, hq⟩ : ∃ q, q = s[k].toNat / 16 := ⟨_, rfl⟩
      obtain ⟨r, hr⟩ : ∃ r, r = s[k].toNat % 16 := ⟨_, rfl⟩
      have hqw : IntKind.u8.wrap ((s[k].toNat : Int) / 16) = (q : Int) := by simp [IntKind.wrap, IntKind.bits, IntKind.signed]; omega
      have hrw : ((s[k].toNat : Int)).tmod 16 = (r : Int) := by rw [Int.tmod_eq_emod_of_nonneg (by omega)]; omega
      have hq16 : q < 16 := by omega
      have hr16 : r < 16 := by omega
      have hqi : (q : Int) < 16 := by omega
      have hri : (r : Int) < 16 := by omega
      have HQ : Keep (hexL (s.data.toList.take k ++ [s[k]]) = hexL (s.data.toList.take k) ++ [hexC q, hexC r]) := ⟨by rw [hexL_snoc, hq, hr]; simp⟩
      clear hq hr
      have HS : Keep (s.data.toList.take (k + 1) = s.data.toList.take k ++ [s[k]]) := ⟨take_snoc s k hlt⟩
      have hxs := hexS_at
      obtain ⟨ad, cp, rfl⟩ := owns_slice hrow
      have hsz := hb.size
      go_upto_region 6 with fail
      go_region_law (refine step_append_lies _ rfl _ _ 70 rfl w.heap.size 5 i0 _ 1 1 Tryd.underlying70 hi hz0 hz1 hz2 rfl (by decide) (.slice ad (2 * k) cp) (2 * k) (bc (hexL (s.data.toList.take k))) rfl (by exact owns_below hrow (belowS_one wr _).drew) ⟨wr.heap.size, 0, none⟩ 2 2 [.int .u8 (hexC q).toNat, .int .u8 (hexC r).toNat] rfl rfl (by exact fun j u h => cell_two_new wr _ _ _ j u h) (by simp [Value.oneCell']) (by omega) (by unfold maxLen; omega) (by omega) (by simp; omega) (wr.heap.size + 1) (by simp) ?_; intro g3 cap3 w7 hown3 hgrow3 hat3 hlt3)
      all_goals (
        have hb7 := ((hb.alloc (o := .cells #[.int .u8 (hexC q).toNat, .int .u8 (hexC r).toNat] 5) hsz).drew).grown hgrow3 (by simp; omega) (fun j e => owns_base hrow j e)
        go_wp2
        go_roundw
        case rel => exact ⟨k + 1, by omega, by go_num, by rw [HS.out, HQ.out, bc_app, show 2 * (k + 1) = 2 * k + 2 by omega]; exact hown3, hb7⟩
        case measure => simp [intOf]; omega)
    · obtain rfl : k = s.size := by omega
      have HT : Keep (s.data.toList.take s.size = s.data.toList) := ⟨by rw [Lib.size_eq, List.take_length]⟩
      rw [HT.out] at hrow
      have hcv := conv_hx (l := hexL s.data.toList) (by rw [hexL_len, ← Lib.size_eq]) rfl hrow
      go_wp2
      go_ret
      exact ⟨rfl, hb⟩
end Go.Proofs.YtlgdfeacnalekaaDoor
