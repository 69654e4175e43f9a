/-
  spec.l3Front.
-/
import Derived.Test.YtdlbmjmhlcaalaaFrontPlain
import Derived.Test.YtdlbmjmhlcaalaaSpecShort
import Derived.Deep.QuietTactic
import Derived.BigQuiet
import Derived.Deep.RegionWith
import Derived.Deep.RegionHeld3
namespace Go.Proofs.Ytdlbmjmhlcaalaa
open Go.RowKit

theorem bl_same {l : List UInt8} {y : ByteArray} (h : (⟨l.toArray⟩ : ByteArray) = y) : (l == y.toList) = true := by
  have := bs_same h
  rw [ByteArray.toList_eq ⟨l.toArray⟩] at this
  exact this
theorem bl_diff {l : List UInt8} {y : ByteArray} (h : ¬ (⟨l.toArray⟩ : ByteArray) = y) : (l == y.toList) = false := by
  have := bs_diff h
  rw [ByteArray.toList_eq ⟨l.toArray⟩] at this
  exact this

theorem wrap_in (n : Int) (h : -9223372036854775808 ≤ n ∧ n ≤ 9223372036854775807) : IntKind.i64.wrap n = n := by
  rw [IntKind.wrap_i64]; omega

def FrPost (w : World) (s : ByteArray) (n : Nat) (e : Ending) (w' : World) : Prop := e = .returned (frontV (front s n)) ∧ Below w.heap.size w w'

set_option maxRecDepth 20000 in
set_option maxHeartbeats 2000000 in
theorem l3Front_any (s : ByteArray) (n : Nat) (w : World) (hs : s.size ≤ 1099511627776) (h1 : 1 ≤ n) (h8 : n ≤ 8) :
    Calls Try.prog 32 #[.string s, .int .i64 n] w fun e w' => FrPost w s n e w' := by
  have hq0 := bt_lt s 0
  have hq1 := bt_lt s 1
  go_enter Try.func32, Try.ntmps32
  go_wp2
  go_loop [7, 8, 9] (fun m u k => (k = .int .i64 0 ∧ m = .int .i64 0 ∧ u = .int .i64 1) ∨ (k = .int .i64 1 ∧ m = .int .i64 ((bt s 0 % 128 : Nat) : Int) ∧ u = .int .i64 128 ∧ 128 ≤ bt s 0 ∧ 0 < s.size)) (fun _ _ k => 2 - (intOf k).toNat)
  case atStart => exact .inl ⟨rfl, rfl, rfl⟩
  case round =>
    rcases hrel with ⟨rfl, rfl, rfl⟩ | ⟨rfl, rfl, rfl, h128, hpos⟩
    · by_cases h0 : s.size = 0
      · have hd : (s.size : Int) ≤ 0 := by omega
        have HF : Hid (front s n = none) := front_none (by unfold hdr; rw [if_pos h0])
        go_wp2
        go_ret3
        refine ⟨?_, Below.refl _ _⟩
        rw [HF.out]; rfl
      · have hd : ¬ (s.size : Int) ≤ 0 := by omega
        have hpos : 0 < s.size := by omega
        have hB := (bt_at hpos).symm
        by_cases hb : bt s 0 < 128
        · have HH : Hid (Head s 1 (bt s 0)) := head1 s hpos hb
          have hM2 : bt s 0 ≤ 20000 := by omega
          have hb' : (bt s 0 : Int) < 128 := by omega
          have hmod : (bt s 0 : Int) % 128 = bt s 0 := by omega
          have hKs : (1 : Int) ≤ s.size := by omega
          clear hq0 hq1 hb
          generalize bt s 0 = M at HH hM2 hb' hmod hB ⊢
          go_wp2_with fail
          have HW : Hid (IntKind.u64.wrap (M : Int) = M) := by
            have : IntKind.u64.wrap (M : Int) = M := by rw [wrap_u]; omega
            exact this
          by_cases hM1 : 1 ≤ M ∧ M ≤ 1000
          · have eM : (decide ((1 : Int) ≤ (M : Int)) && decide ((M : Int) ≤ 1000)) = true := by simp; omega
            by_cases hq : (⟨(shortL M).toArray⟩ : ByteArray) = s.extract 0 1
            · have HD : Hid (hdr s = some (1, M)) := HH.out.2.2 hM1.1 hM1.2 hq
              have HQ : Hid ((⟨(shortL M).toArray⟩ : ByteArray) = s.extract 0 1) := hq
              have hqB := bl_same hq
              clear hq
              go_region_held3 (fun _ => True) (trivial) ((first | (go_at_call 25; refine (in_any _ _ _ _).mono ?_; rintro e w' ⟨rfl, rfl⟩; rw [eM]) | (go_at_call 46; (try rw [HW.out]); refine (l2Short_any M _ (by omega)).mono ?_; rintro e w1 ⟨rfl, hb1⟩)))
              by_cases hsz : s.size < 1 + M + n
              · have hd : (s.size : Int) < 1 + M + n := by omega
                have HF : Hid (front s n = none) := by
                  have : front s n = none := by rw [front_hdr HD.out]; unfold body; rw [if_pos hsz]
                  exact this
                go_wp2
                go_ret3
                refine ⟨?_, (Below.refl _ _).drew.trans hb1⟩
                rw [HF.out]; rfl
              · have hd : ¬ (s.size : Int) < 1 + M + n := by omega
                have hi1 : (0 : Int) ≤ 1 + M := by omega
                have hi2 : (1 : Int) + M ≤ s.size := by omega
                have hi3 : (1 : Int) + M + n ≤ s.size := by omega
                have hi4 : (1 : Int) + M ≤ 1 + M + n := by omega
                have hi5 : (0 : Int) ≤ 1 + M + n := by omega
                have hw1 : IntKind.i64.wrap ((1 : Int) + M) = 1 + M := wrap_in _ (by omega)
                have hw2 : IntKind.i64.wrap ((1 : Int) + M + n) = 1 + M + n := wrap_in _ (by omega)
                have ht1 : ((1 : Int) + M).toNat = 1 + M := by omega
                have ht2 : ((1 : Int) + M + n).toNat = 1 + M + n := by omega
                have hpl : (s.extract 1 (1 + M)).size ≤ maxLen := by rw [ByteArray.size_extract]; unfold maxLen; omega
                by_cases hq2 : sumStr (s.extract 1 (1 + M)).data.toList n = s.extract (1 + M) (1 + M + n)
                · have HF : Hid (front s n = some (some (s.extract 1 (1 + M), 1 + M + n))) := by
                    have : front s n = some (some (s.extract 1 (1 + M), 1 + M + n)) := by rw [front_hdr HD.out]; unfold body; rw [if_neg hsz, if_pos hq2]
                    exact this
                  have hqB2 := bs_same hq2
                  clear hq2
                  go_wp2_with fail
                  generalize s.extract 1 (1 + M) = p at HF hqB2 hpl ⊢
                  go_region_held3 (fun _ => True) (trivial) ((first | (go_at_call 27; refine (specSum_any _ n _ hpl h1 h8).mono ?_; rintro e w2 ⟨rfl, hb2⟩)))
                  go_wp2
                  go_ret3
                  refine ⟨?_, ((Below.refl _ _).drew.trans hb1).trans ((Below.refl _ _).drew.trans (hb2.mono hb1.size))⟩
                  rw [HF.out]
                  simp [frontV]
                · have HF : Hid (front s n = some none) := by
                    have : front s n = some none := by rw [front_hdr HD.out]; unfold body; rw [if_neg hsz, if_neg hq2]
                    exact this
                  have hqB2 := bs_diff hq2
                  clear hq2
                  go_wp2_with fail
                  generalize s.extract 1 (1 + M) = p at HF hqB2 hpl ⊢
                  go_region_held3 (fun _ => True) (trivial) ((first | (go_at_call 27; refine (specSum_any _ n _ hpl h1 h8).mono ?_; rintro e w2 ⟨rfl, hb2⟩)))
                  go_wp2
                  go_ret3
                  refine ⟨?_, ((Below.refl _ _).drew.trans hb1).trans ((Below.refl _ _).drew.trans (hb2.mono hb1.size))⟩
                  rw [HF.out]; rfl
            · have HF : Hid (front s n = some none) := front_zero (HH.out.2.1 hq)
              have hqB := bl_diff hq
              clear hq
              go_region_held3 (fun _ => True) (trivial) ((first | (go_at_call 25; refine (in_any _ _ _ _).mono ?_; rintro e w' ⟨rfl, rfl⟩; rw [eM]) | (go_at_call 46; (try rw [HW.out]); refine (l2Short_any M _ (by omega)).mono ?_; rintro e w1 ⟨rfl, hb1⟩)))
              go_wp2
              go_ret3
              refine ⟨?_, (Below.refl _ _).drew.trans hb1⟩
              rw [HF.out]; rfl
          · have HF : Hid (front s n = some none) := front_zero (HH.out.1 hM1)
            have eM : (decide ((1 : Int) ≤ (M : Int)) && decide ((M : Int) ≤ 1000)) = false := by simp; omega
            have hin : ∀ w, Calls Try.prog 25 #[.int .i64 M, .int .i64 1, .int .i64 1000] w fun e w' => e = .returned (.bool false) ∧ w' = w := fun w => (in_any _ _ _ w).mono (by rintro e w' ⟨rfl, rfl⟩; rw [eM]; exact ⟨rfl, rfl⟩)
            go_quiet ((first | (go_at_call 25; exact Calls.quiet_of_same (hin _))))
            go_wp2
            go_ret3
            refine ⟨?_, below_drewN (Below.refl _ _) _⟩
            rw [HF.out]; rfl
        · have hb' : ¬ (bt s 0 : Int) < 128 := by omega
          have HQ : Hid (128 ≤ bt s 0) := by
            have : 128 ≤ bt s 0 := by omega
            exact this
          have HP : Hid (0 < s.size) := hpos
          go_wp2
          go_round
          case rel => exact .inr ⟨rfl, by simp, rfl, HQ.out, HP.out⟩
          case measure => simp [intOf]
    · by_cases h0 : s.size = 1
      · have hd : (s.size : Int) ≤ 1 := by omega
        have HF : Hid (front s n = none) := front_none (by unfold hdr; rw [if_neg (by omega), if_neg (by omega), if_pos h0])
        go_wp2
        go_ret3
        refine ⟨?_, Below.refl _ _⟩
        rw [HF.out]; rfl
      · have hd : ¬ (s.size : Int) ≤ 1 := by omega
        have hpos1 : 1 < s.size := by omega
        have hB := (bt_at hpos1).symm
        by_cases hb : bt s 1 < 128
        · have HH : Hid (Head s 2 (bt s 0 % 128 + bt s 1 * 128)) := head2 s hpos1 h128 hb
          have hM2 : bt s 0 % 128 + bt s 1 * 128 ≤ 20000 := by omega
          have hb' : (bt s 1 : Int) < 128 := by omega
          have hmod : (bt s 1 : Int) % 128 = bt s 1 := by omega
          have hKs : (2 : Int) ≤ s.size := by omega
          clear hq0 hq1 hb
          go_wp2_with fail
          rw [show ((bt s 0 : Int) % 128 + (bt s 1 : Int) * 128) = ((bt s 0 % 128 + bt s 1 * 128 : Nat) : Int) by omega]
          generalize bt s 0 % 128 + bt s 1 * 128 = M at HH hM2 ⊢
          have HW : Hid (IntKind.u64.wrap (M : Int) = M) := by
            have : IntKind.u64.wrap (M : Int) = M := by rw [wrap_u]; omega
            exact this
          by_cases hM1 : 1 ≤ M ∧ M ≤ 1000
          · have eM : (decide ((1 : Int) ≤ (M : Int)) && decide ((M : Int) ≤ 1000)) = true := by simp; omega
            by_cases hq : (⟨(shortL M).toArray⟩ : ByteArray) = s.extract 0 2
            · have HD : Hid (hdr s = some (2, M)) := HH.out.2.2 hM1.1 hM1.2 hq
              have HQ : Hid ((⟨(shortL M).toArray⟩ : ByteArray) = s.extract 0 2) := hq
              have hqB := bl_same hq
              clear hq
              go_region_held3 (fun _ => True) (trivial) ((first | (go_at_call 25; refine (in_any _ _ _ _).mono ?_; rintro e w' ⟨rfl, rfl⟩; rw [eM]) | (go_at_call 46; (try rw [HW.out]); refine (l2Short_any M _ (by omega)).mono ?_; rintro e w1 ⟨rfl, hb1⟩)))
              by_cases hsz : s.size < 2 + M + n
              · have hd : (s.size : Int) < 2 + M + n := by omega
                have HF : Hid (front s n = none) := by
                  have : front s n = none := by rw [front_hdr HD.out]; unfold body; rw [if_pos hsz]
                  exact this
                go_wp2
                go_ret3
                refine ⟨?_, (Below.refl _ _).drew.trans hb1⟩
                rw [HF.out]; rfl
              · have hd : ¬ (s.size : Int) < 2 + M + n := by omega
                have hi1 : (0 : Int) ≤ 2 + M := by omega
                have hi2 : (2 : Int) + M ≤ s.size := by omega
                have hi3 : (2 : Int) + M + n ≤ s.size := by omega
                have hi4 : (2 : Int) + M ≤ 2 + M + n := by omega
                have hi5 : (0 : Int) ≤ 2 + M + n := by omega
                have hw1 : IntKind.i64.wrap ((2 : Int) + M) = 2 + M := wrap_in _ (by omega)
                have hw2 : IntKind.i64.wrap ((2 : Int) + M + n) = 2 + M + n := wrap_in _ (by omega)
                have ht1 : ((2 : Int) + M).toNat = 2 + M := by omega
                have ht2 : ((2 : Int) + M + n).toNat = 2 + M + n := by omega
                have hpl : (s.extract 2 (2 + M)).size ≤ maxLen := by rw [ByteArray.size_extract]; unfold maxLen; omega
                by_cases hq2 : sumStr (s.extract 2 (2 + M)).data.toList n = s.extract (2 + M) (2 + M + n)
                · have HF : Hid (front s n = some (some (s.extract 2 (2 + M), 2 + M + n))) := by
                    have : front s n = some (some (s.extract 2 (2 + M), 2 + M + n)) := by rw [front_hdr HD.out]; unfold body; rw [if_neg hsz, if_pos hq2]
                    exact this
                  have hqB2 := bs_same hq2
                  clear hq2
                  go_wp2_with fail
                  generalize s.extract 2 (2 + M) = p at HF hqB2 hpl ⊢
                  go_region_held3 (fun _ => True) (trivial) ((first | (go_at_call 27; refine (specSum_any _ n _ hpl h1 h8).mono ?_; rintro e w2 ⟨rfl, hb2⟩)))
                  go_wp2
                  go_ret3
                  refine ⟨?_, ((Below.refl _ _).drew.trans hb1).trans ((Below.refl _ _).drew.trans (hb2.mono hb1.size))⟩
                  rw [HF.out]
                  simp [frontV]
                · have HF : Hid (front s n = some none) := by
                    have : front s n = some none := by rw [front_hdr HD.out]; unfold body; rw [if_neg hsz, if_neg hq2]
                    exact this
                  have hqB2 := bs_diff hq2
                  clear hq2
                  go_wp2_with fail
                  generalize s.extract 2 (2 + M) = p at HF hqB2 hpl ⊢
                  go_region_held3 (fun _ => True) (trivial) ((first | (go_at_call 27; refine (specSum_any _ n _ hpl h1 h8).mono ?_; rintro e w2 ⟨rfl, hb2⟩)))
                  go_wp2
                  go_ret3
                  refine ⟨?_, ((Below.refl _ _).drew.trans hb1).trans ((Below.refl _ _).drew.trans (hb2.mono hb1.size))⟩
                  rw [HF.out]; rfl
            · have HF : Hid (front s n = some none) := front_zero (HH.out.2.1 hq)
              have hqB := bl_diff hq
              clear hq
              go_region_held3 (fun _ => True) (trivial) ((first | (go_at_call 25; refine (in_any _ _ _ _).mono ?_; rintro e w' ⟨rfl, rfl⟩; rw [eM]) | (go_at_call 46; (try rw [HW.out]); refine (l2Short_any M _ (by omega)).mono ?_; rintro e w1 ⟨rfl, hb1⟩)))
              go_wp2
              go_ret3
              refine ⟨?_, (Below.refl _ _).drew.trans hb1⟩
              rw [HF.out]; rfl
          · have HF : Hid (front s n = some none) := front_zero (HH.out.1 hM1)
            have eM : (decide ((1 : Int) ≤ (M : Int)) && decide ((M : Int) ≤ 1000)) = false := by simp; omega
            have hin : ∀ w, Calls Try.prog 25 #[.int .i64 M, .int .i64 1, .int .i64 1000] w fun e w' => e = .returned (.bool false) ∧ w' = w := fun w => (in_any _ _ _ w).mono (by rintro e w' ⟨rfl, rfl⟩; rw [eM]; exact ⟨rfl, rfl⟩)
            go_quiet ((first | (go_at_call 25; exact Calls.quiet_of_same (hin _))))
            go_wp2
            go_ret3
            refine ⟨?_, below_drewN (Below.refl _ _) _⟩
            rw [HF.out]; rfl
        · have hb' : ¬ (bt s 1 : Int) < 128 := by omega
          have HF : Hid (front s n = some none) := front_zero (m := 0) (by unfold hdr; rw [if_neg (by omega), if_neg (by omega), if_neg (by omega), if_pos (.inr (.inr (by omega)))])
          go_wp2
          go_ret3
          refine ⟨?_, Below.refl _ _⟩
          rw [HF.out]; rfl
end Go.Proofs.Ytdlbmjmhlcaalaa
