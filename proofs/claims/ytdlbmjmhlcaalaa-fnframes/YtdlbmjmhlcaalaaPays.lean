/-
  impl.arePayloads.
-/
import Derived.Test.YtdlbmjmhlcaalaaEncPlain
namespace Go.Proofs.Ytdlbmjmhlcaalaa
open Go.RowKit

set_option maxHeartbeats 1000000 in
theorem arePays_any (a : Option Addr) (cap : Nat) (ss : List ByteArray) (w : World) (hss : SS w a ss) (hn : ss.length ≤ maxLen) :
    Calls Try.prog 29 #[.slice a ss.length cap] w fun e w' => e = .returned (.bool (pays ss)) ∧ w = w' := by
  unfold maxLen at hn
  by_cases hl : 500 < ss.length
  · rw [pays_long hl]
    have hd : (500 : Int) < ss.length := by omega
    go_enter Try.func29, Try.ntmps29
    go_wp2
    go_ret
    exact ⟨rfl, rfl⟩
  · have hd : ¬ (500 : Int) < ss.length := by omega
    go_enter Try.func29, Try.ntmps29
    go_wp2
    go_loop [10] (fun i => ∃ k : Nat, k ≤ ss.length ∧ i = .int .i64 k ∧ ∀ j (hj : j < ss.length), j < k → okS ss[j] = true) (fun i => ss.length - (intOf i).toNat)
    case atStart => exact ⟨0, Nat.zero_le _, rfl, fun j _ hj => by omega⟩
    case round =>
      obtain ⟨k, hk, rfl, hall⟩ := hrel
      have HA : Hid (∀ j (hj : j < ss.length), j < k → okS ss[j] = true) := hall
      clear hall
      by_cases hlt : k < ss.length
      · obtain ⟨b, off, rfl, hc⟩ := hss.at hlt
        have hck := hc k hlt
        clear hc
        by_cases h1 : (ss[k].size : Int) < 1
        · go_wp2
          go_ret
          refine ⟨?_, rfl⟩
          rw [pays_at hlt (by simp [okS]; omega)]; rfl
        · by_cases h2 : (1000 : Int) < ss[k].size
          · go_wp2
            go_ret
            refine ⟨?_, rfl⟩
            rw [pays_at hlt (by simp [okS]; omega)]; rfl
          · go_wp2
            go_round
            case rel =>
              refine ⟨k + 1, by omega, by go_num, fun j hj hjk => ?_⟩
              by_cases hjk' : j < k
              · exact HA.out j hj hjk'
              · obtain rfl : j = k := by omega
                exact okS_iff.2 ⟨by omega, by omega⟩
            case measure => simp [intOf]; omega
      · go_wp2
        go_ret
        refine ⟨?_, rfl⟩
        rw [pays_all (by omega) fun j hj => HA.out j hj (by omega)]; rfl

end Go.Proofs.Ytdlbmjmhlcaalaa
