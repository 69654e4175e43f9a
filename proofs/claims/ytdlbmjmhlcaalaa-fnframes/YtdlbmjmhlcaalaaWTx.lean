/-
  laws.wTexts.
-/
import Derived.Test.YtdlbmjmhlcaalaaStrsB
import Derived.WalkKit
import Derived.WalkSpells
import Derived.Deep.QuietTactic
import Derived.BigQuiet
namespace Go.Proofs.Ytdlbmjmhlcaalaa
open Go.RowKit

def WTrue (w : World) (e : Ending) (w' : World) : Prop := e = .returned (.bool true) ∧ ∃ n, w' = w.drewN n

set_option maxRecDepth 20000 in
set_option maxHeartbeats 2000000 in
theorem wTexts_any (a b : Option Addr) (ca cb : Nat) (ss : List ByteArray) (w : World) (ha : SS w a ss) (hb : SS w b ss) (hn : ss.length ≤ 1000000) :
    Calls Try.prog 24 #[.slice a ss.length ca, .slice b ss.length cb] w fun e w' => WTrue w e w' := by
  go_enter Try.func24, Try.ntmps24
  go_wp2
  go_loopw [5] (fun i wr => ∃ (k n : Nat), i = .int .i64 k ∧ k ≤ ss.length ∧ wr = w.drewN n) (fun i _ => ss.length - (intOf i).toNat)
  case atStart => exact ⟨0, 0, rfl, Nat.zero_le _, rfl⟩
  case round =>
    obtain ⟨k, n, rfl, hk, rfl⟩ := hrel
    by_cases hlt : k < ss.length
    · have hlt' : (k : Int) < ss.length := by omega
      obtain ⟨ba, oa, rfl, hca⟩ := ha.at hlt
      obtain ⟨bb, ob, rfl, hcb⟩ := hb.at hlt
      have c1 := hca k hlt
      have c2 := hcb k hlt
      have hsame : (ss[k].toList == ss[k].toList) = true := by simp
      clear hca hcb ha hb
      go_wp2
      go_quiet (fail)
      go_wp2
      go_roundw
      case rel => exact ⟨k + 1, _, by congr 1, hlt, rfl⟩
      case measure => simp only [intOf]; omega
    · obtain rfl : k = ss.length := by omega
      go_wp2
      go_ret
      exact ⟨rfl, _, rfl⟩
end Go.Proofs.Ytdlbmjmhlcaalaa
