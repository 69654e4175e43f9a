/-
  laws.wTexts, laws.wDecoder: of the same.
-/
import Derived.Test.YtdlbmjmhlcaalaaFeedImpl
import Derived.Test.YtdlbmjmhlcaalaaWTx
import Derived.Deep.QuietTactic
import Derived.BigQuiet
namespace Go.Proofs.Ytdlbmjmhlcaalaa
open Go.RowKit

set_option maxRecDepth 20000 in
set_option maxHeartbeats 2000000 in
theorem wDecoder_any (m : Int) (rest : ByteArray) (a b : Option Addr) (ca cb : Nat) (ss : List ByteArray) (bad : Bool) (w : World) (ha : SS w a ss) (hb : SS w b ss) (hn : ss.length ≤ 1000000) :
    Calls Try.prog 22 #[decV m rest (.slice a ss.length ca) bad, decV m rest (.slice b ss.length cb) bad] w fun e w' => e = .returned (.bool true) ∧ Below w.heap.size w w' := by
  have h0 : Below w.heap.size w ((w.alloc (.cells #[.int .i64 m, .string rest, .slice a ss.length ca, .bool bad] 32)).alloc (.cells #[.int .i64 m, .string rest, .slice b ss.length cb, .bool bad] 32)) := ((Below.refl _ _).alloc (Nat.le_refl _) _).alloc (by simp) _
  have hcall := wTexts_any a b ca cb ss _ (ha.below h0) (hb.below h0) hn
  have hs1 : (rest.toList == rest.toList) = true := by simp
  have hs2 : (m == m) = true := by simp
  have hs3 : (bad == bad) = true := by simp
  unfold decV
  go_enter Try.func22, Try.ntmps22
  go_wp2_with fail
  refine hcall.mono ?_
  rintro e w' ⟨rfl, n, rfl⟩
  go_wp2
  go_ret
  exact ⟨rfl, h0.trans ⟨rfl, rfl, rfl, Nat.le_refl _, fun _ _ => rfl⟩⟩
end Go.Proofs.Ytdlbmjmhlcaalaa
