/-
  impl.ValidDecoder, spec.ValidDecoder.
-/
import Derived.Test.YtdlbmjmhlcaalaaFrameLoop
import Derived.Test.YtdlbmjmhlcaalaaSpecFront
import Derived.Test.YtdlbmjmhlcaalaaPays
namespace Go.Proofs.Ytdlbmjmhlcaalaa
open Go.RowKit

def isMore : Front → Bool
  | none => true
  | _ => false
def validD (m : Int) (rest : ByteArray) (ss : List ByteArray) (bad : Bool) : Bool := isW m && pays ss && (if bad then rest.toList.isEmpty else isMore (front rest m.toNat))
theorem feed_room0 (n : Nat) (s : ByteArray) : (feedP n 0 s).2.2 = !isMore (front s n) := by
  cases h : front s n using Front.three with
  | more => rw [feedP_more h]; rfl
  | bad => rw [feedP_bad h]; rfl
  | whole p k => rw [feedP_full h]; rfl
theorem feed_room0' (n : Nat) (s : ByteArray) : (feedP n 0 s).1 = [] := by
  cases h : front s n using Front.three with
  | more => rw [feedP_more h]
  | bad => rw [feedP_bad h]
  | whole p k => rw [feedP_full h]

/-- A decoder as a value. -/
def decV (m : Int) (rest : ByteArray) (v : Value) (bad : Bool) : Value := .agg #[.int .i64 m, .string rest, v, .bool bad]

theorem st_new (w : World) (g : Nat) (hg : w.heap.size = g) (n room : Nat) (z : Int) (hz : (room : Int) = z) (rest : ByteArray) : St g (w.alloc (.cells #[.int .i64 n, .int .i64 z, .string rest, .slice none 0 0, .bool false, .int .i64 0, .int .i64 0, .string ⟨#[]⟩] 54)) g ⟨n, room, rest, .slice none 0 0, false, 0, 0, ⟨#[]⟩⟩ [] := by
  subst hg hz
  refine ⟨⟨fun j hj => ?_, fun j => ?_⟩, ⟨rfl, .inl ⟨rfl, rfl⟩⟩, fun h => by simp [Value.ownBlock] at h, Nat.le_refl _, fun _ => rfl⟩
  · rw [World.cell?_alloc_new]
    match j, hj with | 0, _ => rfl | 1, _ => rfl | 2, _ => rfl | 3, _ => rfl | 4, _ => rfl | 5, _ => rfl | 6, _ => rfl | 7, _ => rfl
  · simp

set_option maxRecDepth 20000 in
set_option maxHeartbeats 2000000 in
theorem implValidD_any (m : Int) (rest : ByteArray) (a : Option Addr) (cap : Nat) (ss : List ByteArray) (bad : Bool) (w : World) (hss : SS w a ss) (hn : ss.length ≤ maxLen) (hr : rest.size ≤ 1099511627776) :
    Calls Try.prog 15 #[decV m rest (.slice a ss.length cap) bad] w fun e w' => e = .returned (.bool (validD m rest ss bad)) ∧ Below w.heap.size w w' := by
  unfold decV
  have hss1 : ∀ o, SS (w.alloc o) a ss := fun o => hss.below ((Below.refl _ _).alloc (Nat.le_refl _) o)
  by_cases hw : isW m = true
  · cases hp : pays ss
    · have e : validD m rest ss bad = false := by simp [validD, hp]
      rw [e]
      have e1 : (decide (1 ≤ m) && decide (m ≤ 8)) = true := hw
      go_enter Try.func15, Try.ntmps15
      go_wp2_with (first | (go_at_call 28; refine (isw_any _ _).mono ?_; rintro e w' ⟨rfl, rfl⟩; rw [e1]) | (go_at_call 29; refine (arePays_any _ _ _ _ (hss1 _) hn).mono ?_; rintro e w' ⟨rfl, rfl⟩; rw [hp]))
      go_ret
      exact ⟨rfl, (Below.refl _ _).alloc (Nat.le_refl _) _⟩
    · obtain ⟨n, rfl, h1, h8⟩ := isW_nat hw
      have e1 : (decide (1 ≤ (n : Int)) && decide ((n : Int) ≤ 8)) = true := hw
      cases bad
      · have e : validD n rest ss false = isMore (front rest n) := by simp [validD, hp, hw]
        rw [e]
        go_enter Try.func15, Try.ntmps15
        go_wp2_with (first | (go_at_call 28; refine (isw_any _ _).mono ?_; rintro e w' ⟨rfl, rfl⟩; rw [e1]) | (go_at_call 29; refine (arePays_any _ _ _ _ (hss1 _) hn).mono ?_; rintro e w' ⟨rfl, rfl⟩; rw [hp]))
        have hS := st_new (w.alloc (.cells #[.int .i64 n, .string rest, .slice a ss.length cap, .bool false] 32)) (w.heap.size + 1) (by simp) n 0 0 rfl rest
        have hb0 : Below w.heap.size w (w.alloc (.cells #[.int .i64 n, .string rest, .slice a ss.length cap, .bool false] 32)) := (Below.refl _ _).alloc (Nat.le_refl _) _
        have hb1 := hb0.alloc hb0.size (.cells #[.int .i64 n, .int .i64 0, .string rest, .slice none 0 0, .bool false, .int .i64 0, .int .i64 0, .string ⟨#[]⟩] 54)
        refine (run_any _ _ _ _ _ hS rfl rfl rfl hr h1 h8 (by simp) (by simp)).mono ?_
        rintro e w2 ⟨rfl, r, hS2, _, hbad, hb2⟩
        have k4 : w2.cell? ⟨w.heap.size + 1, 4, none⟩ = some (.bool (!isMore (front rest n))) := by
          have h4 := hS2.rc.cells 4 (by omega)
          rw [R.val, hbad] at h4
          rw [← feed_room0 n rest]
          exact h4
        clear hbad
        go_wp2
        go_ret
        exact ⟨by simp, hb1.trans (hb2.mono (Nat.le_succ _))⟩
      · have e : validD n rest ss true = rest.toList.isEmpty := by simp [validD, hp, hw]
        rw [e]
        go_enter Try.func15, Try.ntmps15
        go_wp2_with (first | (go_at_call 28; refine (isw_any _ _).mono ?_; rintro e w' ⟨rfl, rfl⟩; rw [e1]) | (go_at_call 29; refine (arePays_any _ _ _ _ (hss1 _) hn).mono ?_; rintro e w' ⟨rfl, rfl⟩; rw [hp]))
        go_ret
        exact ⟨rfl, (Below.refl _ _).alloc (Nat.le_refl _) _⟩
  · have e : validD m rest ss bad = false := by simp [validD, hw]
    rw [e]
    have e1 : (decide (1 ≤ m) && decide (m ≤ 8)) = false := by simpa [isW] using hw
    clear hw e
    go_enter Try.func15, Try.ntmps15
    go_wp2_with (first | (go_at_call 28; refine (isw_any _ _).mono ?_; rintro e w' ⟨rfl, rfl⟩; rw [e1]))
    go_ret
    exact ⟨rfl, (Below.refl _ _).alloc (Nat.le_refl _) _⟩
end Go.Proofs.Ytdlbmjmhlcaalaa
