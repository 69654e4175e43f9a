/-
  impl's method run.
-/
import Derived.Test.YtdlbmjmhlcaalaaFrameRun
namespace Go.Proofs.Ytdlbmjmhlcaalaa
open Go.RowKit

/-- How far a reader is from its end, by what lies in memory. -/
def far (g : Nat) (st : Value) (w : World) : Nat :=
  match st, w.cell? ⟨g, 2, none⟩, w.cell? ⟨g, 5, none⟩ with
  | .func (.func f) _ _, some (.string s), some (.int _ p) => 8 * s.size + (if f = 49 then (if p = 0 then 7 else 6) else if f = 56 then 5 else if f = 57 then 4 else if f = 58 then 3 else 2)
  | _, _, _ => 0
theorem far_stand {F : List ByteArray × ByteArray × Bool} {st : Value} {r : R} {ts : List ByteArray} {n : Nat} {w : World} {g : Nat} (h : Stand F st r ts n) (hc : RC w g r) : far g st w = n := by
  have h2 : w.cell? ⟨g, 2, none⟩ = some (.string r.rest) := hc.cells 2 (by omega)
  have h5 : w.cell? ⟨g, 5, none⟩ = some (.int .i64 r.past) := hc.cells 5 (by omega)
  unfold far
  rw [h2, h5]
  rcases h with ⟨rfl, rfl, hp, _⟩ | ⟨rfl, rfl, hp, _⟩ | ⟨_, _, rfl, rfl, _⟩ | ⟨_, _, rfl, rfl, _⟩ | ⟨rfl, rfl, _⟩ | ⟨rfl, rfl, _⟩ | ⟨rfl, rfl, _⟩
  · simp [fnv1, hp]
  · simp [fnv1, hp]
  · simp [fnv1]
  · simp [fnv1]
  · simp [fnv1]
  · simp [fnv1]
  · rfl

set_option maxRecDepth 100000 in
theorem neq_fn (f : FuncId) (w : World) : (binOp .neq 72 (.func (.func f) #[] #[]) .nilFunc).run Try.prog w = .ok (.bool true) w := by rfl

set_option maxRecDepth 100000 in
theorem neq_nil (w : World) : (binOp .neq 72 .nilFunc .nilFunc).run Try.prog w = .ok (.bool false) w := by rfl

structure InRun (B g : Nat) (F : List ByteArray × ByteArray × Bool) (wd : Nat) (w : World) (st : Value) (wr : World) (r : R) (ts : List ByteArray) (n : Nat) : Prop where
  mem : St B wr g r ts
  below : Below B w wr
  stand : Stand F st r ts n
  width : r.width = wd
  size : r.rest.size ≤ 1099511627776
  room : r.room ≤ 500
  count : ts.length + r.room ≤ 500

def RunPost (B g : Nat) (F : List ByteArray × ByteArray × Bool) (w : World) (e : Ending) (w' : World) : Prop :=
  e = .returned (.tuple #[]) ∧ ∃ r, St B w' g r F.1 ∧ r.rest = F.2.1 ∧ r.bad = F.2.2 ∧ Below B w w'

set_option maxRecDepth 20000 in
set_option maxHeartbeats 1000000 in
theorem run_any (B g : Nat) (w : World) (r : R) (ts : List ByteArray) (h : St B w g r ts) (hp : r.past = 0) (hz : r.size = 0) (hb : r.bad = false) (hs : r.rest.size ≤ 1099511627776) (h1 : 1 ≤ r.width) (h8 : r.width ≤ 8) (hr : r.room ≤ 500) (hts : ts.length + r.room ≤ 500) :
    Calls Try.prog 33 #[.pointer (some ⟨g, 0, none⟩)] w fun e w' => RunPost B g (ts ++ (feedP r.width r.room r.rest).1, (feedP r.width r.room r.rest).2) w e w' := by
  have hst := Stand.size0 (F := (ts ++ (feedP r.width r.room r.rest).1, (feedP r.width r.room r.rest).2)) hp hz hb rfl
  generalize hF : (ts ++ (feedP r.width r.room r.rest).1, (feedP r.width r.room r.rest).2) = F at *
  clear hF
  go_enter Try.func33, Try.ntmps33
  go_wp2
  go_loopw [2] (fun st wr => ∃ r' ts' n, InRun B g F r.width w st wr r' ts' n) (fun st wr => far g st wr)
  case atStart => exact ⟨r, ts, _, h, Below.refl _ _, hst, rfl, hs, hr, hts⟩
  case round =>
    obtain ⟨r', ts', n, hI⟩ := hrel
    have hfar := far_stand hI.stand hI.mem.rc
    by_cases hn : n = 0
    · have hd : u2 = .nilFunc ∧ F = (ts', r'.rest, r'.bad) := by
        have hS := hI.stand
        rcases hS with ⟨_, h, _⟩ | ⟨_, h, _⟩ | ⟨_, _, _, h, _⟩ | ⟨_, _, _, h, _⟩ | ⟨_, h, _⟩ | ⟨_, h, _⟩ | ⟨hu, _, hF⟩
        · omega
        · omega
        · omega
        · omega
        · omega
        · omega
        · exact ⟨hu, hF⟩
      obtain ⟨rfl, hF⟩ := hd
      have HF : Hid (F = (ts', r'.rest, r'.bad)) := hF
      clear hF
      have hnq := neq_nil
      go_wp2
      refine bodyPost_ret (v := .tuple #[]) (by kernel_rfl) rfl ?_
      refine ⟨rfl, r', ?_, ?_, ?_, hI.below⟩
      · rw [HF.out]; exact hI.mem
      · rw [HF.out]
      · rw [HF.out]
    · have hstep := goes hI.stand hn hI.mem hI.size (by rw [hI.width]; exact h1) (by rw [hI.width]; exact h8) hI.room hI.count
      obtain ⟨f, hu, hcf, hcall⟩ := hstep
      have hwd := hI.width
      have hbw := hI.below
      clear hI
      subst hu
      unfold fnv1 at *
      have hnq := neq_fn f
      go_wp2_with fail
      refine hcall.mono ?_
      rintro e w' ⟨st, r2, ts2, n2, rfl, hS2, hB2, hst2, hlt, hw2, hs2, hr2, hc2⟩
      go_wp2
      go_roundw
      case rel => exact ⟨r2, ts2, n2, hS2, hbw.trans hB2, hst2, hw2.trans hwd, hs2, hr2, hc2⟩
      case measure =>
        show far g st w' < far g (.func (.func f) #[] #[]) wr
        rw [hfar, far_stand hst2 hS2.rc]
        exact hlt
end Go.Proofs.Ytdlbmjmhlcaalaa
