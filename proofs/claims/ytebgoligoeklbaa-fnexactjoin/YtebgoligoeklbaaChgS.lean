/-
  spec.l6Change: what a patch has under a path.
-/
import Derived.Test.YtebgoligoeklbaaCutC
import Derived.Test.YtebgoligoeklbaaMrgP
namespace Go.Proofs.Ytebgoligoeklbaa
open Go.RowKit

theorem fnd_hit {α : Type} {pa : α → ByteArray} {ts : List α} {p : ByteArray} {k : Nat} (hk : k < ts.length) (hno : ∀ x ∈ ts.take k, ((pa x).toList == p.toList) = false) (h : ((pa ts[k]).toList == p.toList) = true) : fnd pa ts p = some ts[k] := by
  unfold fnd
  rw [List.find?_eq_some_iff_append]
  refine ⟨h, ts.take k, ts.drop (k + 1), ?_, fun a ha => by rw [hno a ha]; rfl⟩
  conv => lhs; rw [← List.take_append_drop k ts]
  rw [List.drop_eq_getElem_cons hk]
theorem fnd_miss {α : Type} {pa : α → ByteArray} {ts : List α} {p : ByteArray} (hno : ∀ x ∈ ts, ((pa x).toList == p.toList) = false) : fnd pa ts p = none := by
  unfold fnd
  rw [List.find?_eq_none]
  intro x hx
  rw [hno x hx]; simp

set_option maxRecDepth 100000 in
set_option maxHeartbeats 4000000 in
theorem l6Change_any (a : Option Addr) (cap : Nat) (cs : List Ch) (p : ByteArray) (w : World) (hcs : CS w a cs) (hn : cs.length ≤ 1048576) :
    Calls Try.prog 21 #[.agg #[.slice a cs.length cap], .string p] w fun e w' => e = .returned (.tuple #[cutCV ((fnd Ch.path cs p).getD noCh), .bool (fnd Ch.path cs p).isSome]) ∧ Below w.heap.size w w' := by
  have hal : Below w.heap.size w ((w.alloc (.cells #[.slice a cs.length cap] 28)).alloc (.cells #[.string ⟨#[]⟩, .bool false, .string ⟨#[]⟩, .bool false, .bool false, .string ⟨#[]⟩, .bool false] 54)) := ((Below.refl _ _).alloc (Nat.le_refl _) _).alloc (by simp) _
  have t0 : ((w.alloc (.cells #[.slice a cs.length cap] 28)).alloc (.cells #[.string ⟨#[]⟩, .bool false, .string ⟨#[]⟩, .bool false, .bool false, .string ⟨#[]⟩, .bool false] 54)).cell? ⟨w.heap.size, 0, none⟩ = some (.slice a cs.length cap) := by simp [go_sem]
  have r0 : ((w.alloc (.cells #[.slice a cs.length cap] 28)).alloc (.cells #[.string ⟨#[]⟩, .bool false, .string ⟨#[]⟩, .bool false, .bool false, .string ⟨#[]⟩, .bool false] 54)).cell? ⟨w.heap.size + 1, 0, none⟩ = some (.string ⟨#[]⟩) := by simp [go_sem]
  have r1 : ((w.alloc (.cells #[.slice a cs.length cap] 28)).alloc (.cells #[.string ⟨#[]⟩, .bool false, .string ⟨#[]⟩, .bool false, .bool false, .string ⟨#[]⟩, .bool false] 54)).cell? ⟨w.heap.size + 1, 1, none⟩ = some (.bool false) := by simp [go_sem]
  have r2 : ((w.alloc (.cells #[.slice a cs.length cap] 28)).alloc (.cells #[.string ⟨#[]⟩, .bool false, .string ⟨#[]⟩, .bool false, .bool false, .string ⟨#[]⟩, .bool false] 54)).cell? ⟨w.heap.size + 1, 2, none⟩ = some (.string ⟨#[]⟩) := by simp [go_sem]
  have r3 : ((w.alloc (.cells #[.slice a cs.length cap] 28)).alloc (.cells #[.string ⟨#[]⟩, .bool false, .string ⟨#[]⟩, .bool false, .bool false, .string ⟨#[]⟩, .bool false] 54)).cell? ⟨w.heap.size + 1, 3, none⟩ = some (.bool false) := by simp [go_sem]
  have r4 : ((w.alloc (.cells #[.slice a cs.length cap] 28)).alloc (.cells #[.string ⟨#[]⟩, .bool false, .string ⟨#[]⟩, .bool false, .bool false, .string ⟨#[]⟩, .bool false] 54)).cell? ⟨w.heap.size + 1, 4, none⟩ = some (.bool false) := by simp [go_sem]
  have r5 : ((w.alloc (.cells #[.slice a cs.length cap] 28)).alloc (.cells #[.string ⟨#[]⟩, .bool false, .string ⟨#[]⟩, .bool false, .bool false, .string ⟨#[]⟩, .bool false] 54)).cell? ⟨w.heap.size + 1, 5, none⟩ = some (.string ⟨#[]⟩) := by simp [go_sem]
  have r6 : ((w.alloc (.cells #[.slice a cs.length cap] 28)).alloc (.cells #[.string ⟨#[]⟩, .bool false, .string ⟨#[]⟩, .bool false, .bool false, .string ⟨#[]⟩, .bool false] 54)).cell? ⟨w.heap.size + 1, 6, none⟩ = some (.bool false) := by simp [go_sem]
  have rf : ∀ j, ((w.alloc (.cells #[.slice a cs.length cap] 28)).alloc (.cells #[.string ⟨#[]⟩, .bool false, .string ⟨#[]⟩, .bool false, .bool false, .string ⟨#[]⟩, .bool false] 54)).frozen? ⟨w.heap.size + 1, j, none⟩ = false := fun j => by simp [go_sem]
  have hE := hcs.below hal
  go_enter Try.func21, Try.ntmps21
  go_wp2_with fail
  generalize (w.alloc (.cells #[.slice a cs.length cap] 28)).alloc (.cells #[.string ⟨#[]⟩, .bool false, .string ⟨#[]⟩, .bool false, .bool false, .string ⟨#[]⟩, .bool false] 54) = W at *
  obtain ⟨rb, hrb⟩ : ∃ rb, rb = w.heap.size + 1 := ⟨_, rfl⟩
  obtain ⟨tb, htb⟩ : ∃ tb, tb = w.heap.size := ⟨_, rfl⟩
  rw [← hrb] at r0 r1 r2 r3 r4 r5 r6 rf ⊢
  rw [← htb] at t0 ⊢
  have HO : Keep (w.heap.size ≤ rb) := ⟨by omega⟩
  have nt : ¬ tb = rb := by omega
  have nt2 : ¬ rb = tb := by omega
  clear hrb htb hcs
  go_loopw [6] (fun i wr => ∃ k : Nat, i = .int .i64 k ∧ k ≤ cs.length ∧ Keep (∀ x ∈ cs.take k, (x.path.toList == p.toList) = false) ∧ W = wr) (fun i _ => cs.length - (intOf i).toNat)
  case atStart => exact ⟨0, rfl, Nat.zero_le _, ⟨fun x hx => by simp at hx⟩, rfl⟩
  case round =>
    obtain ⟨k, rfl, hk, HNO, rfl⟩ := hrel
    by_cases hlt : k < cs.length
    · have hlt' : (k : Int) < cs.length := by omega
      obtain ⟨b, off, rfl, hc⟩ := hE.at hlt
      obtain ⟨x0, x1, x2, x3, x4, x5, x6⟩ := hc k hlt
      clear hc hE
      cases hq : (cs[k].path.toList == p.toList) with
      | true =>
        have HA : Keep (fnd Ch.path cs p = some cs[k]) := ⟨fnd_hit hlt HNO.out hq⟩
        have hbe := box7_below (.string cs[k].path) (.bool cs[k].old.there) (.string cs[k].old.text) (.bool cs[k].old.runs) (.bool cs[k].new.there) (.string cs[k].new.text) (.bool cs[k].new.runs) hal HO.out
        obtain ⟨z0, z1, z2, z3, z4, z5, z6⟩ := box7_set (.string cs[k].path) (.bool cs[k].old.there) (.string cs[k].old.text) (.bool cs[k].old.runs) (.bool cs[k].new.there) (.string cs[k].new.text) (.bool cs[k].new.runs) r0 r1 r2 r3 r4 r5 r6
        have HB : Keep _ := ⟨hbe⟩
        have HZZ : Keep _ := ⟨And.intro z0 (And.intro z1 (And.intro z2 (And.intro z3 (And.intro z4 (And.intro z5 z6)))))⟩
        clear z0 z1 z2 z3 z4 z5 z6 hbe hal
        go_wp2
        refine bodyPost_ret (v := .tuple #[cutCV cs[k], .bool true]) ?_ rfl ⟨by rw [HA.out]; rfl, HB.out⟩
        obtain ⟨z0, z1, z2, z3, z4, z5, z6⟩ := HZZ.out
        go_light
        simp [results, Try.results21, go_sem, cutCV, z0, z1, z2, z3, z4, z5, z6]
      | false =>
        have HN2 : Keep (∀ x ∈ cs.take (k + 1), (x.path.toList == p.toList) = false) := ⟨fun x hx => by
          rw [List.take_succ_eq_append_getElem hlt] at hx
          rcases List.mem_append.1 hx with h | h
          · exact HNO.out x h
          · rw [List.mem_singleton.1 h]; exact hq⟩
        go_wp2
        go_roundw
        case rel => exact ⟨k + 1, by congr 1, hlt, HN2, trivial⟩
        case measure => simp only [intOf]; omega
    · obtain rfl : k = cs.length := by omega
      have HA : Keep (fnd Ch.path cs p = none) := ⟨fnd_miss (by have := HNO.out; rw [List.take_length] at this; exact this)⟩
      have hbe := box7_below (.string ⟨#[]⟩) (.bool false) (.string ⟨#[]⟩) (.bool false) (.bool false) (.string ⟨#[]⟩) (.bool false) hal HO.out
      obtain ⟨z0, z1, z2, z3, z4, z5, z6⟩ := box7_set (.string ⟨#[]⟩) (.bool false) (.string ⟨#[]⟩) (.bool false) (.bool false) (.string ⟨#[]⟩) (.bool false) r0 r1 r2 r3 r4 r5 r6
      have HB : Keep _ := ⟨hbe⟩
      have HZZ : Keep _ := ⟨And.intro z0 (And.intro z1 (And.intro z2 (And.intro z3 (And.intro z4 (And.intro z5 z6)))))⟩
      clear z0 z1 z2 z3 z4 z5 z6 hbe hal
      go_wp2
      refine bodyPost_ret (v := .tuple #[cutCV noCh, .bool false]) ?_ rfl ⟨by rw [HA.out]; rfl, HB.out⟩
      obtain ⟨z0, z1, z2, z3, z4, z5, z6⟩ := HZZ.out
      go_light
      simp [results, Try.results21, go_sem, cutCV, noCh, z0, z1, z2, z3, z4, z5, z6]
end Go.Proofs.Ytebgoligoeklbaa
