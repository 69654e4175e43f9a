/-
  spec.l6At: what a tree has under a path.
-/
import Derived.Test.YtockgapdfcapnaaChangesB
import Derived.Test.YtockgapdfcapnaaEntL
import Derived.Test.YtockgapdfcapnaaTreeU
namespace Go.Proofs.Ytockgapdfcapnaa
open Go.RowKit

def noFl : Fl := ⟨false, ⟨#[]⟩, false⟩
def atL (ts : List En) (p : ByteArray) : Fl := match ts.find? (fun e => e.path.toList == p.toList) with
  | some e => ⟨true, e.text, e.runs⟩
  | none => noFl
theorem atL_hit {ts : List En} {p : ByteArray} {k : Nat} (hk : k < ts.length) (hno : ∀ x ∈ ts.take k, (x.path.toList == p.toList) = false) (h : (ts[k].path.toList == p.toList) = true) : atL ts p = ⟨true, ts[k].text, ts[k].runs⟩ := by
  have h1 : ts.find? (fun e => e.path.toList == p.toList) = some ts[k] := by
    rw [List.find?_eq_some_iff_append]
    refine ⟨h, ts.take k, ts.drop (k + 1), ?_, fun a ha => by rw [hno a ha]; rfl⟩
    conv => lhs; rw [← List.take_append_drop k ts]
    rw [List.drop_eq_getElem_cons hk]
  unfold atL
  rw [h1]
theorem atL_none {ts : List En} {p : ByteArray} (hno : ∀ x ∈ ts, (x.path.toList == p.toList) = false) : atL ts p = noFl := by
  have h1 : ts.find? (fun e => e.path.toList == p.toList) = none := by
    rw [List.find?_eq_none]
    intro x hx
    rw [hno x hx]; simp
  unfold atL
  rw [h1]

set_option maxRecDepth 100000 in
set_option maxHeartbeats 4000000 in
theorem l6At_any (a : Option Addr) (cap : Nat) (ts : List En) (p : ByteArray) (w : World) (hts : ES w a ts) (hn : ts.length ≤ 1048576) :
    Calls Try.prog 45 #[.agg #[.slice a ts.length cap], .string p] w fun e w' => e = .returned (flV (atL ts p)) ∧ Below w.heap.size w w' := by
  have hal : Below w.heap.size w ((w.alloc (.cells #[.slice a ts.length cap] 32)).alloc (.cells #[.bool false, .string ⟨#[]⟩, .bool false] 69)) := ((Below.refl _ _).alloc (Nat.le_refl _) _).alloc (by simp) _
  have t0 : ((w.alloc (.cells #[.slice a ts.length cap] 32)).alloc (.cells #[.bool false, .string ⟨#[]⟩, .bool false] 69)).cell? ⟨w.heap.size, 0, none⟩ = some (.slice a ts.length cap) := by simp [go_sem]
  have r0 : ((w.alloc (.cells #[.slice a ts.length cap] 32)).alloc (.cells #[.bool false, .string ⟨#[]⟩, .bool false] 69)).cell? ⟨w.heap.size + 1, 0, none⟩ = some (.bool false) := by simp [go_sem]
  have r1 : ((w.alloc (.cells #[.slice a ts.length cap] 32)).alloc (.cells #[.bool false, .string ⟨#[]⟩, .bool false] 69)).cell? ⟨w.heap.size + 1, 1, none⟩ = some (.string ⟨#[]⟩) := by simp [go_sem]
  have r2 : ((w.alloc (.cells #[.slice a ts.length cap] 32)).alloc (.cells #[.bool false, .string ⟨#[]⟩, .bool false] 69)).cell? ⟨w.heap.size + 1, 2, none⟩ = some (.bool false) := by simp [go_sem]
  have rf : ∀ j, ((w.alloc (.cells #[.slice a ts.length cap] 32)).alloc (.cells #[.bool false, .string ⟨#[]⟩, .bool false] 69)).frozen? ⟨w.heap.size + 1, j, none⟩ = false := fun j => by simp [go_sem]
  have hE := hts.below hal
  go_enter Try.func45, Try.ntmps45
  go_wp2_with fail
  generalize (w.alloc (.cells #[.slice a ts.length cap] 32)).alloc (.cells #[.bool false, .string ⟨#[]⟩, .bool false] 69) = W at *
  obtain ⟨rb, hrb⟩ : ∃ rb, rb = w.heap.size + 1 := ⟨_, rfl⟩
  obtain ⟨tb, htb⟩ : ∃ tb, tb = w.heap.size := ⟨_, rfl⟩
  rw [← hrb] at r0 r1 r2 rf ⊢
  rw [← htb] at t0 ⊢
  have HO : Keep (w.heap.size ≤ rb ∧ tb ≠ rb) := ⟨by omega⟩
  have nt : ¬ tb = rb := by omega
  have nt2 : ¬ rb = tb := by omega
  clear hrb htb hts
  go_loopw [5] (fun i wr => ∃ k : Nat, i = .int .i64 k ∧ k ≤ ts.length ∧ Keep (∀ x ∈ ts.take k, (x.path.toList == p.toList) = false) ∧ W = wr) (fun i _ => ts.length - (intOf i).toNat)
  case atStart => exact ⟨0, rfl, Nat.zero_le _, ⟨fun x hx => by simp at hx⟩, rfl⟩
  case round =>
    obtain ⟨k, rfl, hk, HNO, rfl⟩ := hrel
    by_cases hlt : k < ts.length
    · have hlt' : (k : Int) < ts.length := by omega
      obtain ⟨b, off, rfl, hc⟩ := hE.at hlt
      obtain ⟨x0, x1, x2⟩ := hc k hlt
      clear hc
      cases hq : (ts[k].path.toList == p.toList) with
      | true =>
        have HA : Keep (atL ts p = ⟨true, ts[k].text, ts[k].runs⟩) := ⟨atL_hit hlt HNO.out hq⟩
        have hbe : Below w.heap.size w W := hal
        go_upto_region 5 with fail
        go_region
        all_goals (try go_wp2)
        all_goals
          refine bodyPost_ret (v := flV ⟨true, ts[k].text, ts[k].runs⟩) ?_ rfl ⟨by rw [HA.out], ?_⟩
          · go_light
            simp [results, Try.results45, go_sem, flV, r0, r1, r2]
          · repeat (first | ((with_reducible refine Below.setCell ?_ ?hq2 _); (case hq2 => exact HO.out.1)) | (with_reducible refine Below.drew ?_))
            exact hbe
      | false =>
        have HN2 : Keep (∀ x ∈ ts.take (k + 1), (x.path.toList == p.toList) = false) := ⟨fun x hx => by
          rw [List.take_succ_eq_append_getElem hlt] at hx
          rcases List.mem_append.1 hx with h | h
          · exact HNO.out x h
          · rw [List.mem_singleton.1 h]; exact hq⟩
        go_wp2
        go_roundw
        case rel => exact ⟨k + 1, by congr 1, hlt, HN2, trivial⟩
        case measure => simp only [intOf]; omega
    · obtain rfl : k = ts.length := by omega
      have HA : Keep (atL ts p = noFl) := ⟨atL_none (by have := HNO.out; rw [List.take_length] at this; exact this)⟩
      go_wp2
      refine bodyPost_ret (v := flV noFl) ?_ rfl ⟨by rw [HA.out], ?_⟩
      · go_light
        simp [results, Try.results45, go_sem, flV, noFl, r0, r1, r2]
      · repeat (first | ((with_reducible refine Below.setCell ?_ ?hq2 _); (case hq2 => exact HO.out.1)) | (with_reducible refine Below.drew ?_))
        exact hal
end Go.Proofs.Ytockgapdfcapnaa
