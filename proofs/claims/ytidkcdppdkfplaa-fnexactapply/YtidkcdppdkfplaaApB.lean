/-
  FileE, AtS: laid as one text.
-/
import Derived.Test.YtidkcdppdkfplaaApJ
import Derived.Test.YtidkcdppdkfplaaApA
import Derived.Test.YtidkcdppdkfplaaSplitP
import Derived.Test.YtidkcdppdkfplaaApJ
import Derived.Test.YtidkcdppdkfplaaTreeU
namespace Go.Proofs.Ytidkcdppdkfplaa
open Go.RowKit

def isZ (e : En) : Bool := (e.path.toList == ([] : List UInt8)) && (e.text.toList == ([] : List UInt8)) && !e.runs
def fileE (e : En) : Fl := ⟨!isZ e, e.text, e.runs⟩

set_option maxRecDepth 100000 in
set_option maxHeartbeats 4000000 in
theorem fileE_any (e : En) (w : World) : Calls Try.prog 28 #[.agg #[.string e.path, .string e.text, .bool e.runs]] w fun r w' => r = .returned (.agg #[.bool (fileE e).there, .string (fileE e).text, .bool (fileE e).runs]) ∧ Below w.heap.size w w' := by
  obtain ⟨p, t, r⟩ := e
  have hbw : Below w.heap.size w ((w.alloc (.cells #[.string p, .string t, .bool r] 62)).alloc (.cells #[.bool false, .string ⟨#[]⟩, .bool false] 50)) := ((Below.refl _ _).alloc (Nat.le_refl _) _).alloc (by simp) _
  have c0 : ((w.alloc (.cells #[.string p, .string t, .bool r] 62)).alloc (.cells #[.bool false, .string ⟨#[]⟩, .bool false] 50)).cell? ⟨w.heap.size, 0, none⟩ = some (.string p) := by simp [go_sem]
  have c1 : ((w.alloc (.cells #[.string p, .string t, .bool r] 62)).alloc (.cells #[.bool false, .string ⟨#[]⟩, .bool false] 50)).cell? ⟨w.heap.size, 1, none⟩ = some (.string t) := by simp [go_sem]
  have c2 : ((w.alloc (.cells #[.string p, .string t, .bool r] 62)).alloc (.cells #[.bool false, .string ⟨#[]⟩, .bool false] 50)).cell? ⟨w.heap.size, 2, none⟩ = some (.bool r) := by simp [go_sem]
  have r0 : ((w.alloc (.cells #[.string p, .string t, .bool r] 62)).alloc (.cells #[.bool false, .string ⟨#[]⟩, .bool false] 50)).cell? ⟨w.heap.size + 1, 0, none⟩ = some (.bool false) := by simp [go_sem]
  have r1 : ((w.alloc (.cells #[.string p, .string t, .bool r] 62)).alloc (.cells #[.bool false, .string ⟨#[]⟩, .bool false] 50)).cell? ⟨w.heap.size + 1, 1, none⟩ = some (.string ⟨#[]⟩) := by simp [go_sem]
  have r2 : ((w.alloc (.cells #[.string p, .string t, .bool r] 62)).alloc (.cells #[.bool false, .string ⟨#[]⟩, .bool false] 50)).cell? ⟨w.heap.size + 1, 2, none⟩ = some (.bool false) := by simp [go_sem]
  have rf : ∀ j, ((w.alloc (.cells #[.string p, .string t, .bool r] 62)).alloc (.cells #[.bool false, .string ⟨#[]⟩, .bool false] 50)).frozen? ⟨w.heap.size + 1, j, none⟩ = false := fun j => by simp [go_sem]
  go_enter Try.func28, Try.ntmps28
  go_upto_region 1 with fail
  generalize (w.alloc (.cells #[.string p, .string t, .bool r] 62)).alloc (.cells #[.bool false, .string ⟨#[]⟩, .bool false] 50) = W at *
  have HL : Keep (w.heap.size ≤ w.heap.size + 1) := ⟨by omega⟩
  obtain ⟨rb, hrb⟩ : ∃ rb, rb = w.heap.size + 1 := ⟨_, rfl⟩
  obtain ⟨tb, htb⟩ : ∃ tb, tb = w.heap.size := ⟨_, rfl⟩
  rw [← hrb] at r0 r1 r2 rf ⊢
  rw [← htb] at c0 c1 c2 ⊢
  have HO : Keep (w.heap.size ≤ rb) := ⟨by omega⟩
  have nt : ¬ tb = rb := by omega
  have nt2 : ¬ rb = tb := by omega
  clear hrb htb HL
  have hemp : ∀ z : ByteArray, z.toList = [] → z = ⟨#[]⟩ := fun z h => WideShapes.bytes_inj (by rw [← Lib.toList_data, h])
  cases hz : isZ ⟨p, t, r⟩ with
  | true =>
    obtain ⟨⟨h1, h2⟩, h3⟩ : (p.toList = [] ∧ t.toList = []) ∧ r = false := by simpa [isZ] using hz
    obtain rfl := hemp p h1
    obtain rfl := hemp t h2
    subst h3
    have HZ : Keep (fileE ⟨⟨#[]⟩, ⟨#[]⟩, false⟩ = ⟨false, ⟨#[]⟩, false⟩) := ⟨by unfold fileE; rw [hz]; rfl⟩
    clear h1 h2 hz hemp
    go_region
    all_goals (try go_wp2)
    all_goals
      refine bodyPost_ret (v := .agg #[.bool false, .string ⟨#[]⟩, .bool false]) ?_ rfl ⟨by rw [HZ.out], ?_⟩
      · go_light
        simp [results, Try.results28, go_sem, r0, r1, r2]
      · repeat (first | ((with_reducible refine Below.setCell ?_ ?hq2 _); (case hq2 => exact HO.out)) | (with_reducible refine Below.drew ?_))
        exact hbw

  | false =>
    have HZ : Keep (fileE ⟨p, t, r⟩ = ⟨true, t, r⟩) := ⟨by unfold fileE; rw [hz]; rfl⟩
    by_cases h1 : p.toList = []
    · obtain rfl := hemp p h1
      by_cases h2 : t.toList = []
      · obtain rfl := hemp t h2
        cases r with
        | false =>
          exfalso
          rw [Bool.eq_false_iff] at hz
          exact hz (by simp [isZ, h1])
        | true =>
          clear hz h1 h2 hemp
          go_region
          all_goals (try go_wp2)
          all_goals
            refine bodyPost_ret (v := .agg #[.bool true, .string ⟨#[]⟩, .bool true]) ?_ rfl ⟨by rw [HZ.out], ?_⟩
            · go_light
              simp [results, Try.results28, go_sem, r0, r1, r2]
            · repeat (first | ((with_reducible refine Below.setCell ?_ ?hq2 _); (case hq2 => exact HO.out)) | (with_reducible refine Below.drew ?_))
              exact hbw

      · have ht : (t.toList == ([] : List UInt8)) = false := by simpa using h2
        clear hz h1 h2 hemp
        go_region
        all_goals (try go_wp2)
        all_goals
          refine bodyPost_ret (v := .agg #[.bool true, .string t, .bool r]) ?_ rfl ⟨by rw [HZ.out], ?_⟩
          · go_light
            simp [results, Try.results28, go_sem, r0, r1, r2]
          · repeat (first | ((with_reducible refine Below.setCell ?_ ?hq2 _); (case hq2 => exact HO.out)) | (with_reducible refine Below.drew ?_))
            exact hbw

    · have hp : (p.toList == ([] : List UInt8)) = false := by simpa using h1
      clear hz h1 hemp
      go_region
      all_goals (try go_wp2)
      all_goals
        refine bodyPost_ret (v := .agg #[.bool true, .string t, .bool r]) ?_ rfl ⟨by rw [HZ.out], ?_⟩
        · go_light
          simp [results, Try.results28, go_sem, r0, r1, r2]
        · repeat (first | ((with_reducible refine Below.setCell ?_ ?hq2 _); (case hq2 => exact HO.out)) | (with_reducible refine Below.drew ?_))
          exact hbw
end Go.Proofs.Ytidkcdppdkfplaa

namespace Go.Proofs.Ytidkcdppdkfplaa
open Go.RowKit

def noFl : Fl := ⟨false, ⟨#[]⟩, false⟩
def atL (ts : List En) (p : ByteArray) : Fl := match ts.find? (fun e => e.path.toList == p.toList) with
  | some e => ⟨true, e.text, e.runs⟩
  | none => noFl
theorem atL_hit {ts : List En} {p : ByteArray} {k : Nat} (hk : k < ts.length) (hno : ∀ x ∈ ts.take k, (x.path.toList == p.toList) = false) (h : (ts[k].path.toList == p.toList) = true) : atL ts p = ⟨true, ts[k].text, ts[k].runs⟩ := by
  have h1 : ts.find? (fun e => e.path.toList == p.toList) = some ts[k] := by
    rw [List.find?_eq_some_iff_append]
    refine ⟨h, ts.take k, ts.drop (k + 1), ?_, fun a ha => by rw [hno a ha]; rfl⟩
    conv => lhs; rw [← List.take_append_drop k ts]
    rw [List.drop_eq_getElem_cons hk]
  unfold atL
  rw [h1]
theorem atL_none {ts : List En} {p : ByteArray} (hno : ∀ x ∈ ts, (x.path.toList == p.toList) = false) : atL ts p = noFl := by
  have h1 : ts.find? (fun e => e.path.toList == p.toList) = none := by
    rw [List.find?_eq_none]
    intro x hx
    rw [hno x hx]; simp
  unfold atL
  rw [h1]

set_option maxRecDepth 100000 in
set_option maxHeartbeats 4000000 in
theorem l6At_any (a : Option Addr) (cap : Nat) (ts : List En) (p : ByteArray) (w : World) (hts : ES w a ts) (hn : ts.length ≤ 1048576) :
    Calls Try.prog 19 #[.agg #[.slice a ts.length cap], .string p] w fun e w' => e = .returned (flV (atL ts p)) ∧ Below w.heap.size w w' := by
  have hal : Below w.heap.size w ((w.alloc (.cells #[.slice a ts.length cap] 32)).alloc (.cells #[.bool false, .string ⟨#[]⟩, .bool false] 50)) := ((Below.refl _ _).alloc (Nat.le_refl _) _).alloc (by simp) _
  have t0 : ((w.alloc (.cells #[.slice a ts.length cap] 32)).alloc (.cells #[.bool false, .string ⟨#[]⟩, .bool false] 50)).cell? ⟨w.heap.size, 0, none⟩ = some (.slice a ts.length cap) := by simp [go_sem]
  have r0 : ((w.alloc (.cells #[.slice a ts.length cap] 32)).alloc (.cells #[.bool false, .string ⟨#[]⟩, .bool false] 50)).cell? ⟨w.heap.size + 1, 0, none⟩ = some (.bool false) := by simp [go_sem]
  have r1 : ((w.alloc (.cells #[.slice a ts.length cap] 32)).alloc (.cells #[.bool false, .string ⟨#[]⟩, .bool false] 50)).cell? ⟨w.heap.size + 1, 1, none⟩ = some (.string ⟨#[]⟩) := by simp [go_sem]
  have r2 : ((w.alloc (.cells #[.slice a ts.length cap] 32)).alloc (.cells #[.bool false, .string ⟨#[]⟩, .bool false] 50)).cell? ⟨w.heap.size + 1, 2, none⟩ = some (.bool false) := by simp [go_sem]
  have rf : ∀ j, ((w.alloc (.cells #[.slice a ts.length cap] 32)).alloc (.cells #[.bool false, .string ⟨#[]⟩, .bool false] 50)).frozen? ⟨w.heap.size + 1, j, none⟩ = false := fun j => by simp [go_sem]
  have hE := hts.below hal
  go_enter Try.func19, Try.ntmps19
  go_wp2_with fail
  generalize (w.alloc (.cells #[.slice a ts.length cap] 32)).alloc (.cells #[.bool false, .string ⟨#[]⟩, .bool false] 50) = W at *
  obtain ⟨rb, hrb⟩ : ∃ rb, rb = w.heap.size + 1 := ⟨_, rfl⟩
  obtain ⟨tb, htb⟩ : ∃ tb, tb = w.heap.size := ⟨_, rfl⟩
  rw [← hrb] at r0 r1 r2 rf ⊢
  rw [← htb] at t0 ⊢
  have HO : Keep (w.heap.size ≤ rb ∧ tb ≠ rb) := ⟨by omega⟩
  have nt : ¬ tb = rb := by omega
  have nt2 : ¬ rb = tb := by omega
  clear hrb htb hts
  go_loopw [5] (fun i wr => ∃ k : Nat, i = .int .i64 k ∧ k ≤ ts.length ∧ Keep (∀ x ∈ ts.take k, (x.path.toList == p.toList) = false) ∧ W = wr) (fun i _ => ts.length - (intOf i).toNat)
  case atStart => exact ⟨0, rfl, Nat.zero_le _, ⟨fun x hx => by simp at hx⟩, rfl⟩
  case round =>
    obtain ⟨k, rfl, hk, HNO, rfl⟩ := hrel
    by_cases hlt : k < ts.length
    · have hlt' : (k : Int) < ts.length := by omega
      obtain ⟨b, off, rfl, hc⟩ := hE.at hlt
      obtain ⟨x0, x1, x2⟩ := hc k hlt
      clear hc
      cases hq : (ts[k].path.toList == p.toList) with
      | true =>
        have HA : Keep (atL ts p = ⟨true, ts[k].text, ts[k].runs⟩) := ⟨atL_hit hlt HNO.out hq⟩
        have hbe : Below w.heap.size w W := hal
        go_upto_region 5 with fail
        go_region
        all_goals (try go_wp2)
        all_goals
          refine bodyPost_ret (v := flV ⟨true, ts[k].text, ts[k].runs⟩) ?_ rfl ⟨by rw [HA.out], ?_⟩
          · go_light
            simp [results, Try.results19, go_sem, flV, r0, r1, r2]
          · repeat (first | ((with_reducible refine Below.setCell ?_ ?hq2 _); (case hq2 => exact HO.out.1)) | (with_reducible refine Below.drew ?_))
            exact hbe
      | false =>
        have HN2 : Keep (∀ x ∈ ts.take (k + 1), (x.path.toList == p.toList) = false) := ⟨fun x hx => by
          rw [List.take_succ_eq_append_getElem hlt] at hx
          rcases List.mem_append.1 hx with h | h
          · exact HNO.out x h
          · rw [List.mem_singleton.1 h]; exact hq⟩
        go_wp2
        go_roundw
        case rel => exact ⟨k + 1, by congr 1, hlt, HN2, trivial⟩
        case measure => simp only [intOf]; omega
    · obtain rfl : k = ts.length := by omega
      have HA : Keep (atL ts p = noFl) := ⟨atL_none (by have := HNO.out; rw [List.take_length] at this; exact this)⟩
      go_wp2
      refine bodyPost_ret (v := flV noFl) ?_ rfl ⟨by rw [HA.out], ?_⟩
      · go_light
        simp [results, Try.results19, go_sem, flV, noFl, r0, r1, r2]
      · repeat (first | ((with_reducible refine Below.setCell ?_ ?hq2 _); (case hq2 => exact HO.out.1)) | (with_reducible refine Below.drew ?_))
        exact hal
end Go.Proofs.Ytidkcdppdkfplaa
