/-
  Values that are drawn: spec.DrawFormValue, spec.DrawReadValue; laws.wValue.
-/
import Derived.Test.YtamaioeikcjhoaaDoorDv7
import Derived.Test.YtamaioeikcjhoaaDoorDrawBd
import Derived.Test.YtamaioeikcjhoaaDoorSpecFormV
namespace Go.Proofs.YtamaioeikcjhoaaDoor
open Go.RowKit

theorem Code0.later {w w' : World} {a : Option Addr} {cap : Nat} {zs : List Int} (h : Code0 w a cap zs) (hb : Below w.heap.size w w') : Code0 w' a cap zs := by
  refine ⟨?_, h.len, h.cap, h.wf⟩
  rcases h.bytes with h' | ⟨b, off, ha, hlt, hc⟩
  · exact .inl h'
  · exact .inr ⟨b, off, ha, Nat.lt_of_lt_of_le hlt hb.size, fun i hi => cell_later hb (hc i hi)⟩

/-- A drawn value, as a law is given it. -/
def DV0 (W : World) (e : Ending) (w' : World) : Prop :=
  ∃ (ad : Option Addr) (cs : Nat) (ts : List At), e = .returned (.agg #[.slice ad ts.length cs]) ∧ AL W.heap.size w' ad ts ∧ AOk 302 205000 ts ∧ Below W.heap.size W w'

set_option maxRecDepth 20000 in
set_option maxHeartbeats 2000000 in
theorem drawRead_any (a : Option Addr) (cap : Nat) (zs : List Int) (W : World) (h : Code0 W a cap zs) :
    Calls Tryd.prog 14 #[.slice a zs.length cap] W fun e w' => ∃ s : ByteArray, e = .returned (.string s) ∧ s.size ≤ 200002 ∧ Below W.heap.size W w' := by
  go_enter Tryd.func14, Tryd.ntmps14
  go_wp2_with fail
  refine (open_any a cap zs W h).mono ?_
  rintro e w1 ⟨rfl, hb1, hs1, zs', hR1⟩
  have hcall := any_any W.heap.size a cap zs' 0 w1 hR1 (by omega)
  go_wp2_with fail
  refine hcall.mono ?_
  rintro e w2 ⟨gs, cs, ts, rfl, hown, hpos, hok, ⟨p2, hp2, hR2⟩, hg2⟩
  clear hcall
  have hbW2 : Below W.heap.size W w2 := hb1.grown hg2 (by omega) (fun k hk => by cases hk; exact Nat.le_refl _)
  have hf := specForm_any (some ⟨gs, 0, none⟩) cs ts w2 (al_of_row hown).as (by have := hok.1; have := hok.2.1; omega) (fun y hy => by have := size_le_totalA ts y hy; have := hok.2.1; unfold maxLen; omega)
  clear hb1 hg2 hR1
  go_wp2_with fail
  refine hf.mono ?_
  rintro e w3 ⟨rfl, hb3⟩
  clear hf
  have hfs : (formV ts).size ≤ 100000 := by
    unfold formV
    split
    · split
      · rename_i h5; show (List.toArray _).size ≤ 100000; simpa using h5
      · show 0 ≤ 100000; omega
    · show 0 ≤ 100000; omega
  have hR3 := hR2.below hb3
  have hbW3 : Below W.heap.size W w3 := hbW2.trans (hb3.mono hbW2.size)
  clear hbW2 hb3 hR2 hown hok hpos
  generalize formV ts = fv at *
  have hpk := pick_any W.heap.size a cap zs' p2 2 w3 hR3 (by omega) (by omega) (by omega)
  go_wp2_with fail
  refine hpk.mono ?_
  rintro e w4 ⟨x, rfl, hx, hg4, hR4⟩
  clear hpk
  have hbW4 : Below W.heap.size W w4 := hbW3.grown hg4 hbW3.size (fun k hk => by cases hk; exact Nat.le_refl _)
  clear hbW3 hg4 hR3
  by_cases x0 : x = 0
  · subst x0
    have hbd := bend_any W.heap.size a cap zs' (p2 + 1) fv w4 hR4 (by omega) (by omega)
    go_wp2_with fail
    refine hbd.mono ?_
    rintro e w5 ⟨t, rfl, ht, ⟨p5, hp5, hR5⟩, hg5⟩
    have hbW5 : Below W.heap.size W w5 := hbW4.grown hg5 hbW4.size (fun k hk => by cases hk; exact Nat.le_refl _)
    clear hbd hbW4 hR4 hR5 hg5
    go_wp2
    go_ret
    exact ⟨t, rfl, by omega, hbW5⟩
  · have hB : ((x : Int) == 0) = false := by simpa using (show ¬ (x : Int) = 0 by omega)
    go_wp2
    go_ret
    exact ⟨fv, rfl, by omega, hbW4⟩

set_option maxRecDepth 20000 in
set_option maxHeartbeats 1000000 in
theorem wValue_any (a a' : Option Addr) (cap cap' : Nat) (ts : List At) (w : World) (hss : AS w a ts) (hss' : AS w a' ts) (hn : ts.length ≤ 1048576) :
    Calls Tryd.prog 13 #[.agg #[.slice a ts.length cap], .agg #[.slice a' ts.length cap']] w fun e w' => e = .returned (.bool true) ∧ Below w.heap.size w w' := by
  have hb0 : Below w.heap.size w ((w.alloc (.cells #[.slice a ts.length cap] 24)).alloc (.cells #[.slice a' ts.length cap'] 24)) := ((Below.refl _ _).alloc (Nat.le_refl _) _).alloc (by simp) _
  have c0 : ((w.alloc (.cells #[.slice a ts.length cap] 24)).alloc (.cells #[.slice a' ts.length cap'] 24)).cell? ⟨w.heap.size, 0, none⟩ = some (.slice a ts.length cap) := by simp [go_sem]
  have c1 : ((w.alloc (.cells #[.slice a ts.length cap] 24)).alloc (.cells #[.slice a' ts.length cap'] 24)).cell? ⟨w.heap.size + 1, 0, none⟩ = some (.slice a' ts.length cap') := by simp [go_sem]
  have hA := hss.below hb0
  have hA' := hss'.below hb0
  go_enter Tryd.func13, Tryd.ntmps13
  go_wp2
  generalize (w.alloc (.cells #[.slice a ts.length cap] 24)).alloc (.cells #[.slice a' ts.length cap'] 24) = w0 at *
  go_loopw [5] (fun i wr => ∃ k : Nat, k ≤ ts.length ∧ i = .int .i64 k ∧ Below w0.heap.size w0 wr) (fun i _ => ts.length - (intOf i).toNat)
  case atStart => exact ⟨0, Nat.zero_le _, rfl, Below.refl _ _⟩
  case round =>
    obtain ⟨k, hk, rfl, hb⟩ := hrel
    have e0 := cell_later hb c0
    have e1 := cell_later hb c1
    by_cases hlt : k < ts.length
    · have hlt1 : (k : Int) < ts.length := by omega
      obtain ⟨b, off, rfl, hc⟩ := (hA.below hb).at hlt
      obtain ⟨b', off', rfl, hc'⟩ := (hA'.below hb).at hlt
      obtain ⟨x0, x1, x2, x3⟩ := hc k hlt
      obtain ⟨y0, y1, y2, y3⟩ := hc' k hlt
      clear hc hc'
      have hbs := bs_same (x := ts[k].text) rfl
      generalize ts[k].text = tk at *
      go_wp2_with fail
      go_quiet (fail)
      go_wp2
      go_roundw
      case rel => exact ⟨k + 1, by omega, by go_num, ⟨hb.os, hb.tape, hb.output, hb.size, hb.block⟩⟩
      case measure => simp [intOf]; omega
    · obtain rfl : k = ts.length := by omega
      go_wp2
      go_ret
      exact ⟨rfl, hb0.trans (hb.mono hb0.size)⟩
end Go.Proofs.YtamaioeikcjhoaaDoor
