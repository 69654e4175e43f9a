/-
  spec.ValidDecoder; the laws' helpers of decoders.
-/
import Derived.Test.YtcdiebommajdmacValidDec
namespace Go.Proofs.Ytcdiebommajdmac
open Go.RowKit

set_option maxRecDepth 20000 in
set_option maxHeartbeats 2000000 in
theorem specValidD_any (m : Int) (rest : ByteArray) (a : Option Addr) (cap : Nat) (ss : List ByteArray) (bad : Bool) (w : World) (hss : SS w a ss) (hn : ss.length ≤ maxLen) (hr : rest.size ≤ 1099511627776) :
    Calls Try.prog 28 #[decV m rest (.slice a ss.length cap) bad] w fun e w' => e = .returned (.bool (validD m rest ss bad)) ∧ Below w.heap.size w w' := by
  unfold decV
  unfold maxLen at hn
  have hss1 : ∀ o, SS (w.alloc o) a ss := fun o => hss.below ((Below.refl _ _).alloc (Nat.le_refl _) o)
  by_cases hw : isW m = true
  · by_cases hl : 500 < ss.length
    · have e : validD m rest ss bad = false := by simp [validD, pays_long hl]
      rw [e]
      have e1 : (decide (1 ≤ m) && decide (m ≤ 8)) = true := hw
      have hd : (500 : Int) < ss.length := by omega
      go_enter Try.func28, Try.ntmps28
      go_wp2_with (first | (go_at_call 21; refine (in_any _ _ _ _).mono ?_; rintro e w' ⟨rfl, rfl⟩; rw [e1]))
      go_ret
      exact ⟨rfl, (Below.refl _ _).alloc (Nat.le_refl _) _⟩
    · obtain ⟨n, rfl, h1, h8⟩ := isW_nat hw
      have e1 : (decide (1 ≤ (n : Int)) && decide ((n : Int) ≤ 8)) = true := hw
      have hd : ¬ (500 : Int) < ss.length := by omega
      have HW : Hid (isW (n : Int) = true) := hw
      clear hw
      have hb0 : Below w.heap.size w (w.alloc (.cells #[.int .i64 n, .string rest, .slice a ss.length cap, .bool bad] 37)) := (Below.refl _ _).alloc (Nat.le_refl _) _
      have hq0 := hss1 (.cells #[.int .i64 n, .string rest, .slice a ss.length cap, .bool bad] 37)
      clear hss hss1
      go_enter Try.func28, Try.ntmps28
      go_wp2_with (first | (go_at_call 21; refine (in_any _ _ _ _).mono ?_; rintro e w' ⟨rfl, rfl⟩; rw [e1]))
      go_loop [3] (fun i => ∃ k : Nat, k ≤ ss.length ∧ i = .int .i64 k ∧ ∀ j (hj : j < ss.length), j < k → okS ss[j] = true) (fun i => ss.length - (intOf i).toNat)
      case atStart => exact ⟨0, Nat.zero_le _, rfl, fun j _ hj => by omega⟩
      case round =>
        obtain ⟨k, hk, rfl, hall⟩ := hrel
        have HA : Hid (∀ j (hj : j < ss.length), j < k → okS ss[j] = true) := hall
        clear hall
        by_cases hlt : k < ss.length
        · obtain ⟨b, off, rfl, hc⟩ := hq0.at hlt
          have hck := hc k hlt
          clear hc
          cases hok : okS ss[k]
          · have e2 : (decide ((1 : Int) ≤ (ss[k].size : Int)) && decide ((ss[k].size : Int) ≤ 1000)) = false := by
              have := hok
              simp only [okS] at this
              rw [← this]
              congr 1 <;> (apply decide_eq_decide.2; omega)
            go_wp2_with (first | (go_at_call 21; refine (in_any _ _ _ _).mono ?_; rintro e w' ⟨rfl, rfl⟩; rw [e2]))
            go_ret
            refine ⟨?_, hb0⟩
            rw [show validD n rest ss bad = false by simp [validD, pays_at hlt hok]]
            rfl
          · have hskl := okS_iff.1 hok
            have e2 : (decide ((1 : Int) ≤ (ss[k].size : Int)) && decide ((ss[k].size : Int) ≤ 1000)) = true := by
              simp; omega
            go_wp2_with (first | (go_at_call 21; refine (in_any _ _ _ _).mono ?_; rintro e w' ⟨rfl, rfl⟩; rw [e2]))
            go_round
            case rel =>
              refine ⟨k + 1, by omega, by go_num, fun j hj hjk => ?_⟩
              by_cases hjk' : j < k
              · exact HA.out j hj hjk'
              · obtain rfl : j = k := by omega
                exact hok
            case measure => simp [intOf]; omega
        · have HP : Hid (pays ss = true) := pays_all (by omega) fun j hj => HA.out j hj (by omega)
          cases bad
          · go_wp2_with fail
            refine (l3Front_any rest n _ hr h1 h8).mono ?_
            rintro e w2 ⟨rfl, hb2⟩
            have HV : Hid (validD n rest ss false = isMore (front rest n)) := by
              have : validD n rest ss false = isMore (front rest n) := by simp [validD, HP.out, HW.out]
              exact this
            have hbx : Below w.heap.size w w2 := hb0.trans (hb2.mono hb0.size)
            clear hb2 hb0
            cases hf : front rest n with
            | more =>
              rw [hf] at HV
              simp only [frontV]
              go_wp2
              go_ret
              refine ⟨?_, hbx⟩
              rw [HV.out]; rfl
            | bad =>
              rw [hf] at HV
              simp only [frontV]
              go_wp2
              go_ret
              refine ⟨?_, hbx⟩
              rw [HV.out]; rfl
            | whole p q =>
              rw [hf] at HV
              simp only [frontV]
              go_wp2
              go_ret
              refine ⟨?_, hbx⟩
              rw [HV.out]; rfl
          · have HV : Hid (validD n rest ss true = rest.toList.isEmpty) := by
              have : validD n rest ss true = rest.toList.isEmpty := by simp [validD, HP.out, HW.out]
              exact this
            go_wp2
            go_ret
            refine ⟨?_, hb0⟩
            rw [HV.out]; rfl
  · have e : validD m rest ss bad = false := by simp [validD, hw]
    rw [e]
    have e1 : (decide (1 ≤ m) && decide (m ≤ 8)) = false := by simpa [isW] using hw
    clear hw e
    go_enter Try.func28, Try.ntmps28
    go_wp2_with (first | (go_at_call 21; refine (in_any _ _ _ _).mono ?_; rintro e w' ⟨rfl, rfl⟩; rw [e1]))
    go_ret
    exact ⟨rfl, (Below.refl _ _).alloc (Nat.le_refl _) _⟩

set_option maxRecDepth 20000 in
set_option maxHeartbeats 1000000 in
theorem szDec_any (m : Int) (rest : ByteArray) (a : Option Addr) (cap : Nat) (ss : List ByteArray) (bad : Bool) (w : World) (hss : SS w a ss) (hn : ss.length ≤ maxLen) (hm : ∀ s ∈ ss, s.size ≤ maxLen) (hr : rest.size ≤ maxLen) :
    Calls Try.prog 11 #[decV m rest (.slice a ss.length cap) bad, .int .i64 1048576] w fun e w' => ∃ r : Int, e = .returned (.int .i64 r) ∧ Below w.heap.size w w' ∧ (r < 0 ∨ (0 ≤ r ∧ rest.size + ss.length + total ss ≤ 1048576)) := by
  unfold decV
  unfold maxLen at hr
  have hb0 : Below w.heap.size w (w.alloc (.cells #[.int .i64 m, .string rest, .slice a ss.length cap, .bool bad] 35)) := (Below.refl _ _).alloc (Nat.le_refl _) _
  by_cases h0 : (1048576 : Int) - rest.size < 0
  · go_enter Try.func11, Try.ntmps11
    go_wp2
    go_ret
    exact ⟨-1, rfl, hb0, .inl (by omega)⟩
  · have e : (1048576 : Int) - rest.size = ((1048576 - rest.size : Nat) : Int) := by omega
    go_enter Try.func11, Try.ntmps11
    go_wp2_with fail
    refine (sz_any a cap ss (1048576 - rest.size) _ (hss.below hb0) hn (by omega) hm).mono ?_
    rintro e2 w1 ⟨r, rfl, rfl, hr2⟩
    rcases hr2 with hr2 | ⟨hr2, hle⟩
    · go_wp2
      go_ret
      exact ⟨-1, rfl, hb0, .inl (by omega)⟩
    · have hr3 : ¬ r < 0 := by omega
      have HL : Hid (rest.size + ss.length + total ss ≤ 1048576) := by
        have : rest.size + ss.length + total ss ≤ 1048576 := by omega
        exact this
      clear hr2 hle
      go_wp2
      go_ret
      exact ⟨r, rfl, hb0, .inr ⟨by omega, HL.out⟩⟩

theorem owns_mono {w : World} {base b : Nat} {e : TypeId} {size : Nat} {v : Value} {n : Nat} {xs : List Value} (h : w.ownsRow base e size v n xs) (hb : b ≤ base) : w.ownsRow b e size v n xs := by
  refine ⟨h.1, ?_⟩
  rcases h.2 with h' | ⟨g, cap, cur, hv, h1, h2⟩
  · exact .inl h'
  · exact .inr ⟨g, cap, cur, hv, Nat.le_trans hb h1, h2⟩

/-- The row of strings that toDecoder makes, somewhere at or behind base. -/
def DecPost (w : World) (m : Int) (rest : ByteArray) (ss : List ByteArray) (bad : Bool) (e : Ending) (w' : World) : Prop :=
  ∃ g, e = .returned (decV m rest (.slice (some ⟨g, 0, none⟩) ss.length ss.length) bad) ∧ w'.ownsRow w.heap.size 9 1 (.slice (some ⟨g, 0, none⟩) ss.length ss.length) ss.length (ss.map .string) ∧ Below w.heap.size w w'

set_option maxRecDepth 20000 in
set_option maxHeartbeats 1000000 in
theorem toDec_any (m : Int) (rest : ByteArray) (a : Option Addr) (cap : Nat) (ss : List ByteArray) (bad : Bool) (w : World) (hss : SS w a ss) (hn : ss.length ≤ 1048576) :
    Calls Try.prog 13 #[decV m rest (.slice a ss.length cap) bad] w fun e w' => DecPost w m rest ss bad e w' := by
  unfold decV
  go_enter Try.func13, Try.ntmps13
  go_wp2_with fail
  have hbA : Below w.heap.size w (((w.alloc (.cells #[.int .i64 m, .string rest, .slice a ss.length cap, .bool bad] 35)).alloc (.cells #[.int .i64 0, .string ⟨#[]⟩, .slice none 0 0, .bool false] 37)).alloc (.cells #[.int .i64 m, .string rest, .slice none 0 0, .bool false] 37)) := (((Below.refl _ _).alloc (Nat.le_refl _) _).alloc (by simp) _).alloc (by simp; omega) _
  refine (to_any a cap ss _ (hss.below hbA) hn).mono ?_
  rintro e w1 ⟨rfl, hs1, hb1⟩
  have hz := hb1.size
  have d03 := hb1.cell (p := ⟨w.heap.size, 3, none⟩) (by simp; omega)
  have d10 := hb1.cell (p := ⟨w.heap.size + 1, 0, none⟩) (by simp)
  have d11 := hb1.cell (p := ⟨w.heap.size + 1, 1, none⟩) (by simp)
  have d12 := hb1.cell (p := ⟨w.heap.size + 1, 2, none⟩) (by simp)
  have d13 := hb1.cell (p := ⟨w.heap.size + 1, 3, none⟩) (by simp)
  have d20 := hb1.cell (p := ⟨w.heap.size + 1 + 1, 0, none⟩) (by simp)
  have d21 := hb1.cell (p := ⟨w.heap.size + 1 + 1, 1, none⟩) (by simp)
  have d22 := hb1.cell (p := ⟨w.heap.size + 1 + 1, 2, none⟩) (by simp)
  have d23 := hb1.cell (p := ⟨w.heap.size + 1 + 1, 3, none⟩) (by simp)
  have f1 : ∀ j, w1.frozen? ⟨w.heap.size + 1, j, none⟩ = false := fun j => by rw [hb1.frozen (p := ⟨w.heap.size + 1, j, none⟩) (by simp)]; simp [go_sem]
  have f2 : ∀ j, w1.frozen? ⟨w.heap.size + 1 + 1, j, none⟩ = false := fun j => by rw [hb1.frozen (p := ⟨w.heap.size + 1 + 1, j, none⟩) (by simp)]; simp [go_sem]
  simp [go_sem] at d03 d10 d11 d12 d13 d20 d21 d22 d23 hz
  have hb0 : Below w.heap.size w w1 := hbA.trans (hb1.mono hbA.size)
  go_wp2
  refine bodyPost_ret (v := decV m rest (.slice (some ⟨w.heap.size + 1 + 1 + 1, 0, none⟩) ss.length ss.length) bad) ?_ rfl ⟨w.heap.size + 1 + 1 + 1, rfl, ?_, ?_⟩
  · go_light
    simp [results, Try.results13, go_sem, d10, d11, d12, d13, decV]
  · have hs2 := owns_mono hs1 (b := w.heap.size) (by simp; omega)
    simp at hs2
    have n1 : some (w.heap.size + 1) ≠ (Value.slice (some ⟨w.heap.size + 1 + 1 + 1, 0, none⟩) ss.length ss.length).ownBlock := by simp [Value.ownBlock]
    have n2 : some (w.heap.size + 1 + 1) ≠ (Value.slice (some ⟨w.heap.size + 1 + 1 + 1, 0, none⟩) ss.length ss.length).ownBlock := by simp [Value.ownBlock]
    exact owns_set (owns_set (owns_set (owns_set (owns_set (owns_set hs2 n2) n2) n1) n1) n1) n1
  · exact (((((hb0.setCell (by simp; omega) _).setCell (by simp; omega) _).setCell (by simp) _).setCell (by simp) _).setCell (by simp) _).setCell (by simp) _

set_option maxRecDepth 20000 in
set_option maxHeartbeats 1000000 in
theorem eqDec_any (m : Int) (rest : ByteArray) (a a' : Option Addr) (cap cap' : Nat) (ss : List ByteArray) (bad : Bool) (w : World) (hss : SS w a ss) (hss' : SS w a' ss) (hn : ss.length ≤ 1048576) :
    Calls Try.prog 15 #[decV m rest (.slice a ss.length cap) bad, decV m rest (.slice a' ss.length cap') bad] w fun e w' => e = .returned (.bool true) ∧ Below w.heap.size w w' := by
  unfold decV
  have hbA : Below w.heap.size w ((w.alloc (.cells #[.int .i64 m, .string rest, .slice a ss.length cap, .bool bad] 37)).alloc (.cells #[.int .i64 m, .string rest, .slice a' ss.length cap', .bool bad] 37)) := ((Below.refl _ _).alloc (Nat.le_refl _) _).alloc (by simp) _
  go_enter Try.func15, Try.ntmps15
  go_wp2_with fail
  refine (eq_any a a' cap cap' ss _ (hss.below hbA) (hss'.below hbA) hn).mono ?_
  rintro e w1 ⟨rfl, hb1⟩
  have d03 := hb1.cell (p := ⟨w.heap.size, 3, none⟩) (by simp; omega)
  have d13 := hb1.cell (p := ⟨w.heap.size + 1, 3, none⟩) (by simp)
  simp [go_sem] at d03 d13
  go_wp2
  go_ret
  exact ⟨rfl, hbA.trans (hb1.mono hbA.size)⟩
end Go.Proofs.Ytcdiebommajdmac
