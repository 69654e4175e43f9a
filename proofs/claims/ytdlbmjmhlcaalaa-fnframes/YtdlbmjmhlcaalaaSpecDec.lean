/-
  spec.ValidDecoder.
-/
import Derived.Test.YtdlbmjmhlcaalaaValidDec
namespace Go.Proofs.Ytdlbmjmhlcaalaa
open Go.RowKit

set_option maxRecDepth 20000 in
set_option maxHeartbeats 2000000 in
theorem specValidD_any (m : Int) (rest : ByteArray) (a : Option Addr) (cap : Nat) (ss : List ByteArray) (bad : Bool) (w : World) (hss : SS w a ss) (hn : ss.length ≤ maxLen) (hr : rest.size ≤ 1099511627776) :
    Calls Try.prog 13 #[decV m rest (.slice a ss.length cap) bad] w fun e w' => e = .returned (.bool (validD m rest ss bad)) ∧ Below w.heap.size w w' := by
  unfold decV
  unfold maxLen at hn
  have hss1 : ∀ o, SS (w.alloc o) a ss := fun o => hss.below ((Below.refl _ _).alloc (Nat.le_refl _) o)
  by_cases hw : isW m = true
  · by_cases hl : 500 < ss.length
    · have e : validD m rest ss bad = false := by simp [validD, pays_long hl]
      rw [e]
      have e1 : (decide (1 ≤ m) && decide (m ≤ 8)) = true := hw
      have hd : (500 : Int) < ss.length := by omega
      go_enter Try.func13, Try.ntmps13
      go_wp2_with (first | (go_at_call 25; refine (in_any _ _ _ _).mono ?_; rintro e w' ⟨rfl, rfl⟩; rw [e1]))
      go_ret
      exact ⟨rfl, (Below.refl _ _).alloc (Nat.le_refl _) _⟩
    · obtain ⟨n, rfl, h1, h8⟩ := isW_nat hw
      have e1 : (decide (1 ≤ (n : Int)) && decide ((n : Int) ≤ 8)) = true := hw
      have hd : ¬ (500 : Int) < ss.length := by omega
      have HW : Hid (isW (n : Int) = true) := hw
      clear hw
      have hb0 : Below w.heap.size w (w.alloc (.cells #[.int .i64 n, .string rest, .slice a ss.length cap, .bool bad] 32)) := (Below.refl _ _).alloc (Nat.le_refl _) _
      have hq0 := hss1 (.cells #[.int .i64 n, .string rest, .slice a ss.length cap, .bool bad] 32)
      clear hss hss1
      go_enter Try.func13, Try.ntmps13
      go_wp2_with (first | (go_at_call 25; refine (in_any _ _ _ _).mono ?_; rintro e w' ⟨rfl, rfl⟩; rw [e1]))
      go_loop [3] (fun i => ∃ k : Nat, k ≤ ss.length ∧ i = .int .i64 k ∧ ∀ j (hj : j < ss.length), j < k → okS ss[j] = true) (fun i => ss.length - (intOf i).toNat)
      case atStart => exact ⟨0, Nat.zero_le _, rfl, fun j _ hj => by omega⟩
      case round =>
        obtain ⟨k, hk, rfl, hall⟩ := hrel
        have HA : Hid (∀ j (hj : j < ss.length), j < k → okS ss[j] = true) := hall
        clear hall
        by_cases hlt : k < ss.length
        · obtain ⟨b, off, rfl, hc⟩ := hq0.at hlt
          have hck := hc k hlt
          clear hc
          cases hok : okS ss[k]
          · have e2 : (decide ((1 : Int) ≤ (ss[k].size : Int)) && decide ((ss[k].size : Int) ≤ 1000)) = false := by
              have := hok
              simp only [okS] at this
              rw [← this]
              congr 1 <;> (apply decide_eq_decide.2; omega)
            go_wp2_with (first | (go_at_call 25; refine (in_any _ _ _ _).mono ?_; rintro e w' ⟨rfl, rfl⟩; rw [e2]))
            go_ret
            refine ⟨?_, hb0⟩
            rw [show validD n rest ss bad = false by simp [validD, pays_at hlt hok]]
            rfl
          · have hskl := okS_iff.1 hok
            have e2 : (decide ((1 : Int) ≤ (ss[k].size : Int)) && decide ((ss[k].size : Int) ≤ 1000)) = true := by
              simp; omega
            go_wp2_with (first | (go_at_call 25; refine (in_any _ _ _ _).mono ?_; rintro e w' ⟨rfl, rfl⟩; rw [e2]))
            go_round
            case rel =>
              refine ⟨k + 1, by omega, by go_num, fun j hj hjk => ?_⟩
              by_cases hjk' : j < k
              · exact HA.out j hj hjk'
              · obtain rfl : j = k := by omega
                exact hok
            case measure => simp [intOf]; omega
        · have HP : Hid (pays ss = true) := pays_all (by omega) fun j hj => HA.out j hj (by omega)
          cases bad
          · go_wp2_with fail
            refine (l3Front_any rest n _ hr h1 h8).mono ?_
            rintro e w2 ⟨rfl, hb2⟩
            have HV : Hid (validD n rest ss false = isMore (front rest n)) := by
              have : validD n rest ss false = isMore (front rest n) := by simp [validD, HP.out, HW.out]
              exact this
            have hbx : Below w.heap.size w w2 := hb0.trans (hb2.mono hb0.size)
            clear hb2 hb0
            cases hf : front rest n using Front.three with
            | more =>
              rw [hf] at HV
              simp only [frontV]
              go_wp2
              go_ret
              refine ⟨?_, hbx⟩
              rw [HV.out]; rfl
            | bad =>
              rw [hf] at HV
              simp only [frontV]
              go_wp2
              go_ret
              refine ⟨?_, hbx⟩
              rw [HV.out]; rfl
            | whole p q =>
              rw [hf] at HV
              simp only [frontV]
              go_wp2
              go_ret
              refine ⟨?_, hbx⟩
              rw [HV.out]; rfl
          · have HV : Hid (validD n rest ss true = rest.toList.isEmpty) := by
              have : validD n rest ss true = rest.toList.isEmpty := by simp [validD, HP.out, HW.out]
              exact this
            go_wp2
            go_ret
            refine ⟨?_, hb0⟩
            rw [HV.out]; rfl
  · have e : validD m rest ss bad = false := by simp [validD, hw]
    rw [e]
    have e1 : (decide (1 ≤ m) && decide (m ≤ 8)) = false := by simpa [isW] using hw
    clear hw e
    go_enter Try.func13, Try.ntmps13
    go_wp2_with (first | (go_at_call 25; refine (in_any _ _ _ _).mono ?_; rintro e w' ⟨rfl, rfl⟩; rw [e1]))
    go_ret
    exact ⟨rfl, (Below.refl _ _).alloc (Nat.le_refl _) _⟩

theorem owns_mono {w : World} {base b : Nat} {e : TypeId} {size : Nat} {v : Value} {n : Nat} {xs : List Value} (h : w.ownsRow base e size v n xs) (hb : b ≤ base) : w.ownsRow b e size v n xs := by
  refine ⟨h.1, ?_⟩
  rcases h.2 with h' | ⟨g, cap, cur, hv, h1, h2⟩
  · exact .inl h'
  · exact .inr ⟨g, cap, cur, hv, Nat.le_trans hb h1, h2⟩

end Go.Proofs.Ytdlbmjmhlcaalaa
