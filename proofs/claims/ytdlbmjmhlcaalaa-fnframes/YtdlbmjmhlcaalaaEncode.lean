/-
  impl.Encode, spec.Encode.
-/
import Derived.Test.YtdlbmjmhlcaalaaPays
import Derived.Test.YtdlbmjmhlcaalaaShort
import Derived.Test.YtdlbmjmhlcaalaaSpecShort
import Derived.Deep.RegionHeld3
namespace Go.Proofs.Ytdlbmjmhlcaalaa
open Go.RowKit

set_option maxRecDepth 20000 in
set_option maxHeartbeats 1000000 in
theorem implEnc_any (a : Option Addr) (cap : Nat) (ss : List ByteArray) (m : Int) (w : World) (hss : SS w a ss) (hn : ss.length ≤ maxLen) :
    Calls Try.prog 10 #[.slice a ss.length cap, .int .i64 m] w fun e w' => e = .returned (.string (encV ss m)) ∧ Below w.heap.size w w' := by
  obtain ⟨i0, hi, hz0, hz1, hz2⟩ := info_parts Try.infoByte
  by_cases hw : isW m = true
  · cases hp : pays ss
    · have e : encV ss m = ⟨#[]⟩ := by simp [encV, hp]
      rw [e]
      have e1 : (decide (1 ≤ m) && decide (m ≤ 8)) = true := hw
      go_enter Try.func10, Try.ntmps10
      go_wp2_with (first | (go_at_call 28; refine (isw_any _ _).mono ?_; rintro e w' ⟨rfl, rfl⟩; rw [e1]) | (go_at_call 29; refine (arePays_any _ _ _ _ hss hn).mono ?_; rintro e w' ⟨rfl, rfl⟩; rw [hp]))
      go_ret
      exact ⟨rfl, Below.refl _ _⟩
    · have e : encV ss m = ⟨(encL ss m.toNat).toArray⟩ := by simp [encV, hp, hw]
      rw [e]
      obtain ⟨n, rfl, h1, h8⟩ := isW_nat hw
      rw [Int.toNat_natCast]
      obtain ⟨hl5, hsz⟩ := pays_true hp
      have e1 : (decide (1 ≤ (n : Int)) && decide ((n : Int) ≤ 8)) = true := hw
      clear hw e
      go_enter Try.func10, Try.ntmps10
      go_wp2_with (first | (go_at_call 28; refine (isw_any _ _).mono ?_; rintro e w' ⟨rfl, rfl⟩; rw [e1]) | (go_at_call 29; refine (arePays_any _ _ _ _ hss hn).mono ?_; rintro e w' ⟨rfl, rfl⟩; rw [hp]))
      go_loopw [5, 18] (fun v i wr => ∃ k : Nat, k ≤ ss.length ∧ i = .int .i64 k ∧ wr.ownsRow w.heap.size 5 1 v (encL (ss.take k) n).length (bc (encL (ss.take k) n)) ∧ Below w.heap.size w wr) (fun _ i _ => ss.length - (intOf i).toNat)
      case atStart =>
        exact ⟨0, Nat.zero_le _, rfl, ⟨by simp [bc], .inl ⟨rfl, by simp [encL]⟩⟩, Below.refl _ _⟩
      case round =>
        obtain ⟨k, hk, rfl, hown, hb⟩ := hrel
        have hbs := hb.size
        by_cases hlt : k < ss.length
        · obtain ⟨b, off, rfl, hc⟩ := (hss.below hb).at hlt
          have hck := hc k hlt
          have hskl := hsz ss[k] (List.getElem_mem hlt)
          have hlen := encL_len (ss.take k) n (fun s hs => (hsz s (List.mem_of_mem_take hs)).2) h8
          rw [List.length_take, Nat.min_eq_left hk] at hlen
          have HT : Hid (encL (ss.take (k + 1)) n = encL (ss.take k) n ++ frameL ss[k] n) := encL_take ss n k hlt
          have hsl := shortL_le (n := ss[k].size) (by omega)
          have hsl2 : (shortL ss[k].size ++ ss[k].data.toList).length = (shortL ss[k].size).length + ss[k].size := by
            rw [List.length_append, Array.length_toList]; rfl
          have hsum : (sumStr ss[k].data.toList n).size = n := by unfold sumStr; rw [strOfNums_size, sumL_len]
          generalize hE : encL (ss.take k) n = E at *
          clear hc hE
          go_wp2_with (first | (go_at_call 30; refine (appendText_any _ _ w.heap.size _ ss[k] _ hown (by omega) (by omega) hbs).mono ?_; rintro e w1 ⟨v1, rfl, hown1, hg1⟩) | (go_at_call 31; refine (implSum_any ss[k] n w1 (by unfold maxLen; omega) h1 h8).mono ?_; rintro e w2 ⟨rfl, hb2⟩; have hown2 := owns_below hown1 hb2; have hbs2 := hb2.size; have hgs := hg1.size) | (at_builtin; refine Go.Lib.wpList_append_own_string _ rfl _ _ 39 9 rfl w.heap.size 5 i0 Try.underlying39 Try.underlying9 hi hz0 hz1 hz2 _ _ _ rfl hown2 (sumStr ss[k].data.toList n) rfl (by unfold maxLen; omega) (by omega) (by omega) ?_; intro v3 w3 hown3 hgrow3 _))
          go_roundw
          case rel =>
            refine ⟨k + 1, by omega, by go_num, ?_, ?_⟩
            · have e1 : (E ++ frameL ss[k] n).length = E.length + (shortL ss[k].size ++ ss[k].data.toList).length + (sumStr ss[k].data.toList n).size := by
                unfold frameL
                rw [List.length_append, List.length_append, sum_len, hsum, Nat.add_assoc]
              have e2 : bc (E ++ frameL ss[k] n) = bc E ++ bc (shortL ss[k].size ++ ss[k].data.toList) ++ bc (sumStr ss[k].data.toList n).data.toList := by
                unfold frameL
                rw [bc_append, bc_append (shortL ss[k].size ++ ss[k].data.toList), List.append_assoc]
              rw [HT.out, e1, e2]
              exact hown3
            · have hx1 := hb.grown hg1 hbs (owns_base hown)
              have hx2 := hx1.trans (hb2.mono (Nat.le_trans hbs hgs))
              exact hx2.grown hgrow3 hx2.size (owns_base hown2)
          case measure => simp [intOf]; omega
        · obtain rfl : k = ss.length := by omega
          rw [List.take_length] at hown
          have hcv := conv_back rfl rfl hown
          go_wp2
          go_ret
          exact ⟨rfl, hb⟩
  · have e : encV ss m = ⟨#[]⟩ := by simp [encV, hw]
    rw [e]
    have e1 : (decide (1 ≤ m) && decide (m ≤ 8)) = false := by simpa [isW] using hw
    clear hw e
    go_enter Try.func10, Try.ntmps10
    go_wp2_with (first | (go_at_call 28; refine (isw_any _ _).mono ?_; rintro e w' ⟨rfl, rfl⟩; rw [e1]))
    go_ret
    exact ⟨rfl, Below.refl _ _⟩

set_option maxRecDepth 20000 in
set_option maxHeartbeats 1000000 in
theorem specEnc_any (a : Option Addr) (cap : Nat) (ss : List ByteArray) (m : Int) (w : World) (hss : SS w a ss) (hn : ss.length ≤ maxLen) :
    Calls Try.prog 8 #[.slice a ss.length cap, .int .i64 m] w fun e w' => e = .returned (.string (encV ss m)) ∧ Below w.heap.size w w' := by
  obtain ⟨i0, hi, hz0, hz1, hz2⟩ := info_parts Try.infoByte
  unfold maxLen at hn
  by_cases hw : isW m = true
  · by_cases hl : 500 < ss.length
    · have e : encV ss m = ⟨#[]⟩ := by simp [encV, pays_long hl]
      rw [e]
      have e1 : (decide (1 ≤ m) && decide (m ≤ 8)) = true := hw
      have hd : (500 : Int) < ss.length := by omega
      go_enter Try.func8, Try.ntmps8
      go_wp2_with (first | (go_at_call 25; refine (in_any _ _ _ _).mono ?_; rintro e w' ⟨rfl, rfl⟩; rw [e1]))
      go_ret
      exact ⟨rfl, Below.refl _ _⟩
    · obtain ⟨n, rfl, h1, h8⟩ := isW_nat hw
      have e1 : (decide (1 ≤ (n : Int)) && decide ((n : Int) ≤ 8)) = true := hw
      have hd : ¬ (500 : Int) < ss.length := by omega
      have HW : Hid (isW (n : Int) = true) := hw
      clear hw
      go_enter Try.func8, Try.ntmps8
      go_wp2_with (first | (go_at_call 25; refine (in_any _ _ _ _).mono ?_; rintro e w' ⟨rfl, rfl⟩; rw [e1]))
      go_loopw [5, 6] (fun v i wr => ∃ k : Nat, k ≤ ss.length ∧ i = .int .i64 k ∧ wr.ownsRow w.heap.size 5 1 v (encL (ss.take k) n).length (bc (encL (ss.take k) n)) ∧ Below w.heap.size w wr ∧ (∀ j (hj : j < ss.length), j < k → okS ss[j] = true)) (fun _ i _ => ss.length - (intOf i).toNat)
      case atStart =>
        exact ⟨0, Nat.zero_le _, rfl, ⟨by simp [bc], .inr ⟨w.heap.size, 0, #[], rfl, Nat.le_refl _, heap_alloc_new w _, Nat.le_refl _, by unfold maxLen; omega, rfl, by simp [bc, encL]⟩⟩, (Below.refl _ _).alloc (Nat.le_refl _) _, fun j _ hj => by omega⟩
      case round =>
        obtain ⟨k, hk, rfl, hown, hb, hall⟩ := hrel
        have HA : Hid (∀ j (hj : j < ss.length), j < k → okS ss[j] = true) := hall
        clear hall
        have hbs := hb.size
        by_cases hlt : k < ss.length
        · obtain ⟨b, off, rfl, hc⟩ := hss.at hlt
          have hck0 := hc k hlt
          have hck := cell_later hb hck0
          have hlen := encL_len (ss.take k) n (fun s hs => by
            obtain ⟨j, hj, rfl⟩ := List.getElem_of_mem hs
            rw [List.length_take] at hj
            rw [List.getElem_take]
            exact (okS_iff.1 (HA.out j (by omega) (by omega))).2) h8
          rw [List.length_take, Nat.min_eq_left hk] at hlen
          have HT : Hid (encL (ss.take (k + 1)) n = encL (ss.take k) n ++ frameL ss[k] n) := encL_take ss n k hlt
          have hsum : (sumStr ss[k].data.toList n).size = n := by unfold sumStr; rw [strOfNums_size, sumL_len]
          generalize hE : encL (ss.take k) n = E at *
          clear hc hE
          cases hok : okS ss[k]
          · have e2 : (decide ((1 : Int) ≤ (ss[k].size : Int)) && decide ((ss[k].size : Int) ≤ 1000)) = false := by
              have := hok
              simp only [okS] at this
              rw [← this]
              congr 1 <;> (apply decide_eq_decide.2; omega)
            go_wp2_with (first | (go_at_call 25; refine (in_any _ _ _ _).mono ?_; rintro e w' ⟨rfl, rfl⟩; rw [e2]))
            go_ret
            refine ⟨?_, hb⟩
            rw [show encV ss n = ⟨#[]⟩ by simp [encV, pays_at hlt hok]]
            rfl
          · have hskl := okS_iff.1 hok
            have e2 : (decide ((1 : Int) ≤ (ss[k].size : Int)) && decide ((ss[k].size : Int) ≤ 1000)) = true := by
              simp; omega
            have hsl := shortL_le (n := ss[k].size) (by omega)
            have hsl2 : (shortL ss[k].size ++ ss[k].data.toList).length = (shortL ss[k].size).length + ss[k].size := by
              rw [List.length_append, Array.length_toList]; rfl
            go_wp2_with (first | (go_at_call 25; refine (in_any _ _ _ _).mono ?_; rintro e w' ⟨rfl, rfl⟩; rw [e2]))
            refine (l2Text_any ss[k] wr (by omega)).mono ?_
            rintro e w1 ⟨rfl, hb1⟩
            have hown1 := owns_below hown hb1
            have hbx1 := hb.trans (hb1.mono hbs)
            have hbs1 := hbx1.size
            have hT : (⟨(shortL ss[k].size ++ ss[k].data.toList).toArray⟩ : ByteArray).size = (shortL ss[k].size).length + ss[k].size := hsl2
            go_wp2_with (at_builtin; refine Go.Lib.wpList_append_own_string _ rfl _ _ 39 9 rfl w.heap.size 5 i0 Try.underlying39 Try.underlying9 hi hz0 hz1 hz2 _ _ _ rfl hown1 ⟨(shortL ss[k].size ++ ss[k].data.toList).toArray⟩ rfl (by unfold maxLen; omega) (by omega) (by omega) ?_; intro v2 w2 hown2 hgrow2 _; have hbx2 := hbx1.grown hgrow2 hbs1 (owns_base hown1); have hck2 := cell_later hbx2 hck0)
            have hbs2 := hbx2.size
            refine (specSum_any ss[k] n w2 (by unfold maxLen; omega) h1 h8).mono ?_
            rintro e w3 ⟨rfl, hb3⟩
            have hown3 := owns_below hown2 hb3
            have hbx3 := hbx2.trans (hb3.mono hbs2)
            have hbs3 := hbx3.size
            go_wp2_with (at_builtin; refine Go.Lib.wpList_append_own_string _ rfl _ _ 39 9 rfl w.heap.size 5 i0 Try.underlying39 Try.underlying9 hi hz0 hz1 hz2 _ _ _ rfl hown3 (sumStr ss[k].data.toList n) rfl (by unfold maxLen; omega) (by omega) (by omega) ?_; intro v4 w4 hown4 hgrow4 _)
            go_roundw
            case rel =>
              refine ⟨k + 1, by omega, by go_num, ?_, hbx3.grown hgrow4 hbs3 (owns_base hown3), fun j hj hjk => ?_⟩
              · have e1 : (E ++ frameL ss[k] n).length = E.length + (shortL ss[k].size ++ ss[k].data.toList).length + (sumStr ss[k].data.toList n).size := by
                  unfold frameL
                  rw [List.length_append, List.length_append, sum_len, hsum, Nat.add_assoc]
                have e2 : bc (E ++ frameL ss[k] n) = bc E ++ bc (shortL ss[k].size ++ ss[k].data.toList) ++ bc (sumStr ss[k].data.toList n).data.toList := by
                  unfold frameL
                  rw [bc_append, bc_append (shortL ss[k].size ++ ss[k].data.toList), List.append_assoc]
                rw [HT.out, e1, e2]
                exact hown4
              · by_cases hjk' : j < k
                · exact HA.out j hj hjk'
                · obtain rfl : j = k := by omega
                  exact hok
            case measure => simp [intOf]; omega
        · obtain rfl : k = ss.length := by omega
          rw [List.take_length] at hown
          have hcv := conv_back rfl rfl hown
          go_wp2
          go_ret
          refine ⟨?_, hb⟩
          have hp : pays ss = true := pays_all (by omega) fun j hj => HA.out j hj hj
          rw [show encV ss n = ⟨(encL ss n).toArray⟩ by simp [encV, hp, HW.out]]
          rfl
  · have e : encV ss m = ⟨#[]⟩ := by simp [encV, hw]
    rw [e]
    have e1 : (decide (1 ≤ m) && decide (m ≤ 8)) = false := by simpa [isW] using hw
    clear hw e
    go_enter Try.func8, Try.ntmps8
    go_wp2_with (first | (go_at_call 25; refine (in_any _ _ _ _).mono ?_; rintro e w' ⟨rfl, rfl⟩; rw [e1]))
    go_ret
    exact ⟨rfl, Below.refl _ _⟩
end Go.Proofs.Ytdlbmjmhlcaalaa
