/-
  Clash: what it is ('ClashR'), that it is one answer, and the contracts of spec.Clash and impl.Clash.
-/
import Derived.Test.YtnobhmljhijhcaaBase
import Derived.Test.YtnobhmljhijhcaaSums
import Derived.Test.YtnobhmljhijhcaaStrs
import Derived.Test.YtnobhmljhijhcaaClone
import Derived.Deep.QuietTactic
import Derived.BigQuiet
import Derived.Maps.OwnSet
namespace Go.Proofs.Ytnobhmljhijhcaa
open Go.RowKit

section
variable (K : ByteArray → ByteArray) (ss : List ByteArray)

def NoHit (m : Nat) : Prop := ∀ i j (h : j < ss.length) (hij : i < j), j < m → K (ss[i]'(by omega)) = K ss[j] → (ss[i]'(by omega)) = ss[j]

def ClashR (x y : ByteArray) (b : Bool) : Prop :=
  (b = false ∧ x = ⟨#[]⟩ ∧ y = ⟨#[]⟩ ∧ NoHit K ss ss.length) ∨
  (b = true ∧ ∃ i j, ∃ (h : j < ss.length) (hij : i < j), x = ss[i]'(by omega) ∧ y = ss[j] ∧ K x = K y ∧ x ≠ y ∧ NoHit K ss j)

theorem ClashR.one {x y x' y' : ByteArray} {b b' : Bool} (h : ClashR K ss x y b) (h' : ClashR K ss x' y' b') : x = x' ∧ y = y' ∧ b = b' := by
  rcases h with ⟨rfl, rfl, rfl, hn⟩ | ⟨rfl, i, j, hj, hij, rfl, rfl, hk, hne, hn⟩ <;> rcases h' with ⟨rfl, rfl, rfl, hn'⟩ | ⟨rfl, i', j', hj', hij', rfl, rfl, hk', hne', hn'⟩
  · exact ⟨rfl, rfl, rfl⟩
  · exact absurd (hn i' j' hj' hij' hj' hk') hne'
  · exact absurd (hn' i j hj hij hj hk) hne
  · have e : j = j' := by
      rcases Nat.lt_trichotomy j j' with h | h | h
      · exact absurd (hn' i j hj hij h hk) hne
      · exact h
      · exact absurd (hn i' j' hj' hij' h hk') hne'
    subst e
    refine ⟨?_, rfl, rfl⟩
    rcases Nat.lt_trichotomy i i' with h | h | h
    · exact hn i i' (by omega) h hij' (hk.trans hk'.symm)
    · subst h; rfl
    · exact (hn i' i (by omega) h hij (hk'.trans hk.symm)).symm

theorem noHit_zero : NoHit K ss 0 := fun _ _ _ _ h => absurd h (by omega)
theorem noHit_succ (k : Nat) (hk : k < ss.length) (h : NoHit K ss k) (h2 : ∀ i (hi : i < k), K (ss[i]'(by omega)) = K ss[k] → (ss[i]'(by omega)) = ss[k]) : NoHit K ss (k + 1) := by
  intro i j hj hij hjk he
  by_cases e : j = k
  · subst e; exact h2 i hij he
  · exact h i j hj hij (by omega) he
end

theorem strs_snoc (K : ByteArray → ByteArray) (ss : List ByteArray) (k : Nat) (h : k < ss.length) : (ss.take k).map (fun s => Value.string (K s)) ++ [.string (K ss[k])] = (ss.take (k + 1)).map (fun s => Value.string (K s)) := by
  rw [List.take_succ_eq_append_getElem h, List.map_append]; rfl

theorem owns_shape {w : World} {base : Nat} {e : TypeId} {size : Nat} {v : Value} {n : Nat} {xs : List Value} (h : w.ownsRow base e size v n xs) (hn : 0 < n) : ∃ g cap, v = .slice (some ⟨g, 0, none⟩) n cap := by
  rcases h.2 with ⟨_, h0⟩ | ⟨g, cap, cur, hv, _⟩
  · omega
  · exact ⟨g, cap, hv⟩

theorem owns_drewN {w : World} {base : Nat} {e : TypeId} {size : Nat} {v : Value} {n : Nat} {xs : List Value} (h : w.ownsRow base e size v n xs) (m : Nat) : (w.drewN m).ownsRow base e size v n xs :=
  owns_below h (below_drewN (Below.refl _ _) m)


set_option maxHeartbeats 2000000 in
theorem specClash_any (a : Option Addr) (cap : Nat) (ss : List ByteArray) (n : Nat) (w : World) (hss : SS w a ss) (hn : ss.length ≤ 3000) (h1 : 1 ≤ n) (h8 : n ≤ 8) (hm : ∀ s ∈ ss, s.size ≤ maxLen) :
    Calls Try.prog 16 #[.slice a ss.length cap, .int .i64 n] w fun e w' => ∃ x y b, e = .returned (.tuple #[.string x, .string y, .bool b]) ∧ ClashR (fun s => sumStr s.data.toList n) ss x y b ∧ Below w.heap.size w w' := by
  have e1 : (decide (1 ≤ (n : Int)) && decide ((n : Int) ≤ 8)) = true := by simp; omega
  have e2 : decide ((3000 : Int) < ss.length) = false := by simp; omega
  obtain ⟨i0, hi, hz0, hz1, hz2⟩ := info_parts Try.infoStr
  go_enter Try.func16, Try.ntmps16
  go_wp2_with (first | (go_at_call 12; refine (in_any _ _ _ _).mono ?_; rintro e w' ⟨rfl, rfl⟩; rw [e1]))
  go_loopw [7, 8] (fun v j wr => ∃ k : Nat, k ≤ ss.length ∧ j = .int .i64 k ∧ wr.ownsRow w.heap.size 9 1 v k ((ss.take k).map fun s => Value.string (sumStr s.data.toList n)) ∧ NoHit (fun s => sumStr s.data.toList n) ss k ∧ Below w.heap.size w wr) (fun _ j _ => ss.length - (intOf j).toNat)
  case atStart =>
    refine ⟨0, Nat.zero_le _, rfl, ?_, noHit_zero _ _, (Below.refl _ _).alloc (Nat.le_refl _) _⟩
    exact ⟨by simp, .inr ⟨w.heap.size, 0, #[], rfl, Nat.le_refl _, heap_alloc_new w _, Nat.le_refl _, by unfold maxLen; omega, rfl, by simp⟩⟩
  case round =>
    obtain ⟨k, hk, rfl, hown, hno, hb⟩ := hrel
    by_cases hlt : k < ss.length
    · obtain ⟨b, off, rfl, hc⟩ := hss.at hlt
      have hck := cell_later hb (hc k hlt)
      have hsz := hm ss[k] (List.getElem_mem hlt)
      go_wp2_with (go_at_call 5; refine (specSum_any _ _ _ hsz h1 h8).mono ?_; rintro e w1 ⟨rfl, hb1⟩)
      have hown1 := owns_below hown hb1
      have hbx := hb.trans (hb1.mono hb.size)
      clear hck hown
      go_loopw [10] (fun i wr2 => ∃ q : Nat, q ≤ k ∧ i = .int .i64 q ∧ wr2.ownsRow w.heap.size 9 1 u7 k ((ss.take k).map fun s => Value.string (sumStr s.data.toList n)) ∧ (∀ i (hi : i < q) (hik : i < k), sumStr (ss[i]'(by omega)).data.toList n = sumStr ss[k].data.toList n → (ss[i]'(by omega)) = ss[k]) ∧ Below w.heap.size w wr2) (fun i _ => k - (intOf i).toNat)
      case atStart => exact ⟨0, Nat.zero_le _, rfl, hown1, fun i hi => absurd hi (by omega), hbx⟩
      case round =>
        obtain ⟨q, hq, rfl, hown2, hno2, hb2⟩ := hrel
        by_cases hqk : q < k
        · obtain ⟨g, cp, rfl⟩ := owns_shape hown2 (by omega)
          have hcq := cell_later hb2 (hc q (by omega))
          have hckk := cell_later hb2 (hc k hlt)
          have hcs := hown2.cellAt q (by omega)
          rw [List.getElem?_map, List.getElem?_take_of_lt hqk, List.getElem?_eq_getElem (by omega), Option.map_some] at hcs
          have HQ : Hid ((∀ i (hi : i < q + 1) (hik : i < k), sumStr (ss[i]'(by omega)).data.toList n = sumStr ss[k].data.toList n → (ss[i]'(by omega)) = ss[k]) ∨ (sumStr (ss[q]'(by omega)).data.toList n = sumStr ss[k].data.toList n ∧ (ss[q]'(by omega)) ≠ ss[k])) := by
            by_cases hx : sumStr (ss[q]'(by omega)).data.toList n = sumStr ss[k].data.toList n ∧ (ss[q]'(by omega)) ≠ ss[k]
            · exact .inr hx
            · refine .inl fun i hi hik e => ?_
              by_cases hiq : i = q
              · subst hiq
                by_cases hy : (ss[i]'(by omega)) = ss[k]
                · exact hy
                · exact absurd ⟨e, hy⟩ hx
              · exact hno2 i (by omega) hik e
          by_cases he : sumStr (ss[q]'(by omega)).data.toList n = sumStr ss[k].data.toList n
          · have heB := bs_same he
            by_cases hd : (ss[q]'(by omega)) = ss[k]
            · have hdB := bs_same hd
              have HP : Hid (∀ i (hi : i < q + 1) (hik : i < k), sumStr (ss[i]'(by omega)).data.toList n = sumStr ss[k].data.toList n → (ss[i]'(by omega)) = ss[k]) := HQ.out.resolve_right fun h => h.2 hd
              clear hno2 hown1 hc he hd HQ
              go_wp2
              go_quiet (fail)
              go_wp2
              go_roundw
              case rel => exact ⟨q + 1, by omega, by go_num, owns_drewN hown2 nq, HP.out, below_drewN hb2 nq⟩
              case measure => simp [intOf]; omega
            · have hdB := bs_diff hd
              have HP : Hid (sumStr (ss[q]'(by omega)).data.toList n = sumStr ss[k].data.toList n ∧ (ss[q]'(by omega)) ≠ ss[k]) := ⟨he, hd⟩
              clear hno2 hown1 hc he hd HQ
              go_wp2
              go_quiet (fail)
              go_wp2
              go_quiet (fail)
              go_wp2
              go_ret3
              exact ⟨_, _, _, rfl, .inr ⟨rfl, q, k, hlt, hqk, rfl, rfl, HP.out.1, HP.out.2, hno⟩, below_drewN (below_drewN hb2 _) _⟩
          · have heB := bs_diff he
            have HP : Hid (∀ i (hi : i < q + 1) (hik : i < k), sumStr (ss[i]'(by omega)).data.toList n = sumStr ss[k].data.toList n → (ss[i]'(by omega)) = ss[k]) := HQ.out.resolve_right fun h => he h.1
            clear hno2 hown1 hc he HQ
            go_wp2
            go_quiet (fail)
            go_wp2
            go_roundw
            case rel => exact ⟨q + 1, by omega, by go_num, owns_drewN hown2 nq, HP.out, below_drewN hb2 nq⟩
            case measure => simp [intOf]; omega
        · obtain rfl : q = k := by omega
          have HN : Hid (NoHit (fun s => sumStr s.data.toList n) ss (q + 1)) := noHit_succ _ _ q hlt hno fun i hi e => hno2 i hi hi e
          clear hno hno2 hown1 hc
          go_wp2_with (first | (at_builtin; refine wpList_append_own _ rfl _ _ 24 rfl w.heap.size 9 i0 _ 1 16 Try.underlying24 hi hz0 hz1 hz2 rfl (by decide) _ _ _ rfl (hown2.alloc _) ⟨wr.heap.size, 0, none⟩ 1 1 [.string (sumStr ss[q].data.toList n)] rfl rfl (cell_one_new _ _ _) (by simp [Value.oneCell']) (by unfold maxLen; omega) (by omega) (by simp; exact Nat.le_trans hb2.size (by omega)) ?_; intro v' w2 hown' hgrow _))
          rw [strs_snoc _ _ _ hlt] at hown'
          go_roundw
          case rel => exact ⟨q + 1, by omega, by go_num, hown', HN.out, (hb2.alloc hb2.size _).grown hgrow (by simp; exact Nat.le_trans hb2.size (by omega)) (fun j hj => owns_row_ge hown2 hj)⟩
          case measure => simp [intOf]; omega
    · obtain rfl : k = ss.length := by omega
      go_wp2
      go_ret3
      exact ⟨_, _, _, rfl, .inl ⟨rfl, rfl, rfl, hno⟩, hb⟩

set_option maxHeartbeats 2000000 in
theorem specClash_no (a : Option Addr) (cap n : Nat) (m : Int) (w : World) (h : isW m = false ∨ 3000 < n) :
    Calls Try.prog 16 #[.slice a n cap, .int .i64 m] w fun e w' => e = .returned (.tuple #[.string ⟨#[]⟩, .string ⟨#[]⟩, .bool false]) ∧ Below w.heap.size w w' := by
  by_cases h1 : isW m = false
  · have e1 : (decide (1 ≤ m) && decide (m ≤ 8)) = false := h1
    go_enter Try.func16, Try.ntmps16
    go_wp2_with (first | (go_at_call 12; refine (in_any _ _ _ _).mono ?_; rintro e w' ⟨rfl, rfl⟩; rw [e1]))
    go_ret3
    exact ⟨rfl, Below.refl _ _⟩
  · have e1 : (decide (1 ≤ m) && decide (m ≤ 8)) = true := by simpa [isW] using h1
    have e2 : decide ((3000 : Int) < n) = true := by
      rcases h with h | h
      · exact absurd h h1
      · simp; omega
    go_enter Try.func16, Try.ntmps16
    go_wp2_with (first | (go_at_call 12; refine (in_any _ _ _ _).mono ?_; rintro e w' ⟨rfl, rfl⟩; rw [e1]))
    go_ret3
    exact ⟨rfl, Below.refl _ _⟩

set_option maxHeartbeats 2000000 in
theorem implClash_no (a : Option Addr) (cap n : Nat) (m : Int) (w : World) (h : isW m = false ∨ 3000 < n) :
    Calls Try.prog 18 #[.slice a n cap, .int .i64 m] w fun e w' => e = .returned (.tuple #[.string ⟨#[]⟩, .string ⟨#[]⟩, .bool false]) ∧ Below w.heap.size w w' := by
  by_cases h1 : isW m = false
  · have e1 : (decide (1 ≤ m) && decide (m ≤ 8)) = false := h1
    go_enter Try.func18, Try.ntmps18
    go_wp2_with (first | (go_at_call 13; refine (isw_any _ _).mono ?_; rintro e w' ⟨rfl, rfl⟩; rw [e1]))
    go_ret3
    exact ⟨rfl, Below.refl _ _⟩
  · have e1 : (decide (1 ≤ m) && decide (m ≤ 8)) = true := by simpa [isW] using h1
    have e2 : decide ((3000 : Int) < n) = true := by
      rcases h with h | h
      · exact absurd h h1
      · simp; omega
    go_enter Try.func18, Try.ntmps18
    go_wp2_with (first | (go_at_call 13; refine (isw_any _ _).mono ?_; rintro e w' ⟨rfl, rfl⟩; rw [e1]))
    go_ret3
    exact ⟨rfl, Below.refl _ _⟩
end Go.Proofs.Ytnobhmljhijhcaa
