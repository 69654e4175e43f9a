/-
  spec.l4PartOk, l4Ok, ValidPath, ValidGlob.
-/
import Derived.Test.YtockgapdfcapnaaSpecParts
import Derived.Test.YtockgapdfcapnaaPartOk
namespace Go.Proofs.Ytockgapdfcapnaa
open Go.RowKit

/-- A row of texts that is owned, cell by cell. -/
theorem own_cell {w : World} {B : Nat} {ad : Option Addr} {cp : Nat} {ss : List ByteArray} (h : w.ownsRow B 9 1 (.slice ad ss.length cp) ss.length (ss.map .string)) (k : Nat) (hk : k < ss.length) :
    ∃ b, ad = some ⟨b, 0, none⟩ ∧ w.cell? ⟨b, k, none⟩ = some (.string ss[k]) := by
  rcases h.2 with ⟨h1, h2⟩ | ⟨g, cap, cur, hv, h1, h2, h3, h4, h5, h6⟩
  · omega
  · cases hv
    refine ⟨g, rfl, ?_⟩
    rw [World.ownsRow.cellAt h k (by omega)]
    simp [hk]

theorem l1In_any (n a b : Int) (w : World) :
    Calls Try.prog 29 #[.int .i64 n, .int .i64 a, .int .i64 b] w fun e w' => e = .returned (.bool (decide (a ≤ n) && decide (n ≤ b))) ∧ w = w' := by
  by_cases h1 : a ≤ n
  · by_cases h2 : n ≤ b
    · go_enter Try.func29, Try.ntmps29
      go_wp2
      go_ret
      exact ⟨by simp [h1, h2], rfl⟩
    · go_enter Try.func29, Try.ntmps29
      go_wp2
      go_ret
      exact ⟨by simp [h2], rfl⟩
  · go_enter Try.func29, Try.ntmps29
    go_wp2
    go_ret
    exact ⟨by have : ¬ a ≤ n := by omega
              simp [this], rfl⟩

def pOf (g : Bool) : Int → Bool := if g = true then globB else pathB

theorem pOf_low {g : Bool} {c : Int} (h : c < 33) : pOf g c = false := by
  have : ¬ 33 ≤ c := by omega
  cases g <;> simp [pOf, pathB, globB, this]
theorem pOf_high {g : Bool} {c : Int} (h : 126 < c) : pOf g c = false := by
  have : ¬ c ≤ 126 := by omega
  cases g <;> simp [pOf, pathB, globB, this]
theorem pOf_47 {g : Bool} {c : Int} (h : (c == 47) = true) : pOf g c = false := by
  cases g <;> simp [pOf, pathB, globB, h]
theorem pOf_34 {g : Bool} {c : Int} (h : (c == 34) = true) : pOf g c = false := by
  cases g <;> simp [pOf, pathB, globB, h]
theorem pOf_42 {c : Int} (h : (c == 42) = true) : pOf false c = false := by simp [pOf, pathB, h]
theorem pOf_63 {c : Int} (h : (c == 63) = true) : pOf false c = false := by simp [pOf, pathB, h]
theorem pOf_glob {c : Int} (h1 : ¬ c < 33) (h2 : ¬ 126 < c) (h3 : (c == 47) = false) (h4 : (c == 34) = false) : pOf true c = true := by
  have a1 : 33 ≤ c := by omega
  have a2 : c ≤ 126 := by omega
  simp [pOf, globB, a1, a2, h3, h4]
theorem pOf_path {c : Int} (h1 : ¬ c < 33) (h2 : ¬ 126 < c) (h3 : (c == 47) = false) (h4 : (c == 34) = false) (h5 : (c == 42) = false) (h6 : (c == 63) = false) : pOf false c = true := by
  have a1 : 33 ≤ c := by omega
  have a2 : c ≤ 126 := by omega
  simp [pOf, pathB, globB, a1, a2, h3, h4, h5, h6]

def PkPost (g : Bool) (s : ByteArray) (w : World) (e : Ending) (w' : World) : Prop := e = .returned (.bool (partOk (pOf g) s)) ∧ w = w'

set_option maxRecDepth 100000 in
set_option maxHeartbeats 4000000 in
theorem l4PartOk_any (g : Bool) (s : ByteArray) (w : World) :
    Calls Try.prog 84 #[.string s, .bool g] w fun e w' => PkPost g s w e w' := by
  by_cases h1 : (decide ((1 : Int) ≤ s.size) && decide ((s.size : Int) ≤ 20)) = false
  · go_enter Try.func84, Try.ntmps84
    go_wp2_with (go_at_call 29; refine (l1In_any _ _ _ _).mono ?_; rintro e w' ⟨rfl, rfl⟩; rw [h1])
    go_ret
    refine ⟨retB ?_, rfl⟩
    by_cases a : 1 ≤ s.size
    · have b : ¬ s.size ≤ 20 := by
        intro b
        have a' : (1 : Int) ≤ s.size := by omega
        have b' : (s.size : Int) ≤ 20 := by omega
        simp [a', b'] at h1
      simp [partOk, b]
    · simp [partOk, a]
  have h1' : (decide ((1 : Int) ≤ s.size) && decide ((s.size : Int) ≤ 20)) = true := by simpa using h1
  clear h1
  by_cases h3 : s.toList = [46]
  · go_enter Try.func84, Try.ntmps84
    go_wp2_with (go_at_call 29; refine (l1In_any _ _ _ _).mono ?_; rintro e w' ⟨rfl, rfl⟩; rw [h1'])
    go_ret
    exact ⟨retB (by simp [partOk, h3]), rfl⟩
  by_cases h4 : s.toList = [46, 46]
  · go_enter Try.func84, Try.ntmps84
    go_wp2_with (go_at_call 29; refine (l1In_any _ _ _ _).mono ?_; rintro e w' ⟨rfl, rfl⟩; rw [h1'])
    go_ret
    exact ⟨retB (by simp [partOk, h4]), rfl⟩
  have hall : partOk (pOf g) s = s.data.toList.all (fun c => pOf g (c.toNat : Int)) := by
    simp only [Bool.and_eq_true, decide_eq_true_eq] at h1'
    have a1 : 1 ≤ s.size := by omega
    have a2 : s.size ≤ 20 := by omega
    simp [partOk, a1, a2, h3, h4]
  have HA : Keep (partOk (pOf g) s = s.data.toList.all (fun c => pOf g (c.toNat : Int))) := ⟨hall⟩
  have hb3 : (s.toList == [46]) = false := by simp [h3]
  have hb4 : (s.toList == [46, 46]) = false := by simp [h4]
  have hs : s.size ≤ 20 := by simp at h1'; omega
  clear h3 h4 hall
  go_enter Try.func84, Try.ntmps84
  go_wp2_with (go_at_call 29; refine (l1In_any _ _ _ _).mono ?_; rintro e w' ⟨rfl, rfl⟩; rw [h1'])
  clear h1'
  go_loopw [5] (fun i wr => ∃ k : Nat, i = .int .i64 k ∧ w = wr ∧ okTo (pOf g) s k ∧ k ≤ s.size) (fun i _ => s.size - (intOf i).toNat)
  case atStart => exact ⟨0, rfl, rfl, fun k _ hk => absurd hk (by omega), Nat.zero_le _⟩
  case round =>
    obtain ⟨k, rfl, rfl, hok, hks⟩ := hrel
    by_cases hlt : k < s.size
    · have hlt' : (k : Int) < s.size := by omega
      by_cases a1 : (s[k].toNat : Int) < 33
      · go_wp2
        go_ret
        exact ⟨retB (by rw [HA.out, all_not _ s k hlt (pOf_low a1)]), rfl⟩
      by_cases a2 : 126 < (s[k].toNat : Int)
      · go_wp2
        go_ret
        exact ⟨retB (by rw [HA.out, all_not _ s k hlt (pOf_high a2)]), rfl⟩
      cases a3 : ((s[k].toNat : Int) == 47) with
      | true =>
        go_wp2
        go_ret
        exact ⟨retB (by rw [HA.out, all_not _ s k hlt (pOf_47 a3)]), rfl⟩
      | false =>
        cases a4 : ((s[k].toNat : Int) == 34) with
        | true =>
          go_wp2
          go_ret
          exact ⟨retB (by rw [HA.out, all_not _ s k hlt (pOf_34 a4)]), rfl⟩
        | false =>
          have hon : ∀ h : pOf g (s[k].toNat : Int) = true, okTo (pOf g) s (k + 1) := fun h j hj hlt => by
            by_cases e : j = k
            · subst e; exact h
            · exact hok j hj (by omega)
          cases g with
          | true =>
            have hok2 := hon (pOf_glob a1 a2 a3 a4)
            clear hon
            go_wp2
            go_roundw
            case rel => exact ⟨k + 1, by congr 1, trivial, hok2, by omega⟩
            case measure => simp only [intOf]; omega
          | false =>
            cases a5 : ((s[k].toNat : Int) == 42) with
            | true =>
              clear hon
              go_wp2
              go_ret
              exact ⟨retB (by rw [HA.out, all_not _ s k hlt (pOf_42 a5)]), rfl⟩
            | false =>
              cases a6 : ((s[k].toNat : Int) == 63) with
              | true =>
                clear hon
                go_wp2
                go_ret
                exact ⟨retB (by rw [HA.out, all_not _ s k hlt (pOf_63 a6)]), rfl⟩
              | false =>
                have hok2 := hon (pOf_path a1 a2 a3 a4 a5 a6)
                clear hon
                go_wp2
                go_roundw
                case rel => exact ⟨k + 1, by congr 1, trivial, hok2, by omega⟩
                case measure => simp only [intOf]; omega
    · have hk : k = s.size := by omega
      have HO : Keep (s.data.toList.all (fun c => pOf g (c.toNat : Int)) = true) := ⟨all_okTo _ s (hk ▸ hok)⟩
      clear hok hk
      go_wp2
      go_ret
      exact ⟨retB (by rw [HA.out, HO.out]), rfl⟩

theorem pathOk_long {p : Int → Bool} {s : ByteArray} (h : 126 < s.size) : pathOk p s = false := by
  cases e : pathOk p s with
  | false => rfl
  | true => have := pathOk_size e; omega

def OkPost (g : Bool) (s : ByteArray) (w : World) (e : Ending) (w' : World) : Prop :=
  e = .returned (.bool (pathOk (pOf g) s)) ∧ Below w.heap.size w w'

set_option maxRecDepth 100000 in
set_option maxHeartbeats 4000000 in
theorem l4Ok_any (g : Bool) (s : ByteArray) (w : World) :
    Calls Try.prog 71 #[.string s, .bool g] w fun e w' => OkPost g s w e w' := by
  by_cases h1 : 126 < (s.size : Int)
  · go_enter Try.func71, Try.ntmps71
    go_wp2
    go_ret
    exact ⟨retB (pathOk_long (by omega)).symm, Below.refl _ _⟩
  have hcall := l4Parts_any s (by omega) w
  by_cases h2 : (6 : Int) < (partsB s).length
  · go_enter Try.func71, Try.ntmps71
    go_wp2_with (go_at_call 83; refine hcall.mono ?_; rintro e w1 ⟨ad, cp, rfl, hown, hb⟩)
    go_ret
    refine ⟨retB ?_, hb⟩
    have : ¬ (partsB s).length ≤ 6 := by omega
    simp [pathOk, this]
  have hall : pathOk (pOf g) s = (partsB s).all (partOk (pOf g)) := by
    have : (partsB s).length ≤ 6 := by omega
    simp [pathOk, this]
  have HA : Keep (pathOk (pOf g) s = (partsB s).all (partOk (pOf g))) := ⟨hall⟩
  clear hall
  generalize partsB s = ps at *
  go_enter Try.func71, Try.ntmps71
  go_wp2_with (go_at_call 83; refine hcall.mono ?_; rintro e w1 ⟨ad, cp, rfl, hown, hb⟩)
  have hcells : ∀ k (h : k < ps.length), ∃ b, ad = some ⟨b, 0, none⟩ ∧ w1.cell? ⟨b, k, none⟩ = some (.string ps[k]) := fun k hk => own_cell hown k hk
  clear hown hcall
  go_loopw [6] (fun i wr => ∃ k : Nat, i = .int .i64 k ∧ w1 = wr ∧ Keep ((ps.take k).all (partOk (pOf g)) = true) ∧ k ≤ ps.length) (fun i _ => ps.length - (intOf i).toNat)
  case atStart => exact ⟨0, rfl, rfl, ⟨by simp⟩, Nat.zero_le _⟩
  case round =>
    obtain ⟨k, rfl, rfl, hok, hks⟩ := hrel
    by_cases hlt : k < ps.length
    · obtain ⟨b, rfl, hc⟩ := hcells k hlt
      have hlt' : (k : Int) < ps.length := by omega
      cases hx : partOk (pOf g) ps[k] with
      | true =>
        go_wp2_with (go_at_call 84; refine (l4PartOk_any g ps[k] _).mono ?_; rintro e w2 ⟨rfl, rfl⟩; rw [hx])
        go_roundw
        case rel => exact ⟨k + 1, by congr 1, trivial, ⟨by rw [List.take_succ_eq_append_getElem hlt, List.all_append, hok.out]; simp [hx]⟩, by omega⟩
        case measure => simp only [intOf]; omega
      | false =>
        go_wp2_with (go_at_call 84; refine (l4PartOk_any g ps[k] _).mono ?_; rintro e w2 ⟨rfl, rfl⟩; rw [hx])
        go_ret
        exact ⟨retB (by rw [HA.out]; symm; rw [List.all_eq_false]; exact ⟨ps[k], List.getElem_mem hlt, by rw [hx]; simp⟩), hb⟩
    · have hk : k = ps.length := by omega
      have HO : Keep (ps.all (partOk (pOf g)) = true) := ⟨by have := hok.out; rw [hk, List.take_length] at this; exact this⟩
      clear hok hk
      go_wp2
      go_ret
      exact ⟨retB (by rw [HA.out, HO.out]), hb⟩

set_option maxHeartbeats 400000 in
theorem specPath_any (s : ByteArray) (w : World) :
    Calls Try.prog 46 #[.string s] w fun e w' => e = .returned (.bool (pathOk pathB s)) ∧ Below w.heap.size w w' := by
  go_enter Try.func46, Try.ntmps46
  go_wp2_with (go_at_call 71; refine (l4Ok_any false s _).mono ?_; rintro e w1 ⟨rfl, hb⟩)
  go_ret
  exact ⟨rfl, hb⟩
end Go.Proofs.Ytockgapdfcapnaa
