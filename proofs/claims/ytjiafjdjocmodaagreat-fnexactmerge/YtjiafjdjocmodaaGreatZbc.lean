/-
  SpecPath, SpecTree, KidP, RowR: laid as one text.
-/
import Derived.Test.YtjiafjdjocmodaaGreatSpecParts
import Derived.Test.YtjiafjdjocmodaaGreatPartOk
import Derived.Test.YtjiafjdjocmodaaGreatTreeP
import Derived.Test.YtjiafjdjocmodaaGreatLaterQ
import Derived.Deep.QuietTactic
import Derived.BigQuiet
import Derived.Deep.DeepCutAuto
import Derived.Deep.RegionWith
import Derived.Test.YtjiafjdjocmodaaGreatZba
import Derived.Test.YtjiafjdjocmodaaGreatOutL
namespace Go.Proofs.YtjiafjdjocmodaaGreat
open Go.RowKit

/-- A row of texts that is owned, cell by cell. -/
theorem own_cell {w : World} {B : Nat} {ad : Option Addr} {cp : Nat} {ss : List ByteArray} (h : w.ownsRow B 9 1 (.slice ad ss.length cp) ss.length (ss.map .string)) (k : Nat) (hk : k < ss.length) :
    ∃ b, ad = some ⟨b, 0, none⟩ ∧ w.cell? ⟨b, k, none⟩ = some (.string ss[k]) := by
  rcases h.2 with ⟨h1, h2⟩ | ⟨g, cap, cur, hv, h1, h2, h3, h4, h5, h6⟩
  · omega
  · cases hv
    refine ⟨g, rfl, ?_⟩
    rw [World.ownsRow.cellAt h k (by omega)]
    simp [hk]

theorem l1In_any (n a b : Int) (w : World) :
    Calls Tryz.prog 115 #[.int .i64 n, .int .i64 a, .int .i64 b] w fun e w' => e = .returned (.bool (decide (a ≤ n) && decide (n ≤ b))) ∧ w = w' := by
  by_cases h1 : a ≤ n
  · by_cases h2 : n ≤ b
    · go_enter Tryz.func115, Tryz.ntmps115
      go_wp2
      go_ret
      exact ⟨by simp [h1, h2], rfl⟩
    · go_enter Tryz.func115, Tryz.ntmps115
      go_wp2
      go_ret
      exact ⟨by simp [h2], rfl⟩
  · go_enter Tryz.func115, Tryz.ntmps115
    go_wp2
    go_ret
    exact ⟨by have : ¬ a ≤ n := by omega
              simp [this], rfl⟩

def pOf (g : Bool) : Int → Bool := if g = true then globB else pathB

theorem pOf_low {g : Bool} {c : Int} (h : c < 33) : pOf g c = false := by
  have : ¬ 33 ≤ c := by omega
  cases g <;> simp [pOf, pathB, globB, this]
theorem pOf_high {g : Bool} {c : Int} (h : 126 < c) : pOf g c = false := by
  have : ¬ c ≤ 126 := by omega
  cases g <;> simp [pOf, pathB, globB, this]
theorem pOf_47 {g : Bool} {c : Int} (h : (c == 47) = true) : pOf g c = false := by
  cases g <;> simp [pOf, pathB, globB, h]
theorem pOf_34 {g : Bool} {c : Int} (h : (c == 34) = true) : pOf g c = false := by
  cases g <;> simp [pOf, pathB, globB, h]
theorem pOf_42 {c : Int} (h : (c == 42) = true) : pOf false c = false := by simp [pOf, pathB, h]
theorem pOf_63 {c : Int} (h : (c == 63) = true) : pOf false c = false := by simp [pOf, pathB, h]
theorem pOf_glob {c : Int} (h1 : ¬ c < 33) (h2 : ¬ 126 < c) (h3 : (c == 47) = false) (h4 : (c == 34) = false) : pOf true c = true := by
  have a1 : 33 ≤ c := by omega
  have a2 : c ≤ 126 := by omega
  simp [pOf, globB, a1, a2, h3, h4]
theorem pOf_path {c : Int} (h1 : ¬ c < 33) (h2 : ¬ 126 < c) (h3 : (c == 47) = false) (h4 : (c == 34) = false) (h5 : (c == 42) = false) (h6 : (c == 63) = false) : pOf false c = true := by
  have a1 : 33 ≤ c := by omega
  have a2 : c ≤ 126 := by omega
  simp [pOf, pathB, globB, a1, a2, h3, h4, h5, h6]

def PkPost (g : Bool) (s : ByteArray) (w : World) (e : Ending) (w' : World) : Prop := e = .returned (.bool (partOk (pOf g) s)) ∧ w = w'

set_option maxRecDepth 100000 in
set_option maxHeartbeats 4000000 in
theorem l4PartOk_any (g : Bool) (s : ByteArray) (w : World) :
    Calls Tryz.prog 93 #[.string s, .bool g] w fun e w' => PkPost g s w e w' := by
  by_cases h1 : (decide ((1 : Int) ≤ s.size) && decide ((s.size : Int) ≤ 20)) = false
  · go_enter Tryz.func93, Tryz.ntmps93
    go_wp2_with (go_at_call 115; refine (l1In_any _ _ _ _).mono ?_; rintro e w' ⟨rfl, rfl⟩; rw [h1])
    go_ret
    refine ⟨retB ?_, rfl⟩
    by_cases a : 1 ≤ s.size
    · have b : ¬ s.size ≤ 20 := by
        intro b
        have a' : (1 : Int) ≤ s.size := by omega
        have b' : (s.size : Int) ≤ 20 := by omega
        simp [a', b'] at h1
      simp [partOk, b]
    · simp [partOk, a]
  have h1' : (decide ((1 : Int) ≤ s.size) && decide ((s.size : Int) ≤ 20)) = true := by simpa using h1
  clear h1
  by_cases h3 : s.toList = [46]
  · go_enter Tryz.func93, Tryz.ntmps93
    go_wp2_with (go_at_call 115; refine (l1In_any _ _ _ _).mono ?_; rintro e w' ⟨rfl, rfl⟩; rw [h1'])
    go_ret
    exact ⟨retB (by simp [partOk, h3]), rfl⟩
  by_cases h4 : s.toList = [46, 46]
  · go_enter Tryz.func93, Tryz.ntmps93
    go_wp2_with (go_at_call 115; refine (l1In_any _ _ _ _).mono ?_; rintro e w' ⟨rfl, rfl⟩; rw [h1'])
    go_ret
    exact ⟨retB (by simp [partOk, h4]), rfl⟩
  have hall : partOk (pOf g) s = s.data.toList.all (fun c => pOf g (c.toNat : Int)) := by
    simp only [Bool.and_eq_true, decide_eq_true_eq] at h1'
    have a1 : 1 ≤ s.size := by omega
    have a2 : s.size ≤ 20 := by omega
    simp [partOk, a1, a2, h3, h4]
  have HA : Keep (partOk (pOf g) s = s.data.toList.all (fun c => pOf g (c.toNat : Int))) := ⟨hall⟩
  have hb3 : (s.toList == [46]) = false := by simp [h3]
  have hb4 : (s.toList == [46, 46]) = false := by simp [h4]
  have hs : s.size ≤ 20 := by simp at h1'; omega
  clear h3 h4 hall
  go_enter Tryz.func93, Tryz.ntmps93
  go_wp2_with (go_at_call 115; refine (l1In_any _ _ _ _).mono ?_; rintro e w' ⟨rfl, rfl⟩; rw [h1'])
  clear h1'
  go_loopw [5] (fun i wr => ∃ k : Nat, i = .int .i64 k ∧ w = wr ∧ okTo (pOf g) s k ∧ k ≤ s.size) (fun i _ => s.size - (intOf i).toNat)
  case atStart => exact ⟨0, rfl, rfl, fun k _ hk => absurd hk (by omega), Nat.zero_le _⟩
  case round =>
    obtain ⟨k, rfl, rfl, hok, hks⟩ := hrel
    by_cases hlt : k < s.size
    · have hlt' : (k : Int) < s.size := by omega
      by_cases a1 : (s[k].toNat : Int) < 33
      · go_wp2
        go_ret
        exact ⟨retB (by rw [HA.out, all_not _ s k hlt (pOf_low a1)]), rfl⟩
      by_cases a2 : 126 < (s[k].toNat : Int)
      · go_wp2
        go_ret
        exact ⟨retB (by rw [HA.out, all_not _ s k hlt (pOf_high a2)]), rfl⟩
      cases a3 : ((s[k].toNat : Int) == 47) with
      | true =>
        go_wp2
        go_ret
        exact ⟨retB (by rw [HA.out, all_not _ s k hlt (pOf_47 a3)]), rfl⟩
      | false =>
        cases a4 : ((s[k].toNat : Int) == 34) with
        | true =>
          go_wp2
          go_ret
          exact ⟨retB (by rw [HA.out, all_not _ s k hlt (pOf_34 a4)]), rfl⟩
        | false =>
          have hon : ∀ h : pOf g (s[k].toNat : Int) = true, okTo (pOf g) s (k + 1) := fun h j hj hlt => by
            by_cases e : j = k
            · subst e; exact h
            · exact hok j hj (by omega)
          cases g with
          | true =>
            have hok2 := hon (pOf_glob a1 a2 a3 a4)
            clear hon
            go_wp2
            go_roundw
            case rel => exact ⟨k + 1, by congr 1, trivial, hok2, by omega⟩
            case measure => simp only [intOf]; omega
          | false =>
            cases a5 : ((s[k].toNat : Int) == 42) with
            | true =>
              clear hon
              go_wp2
              go_ret
              exact ⟨retB (by rw [HA.out, all_not _ s k hlt (pOf_42 a5)]), rfl⟩
            | false =>
              cases a6 : ((s[k].toNat : Int) == 63) with
              | true =>
                clear hon
                go_wp2
                go_ret
                exact ⟨retB (by rw [HA.out, all_not _ s k hlt (pOf_63 a6)]), rfl⟩
              | false =>
                have hok2 := hon (pOf_path a1 a2 a3 a4 a5 a6)
                clear hon
                go_wp2
                go_roundw
                case rel => exact ⟨k + 1, by congr 1, trivial, hok2, by omega⟩
                case measure => simp only [intOf]; omega
    · have hk : k = s.size := by omega
      have HO : Keep (s.data.toList.all (fun c => pOf g (c.toNat : Int)) = true) := ⟨all_okTo _ s (hk ▸ hok)⟩
      clear hok hk
      go_wp2
      go_ret
      exact ⟨retB (by rw [HA.out, HO.out]), rfl⟩

theorem pathOk_long {p : Int → Bool} {s : ByteArray} (h : 126 < s.size) : pathOk p s = false := by
  cases e : pathOk p s with
  | false => rfl
  | true => have := pathOk_size e; omega

def OkPost (g : Bool) (s : ByteArray) (w : World) (e : Ending) (w' : World) : Prop :=
  e = .returned (.bool (pathOk (pOf g) s)) ∧ Below w.heap.size w w'

set_option maxRecDepth 100000 in
set_option maxHeartbeats 4000000 in
theorem l4Ok_any (g : Bool) (s : ByteArray) (w : World) :
    Calls Tryz.prog 69 #[.string s, .bool g] w fun e w' => OkPost g s w e w' := by
  by_cases h1 : 126 < (s.size : Int)
  · go_enter Tryz.func69, Tryz.ntmps69
    go_wp2
    go_ret
    exact ⟨retB (pathOk_long (by omega)).symm, Below.refl _ _⟩
  have hcall := l4Parts_any s (by omega) w
  by_cases h2 : (6 : Int) < (partsB s).length
  · go_enter Tryz.func69, Tryz.ntmps69
    go_wp2_with (go_at_call 92; refine hcall.mono ?_; rintro e w1 ⟨ad, cp, rfl, hown, hb⟩)
    go_ret
    refine ⟨retB ?_, hb⟩
    have : ¬ (partsB s).length ≤ 6 := by omega
    simp [pathOk, this]
  have hall : pathOk (pOf g) s = (partsB s).all (partOk (pOf g)) := by
    have : (partsB s).length ≤ 6 := by omega
    simp [pathOk, this]
  have HA : Keep (pathOk (pOf g) s = (partsB s).all (partOk (pOf g))) := ⟨hall⟩
  clear hall
  generalize partsB s = ps at *
  go_enter Tryz.func69, Tryz.ntmps69
  go_wp2_with (go_at_call 92; refine hcall.mono ?_; rintro e w1 ⟨ad, cp, rfl, hown, hb⟩)
  have hcells : ∀ k (h : k < ps.length), ∃ b, ad = some ⟨b, 0, none⟩ ∧ w1.cell? ⟨b, k, none⟩ = some (.string ps[k]) := fun k hk => own_cell hown k hk
  clear hown hcall
  go_loopw [6] (fun i wr => ∃ k : Nat, i = .int .i64 k ∧ w1 = wr ∧ Keep ((ps.take k).all (partOk (pOf g)) = true) ∧ k ≤ ps.length) (fun i _ => ps.length - (intOf i).toNat)
  case atStart => exact ⟨0, rfl, rfl, ⟨by simp⟩, Nat.zero_le _⟩
  case round =>
    obtain ⟨k, rfl, rfl, hok, hks⟩ := hrel
    by_cases hlt : k < ps.length
    · obtain ⟨b, rfl, hc⟩ := hcells k hlt
      have hlt' : (k : Int) < ps.length := by omega
      cases hx : partOk (pOf g) ps[k] with
      | true =>
        go_wp2_with (go_at_call 93; refine (l4PartOk_any g ps[k] _).mono ?_; rintro e w2 ⟨rfl, rfl⟩; rw [hx])
        go_roundw
        case rel => exact ⟨k + 1, by congr 1, trivial, ⟨by rw [List.take_succ_eq_append_getElem hlt, List.all_append, hok.out]; simp [hx]⟩, by omega⟩
        case measure => simp only [intOf]; omega
      | false =>
        go_wp2_with (go_at_call 93; refine (l4PartOk_any g ps[k] _).mono ?_; rintro e w2 ⟨rfl, rfl⟩; rw [hx])
        go_ret
        exact ⟨retB (by rw [HA.out]; symm; rw [List.all_eq_false]; exact ⟨ps[k], List.getElem_mem hlt, by rw [hx]; simp⟩), hb⟩
    · have hk : k = ps.length := by omega
      have HO : Keep (ps.all (partOk (pOf g)) = true) := ⟨by have := hok.out; rw [hk, List.take_length] at this; exact this⟩
      clear hok hk
      go_wp2
      go_ret
      exact ⟨retB (by rw [HA.out, HO.out]), hb⟩

set_option maxHeartbeats 400000 in
theorem specPath_any (s : ByteArray) (w : World) :
    Calls Tryz.prog 40 #[.string s] w fun e w' => e = .returned (.bool (pathOk pathB s)) ∧ Below w.heap.size w w' := by
  go_enter Tryz.func40, Tryz.ntmps40
  go_wp2_with (go_at_call 69; refine (l4Ok_any false s _).mono ?_; rintro e w1 ⟨rfl, hb⟩)
  go_ret
  exact ⟨rfl, hb⟩
end Go.Proofs.YtjiafjdjocmodaaGreat

namespace Go.Proofs.YtjiafjdjocmodaaGreat
open Go.RowKit

theorem begins_spelled {d p : ByteArray} : Begins d p ↔ ∃ h : d.size < p.size, (p.extract 0 d.size).toList = d.toList ∧ p[d.size] = 47 := by
  have hsz : ∀ x : ByteArray, x.data.toList.length = x.size := fun x => rfl
  simp only [Lib.toList_data]
  have hex : (p.extract 0 d.size).data.toList = p.data.toList.take d.size := by
    simp [ByteArray.data_extract]
  rw [hex]
  constructor
  · rintro ⟨r, hr⟩
    have hl := congrArg List.length hr
    rw [hsz, List.length_append, hsz, List.length_cons] at hl
    refine ⟨by omega, by rw [hr, List.take_left' (hsz d)], ?_⟩
    have : p[d.size]'(by omega) = p.data.toList[d.size]'(by rw [hsz]; omega) := by simp [ByteArray.getElem_eq_getElem_data]
    rw [this]
    have h2 : p.data.toList[d.size]? = some 47 := by rw [hr, List.getElem?_append_right (by rw [hsz]; omega), hsz]; simp
    exact List.getElem_eq_iff _ |>.2 h2
  · rintro ⟨h, h1, h2⟩
    refine ⟨p.data.toList.drop (d.size + 1), ?_⟩
    have hlt : d.size < p.data.toList.length := by rw [hsz]; exact h
    conv => lhs; rw [← List.take_append_drop d.size p.data.toList, List.drop_eq_getElem_cons hlt, h1]
    have : p.data.toList[d.size] = p[d.size] := by simp [ByteArray.getElem_eq_getElem_data]
    rw [this, h2]

def BgPost (d p : ByteArray) (w : World) (e : Ending) (w' : World) : Prop := ∃ bl : Bool, e = .returned (.bool bl) ∧ (bl = true ↔ Begins d p) ∧ w = w'

set_option maxRecDepth 100000 in
set_option maxHeartbeats 1000000 in
theorem begins_any (d p : ByteArray) (w : World) :
    Calls Tryz.prog 39 #[.string d, .string p] w fun e w' => BgPost d p w e w' := by
  by_cases h1 : d.size < p.size
  · have hd1 : decide (d.size < p.size) = true := by simp [h1]
    have h1' : (d.size : Int) < p.size := by omega
    cases h2 : ((p.extract 0 d.size).toList == d.toList) with
    | true =>
      cases h3 : ((p[d.size].toNat : Int) == 47) with
      | true =>
        go_enter Tryz.func39, Tryz.ntmps39
        go_wp2
        go_ret
        exact ⟨true, rfl, ⟨fun _ => begins_spelled.2 ⟨h1, by simpa using h2, UInt8.toNat_inj.1 (by have h3' := eq_of_beq h3; show p[d.size].toNat = 47; omega)⟩, fun _ => rfl⟩, rfl⟩
      | false =>
        go_enter Tryz.func39, Tryz.ntmps39
        go_wp2
        go_ret
        exact ⟨false, rfl, ⟨fun h => (by cases h), fun h => by
          obtain ⟨_, _, h5⟩ := begins_spelled.1 h
          rw [h5] at h3; simp at h3⟩, rfl⟩
    | false =>
      go_enter Tryz.func39, Tryz.ntmps39
      go_wp2
      go_ret
      exact ⟨false, rfl, ⟨fun h => (by cases h), fun h => by
        obtain ⟨_, h4, _⟩ := begins_spelled.1 h
        rw [h4] at h2; simp at h2⟩, rfl⟩
  · have hd1 : decide (d.size < p.size) = false := by simp [h1]
    have h1' : ¬ (d.size : Int) < p.size := by omega
    go_enter Tryz.func39, Tryz.ntmps39
    go_wp2
    go_ret
    exact ⟨false, rfl, ⟨fun h => (by cases h), fun h => absurd (begins_spelled.1 h).1 h1⟩, rfl⟩

theorem begins_lit {d p : ByteArray} (bl : Bool) (h : bl = true ↔ Begins d p) (w : World) :
    Calls Tryz.prog 39 #[.string d, .string p] w fun e w' => e = .returned (.bool bl) ∧ Below w.heap.size w w' := by
  refine (begins_any d p w).mono ?_
  rintro e w' ⟨b2, rfl, h2, rfl⟩
  have : b2 = bl := by
    have := h2.trans h.symm
    cases b2 <;> cases bl <;> simp at this ⊢
  exact ⟨by rw [this], Below.refl _ _⟩
theorem kept_below {w w1 w2 : World} (h : Below w.heap.size w w1) (h2 : Below w1.heap.size w1 w2) : Below w.heap.size w w2 := h.trans (h2.mono h.size)

def TvPost (ts : List En) (w : World) (e : Ending) (w' : World) : Prop := ∃ bl : Bool, e = .returned (.bool bl) ∧ (bl = true ↔ ValidTs ts) ∧ Below w.heap.size w w'
theorem TvPost.no {ts : List En} {w w' : World} (h : ¬ ValidTs ts) (hb : Below w.heap.size w w') : TvPost ts w (.returned (.bool false)) w' :=
  ⟨false, rfl, ⟨fun e => (by cases e), fun e => absurd e h⟩, hb⟩
theorem TvPost.yes {ts : List En} {w w' : World} (h : ValidTs ts) (hb : Below w.heap.size w w') : TvPost ts w (.returned (.bool true)) w' :=
  ⟨true, rfl, ⟨fun _ => h, fun _ => rfl⟩, hb⟩

set_option maxRecDepth 100000 in
set_option maxHeartbeats 4000000 in
theorem specTree_any (a : Option Addr) (cap : Nat) (ts : List En) (w : World) (hts : ES w a ts) (hn : ts.length ≤ 1048576) :
    Calls Tryz.prog 9 #[.agg #[.slice a ts.length cap]] w fun e w' => TvPost ts w e w' := by
  have hbT : Below w.heap.size w (w.alloc (.cells #[.slice a ts.length cap] 25)) := (Below.refl _ _).alloc (Nat.le_refl _) _
  by_cases h100 : (100 : Int) < ts.length
  · go_enter Tryz.func9, Tryz.ntmps9
    go_wp2
    go_ret
    exact TvPost.no (fun h => by have := h.1; omega) hbT
  have htT := hts.below hbT
  have hcT : (w.alloc (.cells #[.slice a ts.length cap] 25)).cell? ⟨w.heap.size, 0, none⟩ = some (.slice a ts.length cap) := by simp
  go_enter Tryz.func9, Tryz.ntmps9
  go_wp2
  generalize hwT : w.alloc (.cells #[.slice a ts.length cap] 25) = wT at *
  clear hwT
  go_loopw [3] (fun i wr => ∃ (k : Nat), i = .int .i64 k ∧ k ≤ ts.length ∧ Keep (∀ i, i < k → OkAt ts i) ∧ Below wT.heap.size wT wr) (fun i _ => ts.length - (intOf i).toNat)
  case atStart => exact ⟨0, rfl, Nat.zero_le _, ⟨fun i hi => by omega⟩, Below.refl _ _⟩
  case round =>
    obtain ⟨k, rfl, hk, hok, hB⟩ := hrel
    have hE := htT.below hB
    have hcT' := cell_later hB hcT
    have hBw := kept_below hbT hB
    by_cases hlt : k < ts.length
    · have hlt' : (k : Int) < ts.length := by omega
      obtain ⟨b, off, rfl, hc⟩ := hE.at hlt
      obtain ⟨x0, x1, x2⟩ := hc k hlt
      have hals : Below wr.heap.size wr (wr.alloc (.cells #[.string ts[k].path, .string ts[k].text, .bool ts[k].runs] 55)) := (Below.refl _ _).alloc (Nat.le_refl _) _
      have hcT2 := cell_later hals hcT'
      have hBw2 := kept_below hBw hals
      have hB2 := kept_below hB hals
      have hcs : ∀ j (hj : j < ts.length), (wr.alloc (.cells #[.string ts[k].path, .string ts[k].text, .bool ts[k].runs] 55)).cell? ⟨b, off + j * 3, none⟩ = some (.string ts[j].path) := fun j hj => cell_later hals (hc j hj).1
      have y0 : (wr.alloc (.cells #[.string ts[k].path, .string ts[k].text, .bool ts[k].runs] 55)).cell? ⟨wr.heap.size, 0, none⟩ = some (.string ts[k].path) := by simp
      have y1 : (wr.alloc (.cells #[.string ts[k].path, .string ts[k].text, .bool ts[k].runs] 55)).cell? ⟨wr.heap.size, 1, none⟩ = some (.string ts[k].text) := by simp
      have hbad : ¬ OkAt ts k → ¬ ValidTs ts := fun h1 h2 => h1 (h2.2 k hlt)
      clear hc hE htT hts
      go_upto_region 7 with fail
      go_cut [47] (fun v wx => ∃ bl : Bool, v = .bool bl ∧ (bl = false ↔ enOk ts[k] = true ∧ ∀ j, j + 1 = k → ∀ hj : j < ts.length, Op.bytesLess ts[j].path.toList ts[k].path.toList = true) ∧ Below (wr.alloc (.cells #[.string ts[k].path, .string ts[k].text, .bool ts[k].runs] 55)).heap.size (wr.alloc (.cells #[.string ts[k].path, .string ts[k].text, .bool ts[k].runs] 55)) wx)
      case first =>
        generalize hw2 : (wr.alloc (.cells #[.string ts[k].path, .string ts[k].text, .bool ts[k].runs] 55)) = w2 at *
        clear hw2
        have hT : ∀ x : Later w2, x.world.cell? ⟨w.heap.size, 0, none⟩ = some (.slice (some ⟨b, off, none⟩) ts.length cap) := fun x => cell_later x.kept hcT2
        have z0 : ∀ x : Later w2, x.world.cell? ⟨wr.heap.size, 0, none⟩ = some (.string ts[k].path) := fun x => cell_later x.kept y0
        have z1 : ∀ x : Later w2, x.world.cell? ⟨wr.heap.size, 1, none⟩ = some (.string ts[k].text) := fun x => cell_later x.kept y1
        have hcall : ∀ x : Later w2, Calls Tryz.prog 40 #[.string ts[k].path] x.world fun e w'' => e = .returned (.bool (pathOk pathB ts[k].path)) ∧ ∃ y : Later w2, w'' = y.world := fun x => Later.call x (specPath_any _ _)
        cases hp : pathOk pathB ts[k].path with
        | false =>
          rw [hp] at hcall
          have HC := Keep.mk hcall
          clear hcall
          (haveI := later_any; refine wp_region_later (by kernel_rfl) (by kernel_rfl) ?_; (repeat (go_big_quiet_step (exact HC.out _))); refine wpQuiet_nil ?_; intro _ hwq; obtain ⟨xq, hwq2⟩ := hwq; subst hwq2)
          go_wp2_with fail
          go_meet
          case rel => exact ⟨true, rfl, ⟨fun h => (by cases h), fun h => by simp [enOk, hp] at h⟩, xq.kept⟩
        | true =>
          rw [hp] at hcall
          have HC := Keep.mk hcall
          clear hcall
          by_cases ht : (1500 : Int) < ts[k].text.size
          · (haveI := later_any; refine wp_region_later (by kernel_rfl) (by kernel_rfl) ?_; (repeat (go_big_quiet_step (exact HC.out _))); refine wpQuiet_nil ?_; intro _ hwq; obtain ⟨xq, hwq2⟩ := hwq; subst hwq2)
            go_wp2_with fail
            go_meet
            case rel => exact ⟨true, rfl, ⟨fun h => (by cases h), fun h => by have := h.1; simp [enOk] at this; omega⟩, xq.kept⟩
          have htd : decide (1500 < ts[k].text.size) = false := by simp; omega
          have HE : Keep (enOk ts[k] = true) := ⟨by simp [enOk, hp]; omega⟩
          by_cases hk0 : k = 0
          · have hkd : decide (0 < k) = false := by simp [hk0]
            have HK : Keep (k = 0) := ⟨hk0⟩
            clear hk0
            (haveI := later_any; refine wp_region_later (by kernel_rfl) (by kernel_rfl) ?_; (repeat (go_big_quiet_step (exact HC.out _))); refine wpQuiet_nil ?_; intro _ hwq; obtain ⟨xq, hwq2⟩ := hwq; subst hwq2)
            go_wp2_with fail
            go_meet
            case rel => exact ⟨false, rfl, ⟨fun _ => ⟨HE.out, fun j hj => by have := HK.out; omega⟩, fun _ => rfl⟩, xq.kept⟩
          · obtain ⟨j, rfl⟩ : ∃ j, k = j + 1 := ⟨k - 1, by omega⟩
            have hpv : ∀ x : Later w2, x.world.cell? ⟨b, off + j * 3, none⟩ = some (.string ts[j].path) := fun x => cell_later x.kept (hcs j (by omega))
            have hk0' : (0 : Int) < ((j + 1 : Nat) : Int) := by omega
            have hkd : decide (0 < j + 1) = true := by simp
            (haveI := later_any; refine wp_region_later (by kernel_rfl) (by kernel_rfl) ?_; (repeat (go_big_quiet_step (exact HC.out _))); refine wpQuiet_nil ?_; intro _ hwq; obtain ⟨xq, hwq2⟩ := hwq; subst hwq2)
            go_wp2_with fail
            go_meet
            case rel =>
              refine ⟨_, rfl, ?_, xq.kept⟩
              constructor
              · intro h
                refine ⟨HE.out, fun i hi hj => ?_⟩
                obtain rfl : i = j := by omega
                simpa using h
              · intro h
                have := h.2 j rfl (by omega)
                simp [this]
      case rest =>
        obtain ⟨bl, rfl, hbl, hbc⟩ := hcut
        have HB : Keep (bl = false ↔ enOk ts[k] = true ∧ ∀ j, j + 1 = k → ∀ hj : j < ts.length, Op.bytesLess ts[j].path.toList ts[k].path.toList = true) := ⟨hbl⟩
        have c0 := cell_later hbc y0
        have cT := cell_later hbc hcT2
        have cs : ∀ j (hj : j < ts.length), wc.cell? ⟨b, off + j * 3, none⟩ = some (.string ts[j].path) := fun j hj => cell_later hbc (hcs j hj)
        have hBw3 := kept_below hBw2 hbc
        have hB3 := kept_below hB2 hbc
        clear hbl hcs hbc y0 y1 hcT2 hBw2 hB2 hals x0 x1 x2 hcT' hBw hB
        generalize wr.heap.size = be at *
        cases bl with
        | true =>
          go_wp2
          go_ret
          refine TvPost.no (hbad fun ⟨_, h1, h2, _⟩ => ?_) hBw3
          have := HB.out.2 ⟨h1, h2⟩
          cases this
        | false =>
          have HP : Keep (enOk ts[k] = true ∧ ∀ j, j + 1 = k → ∀ hj : j < ts.length, Op.bytesLess ts[j].path.toList ts[k].path.toList = true) := ⟨HB.out.1 rfl⟩
          clear HB
          go_wp2
          go_loopw [5] (fun v wx => ∃ j : Nat, v = .int .i64 j ∧ j ≤ k ∧ Keep (∀ e' ∈ ts.take j, ¬ Begins e'.path ts[k].path) ∧ Below wc.heap.size wc wx) (fun v _ => k - (intOf v).toNat)
          case atStart => exact ⟨0, rfl, Nat.zero_le _, ⟨fun e' he => by simp at he⟩, Below.refl _ _⟩
          case round =>
            obtain ⟨j, rfl, hjk, hno, hbx⟩ := hrel
            have hBw4 := kept_below hBw3 hbx
            have hB4 := kept_below hB3 hbx
            by_cases hj : j < k
            · have hj' : (j : Int) < k := by omega
              have hjl : j < ts.length := by omega
              have hjl' : (j : Int) < ts.length := by omega
              have cj : ∀ x : Later wr, x.world.cell? ⟨b, off + j * 3, none⟩ = some (.string ts[j].path) := fun x => cell_later x.kept (cell_later hbx (cs j hjl))
              have z0 : ∀ x : Later wr, x.world.cell? ⟨be, 0, none⟩ = some (.string ts[k].path) := fun x => cell_later x.kept (cell_later hbx c0)
              have zT : ∀ x : Later wr, x.world.cell? ⟨w.heap.size, 0, none⟩ = some (.slice (some ⟨b, off, none⟩) ts.length cap) := fun x => cell_later x.kept (cell_later hbx cT)
              clear cs c0 cT
              by_cases hbg : Begins ts[j].path ts[k].path
              · have HC : Keep (∀ x : Later wr, Calls Tryz.prog 39 #[.string ts[j].path, .string ts[k].path] x.world fun e w'' => e = .returned (.bool true) ∧ ∃ y : Later wr, w'' = y.world) := ⟨fun x => Later.call x (begins_lit true (by simp [hbg]) _)⟩
                go_wp2_with fail
                (haveI := later_any; refine wp_region_later (by kernel_rfl) (by kernel_rfl) ?_; (repeat (go_big_quiet_step (exact HC.out _))); refine wpQuiet_nil ?_; intro _ hwq; obtain ⟨xq, hwq2⟩ := hwq; subst hwq2)
                go_wp2
                go_ret
                refine TvPost.no (hbad fun ⟨_, _, _, h3⟩ => h3 ts[j] ?_ hbg) (kept_below hBw4 xq.kept)
                exact List.mem_take_iff_getElem.2 ⟨j, by omega, rfl⟩
              · have HC : Keep (∀ x : Later wr, Calls Tryz.prog 39 #[.string ts[j].path, .string ts[k].path] x.world fun e w'' => e = .returned (.bool false) ∧ ∃ y : Later wr, w'' = y.world) := ⟨fun x => Later.call x (begins_lit false (by simp [hbg]) _)⟩
                go_wp2_with fail
                (haveI := later_any; refine wp_region_later (by kernel_rfl) (by kernel_rfl) ?_; (repeat (go_big_quiet_step (exact HC.out _))); refine wpQuiet_nil ?_; intro _ hwq; obtain ⟨xq, hwq2⟩ := hwq; subst hwq2)
                go_wp2
                go_roundw
                case rel => exact ⟨j + 1, by go_num, by omega, ⟨by
                  rw [List.take_succ_eq_append_getElem hjl]
                  intro e' he
                  rcases List.mem_append.1 he with h | h
                  · exact hno.out e' h
                  · rw [List.mem_singleton.1 h]; exact hbg⟩, kept_below hbx xq.kept⟩
                case measure => simp only [intOf]; omega
            · obtain rfl : j = k := by omega
              clear cs
              go_wp2
              go_roundw
              case rel =>
                refine ⟨j + 1, by go_num, by omega, ⟨fun i hi => ?_⟩, hB4⟩
                by_cases e : i = j
                · subst e; exact ⟨hlt, HP.out.1, HP.out.2, hno.out⟩
                · exact hok.out i (by omega)
              case measure => simp only [intOf]; omega
    · have hkn : k = ts.length := by omega
      have HV : Keep (ValidTs ts) := ⟨by omega, fun i hi => hok.out i (by omega)⟩
      clear hkn
      go_wp2
      go_ret
      exact TvPost.yes HV.out hBw
end Go.Proofs.YtjiafjdjocmodaaGreat

namespace Go.Proofs.YtjiafjdjocmodaaGreat
open Go.RowKit

def kidsAt (us : List En) (k : Nat) : List ByteArray := ((us.take k).filter fun e => us.any fun x => beginsB e.path x.path).map En.path
theorem kidsAt_succ {us : List En} {k : Nat} (h : k < us.length) : kidsAt us (k + 1) = kidsAt us k ++ (if (us.any fun x => beginsB us[k].path x.path) = true then [us[k].path] else []) := by
  unfold kidsAt
  rw [List.take_succ_eq_append_getElem h, List.filter_append, List.map_append]
  congr 1
  by_cases hq : (us.any fun x => beginsB us[k].path x.path) = true
  · rw [if_pos hq]; simp only [List.filter_cons, hq, if_true, List.filter_nil, List.map_cons, List.map_nil]
  · rw [if_neg hq]; simp only [List.filter_cons, hq, Bool.false_eq_true, if_false, List.filter_nil, List.map_nil]
theorem kidsAt_len (us : List En) (k : Nat) : (kidsAt us k).length ≤ us.length := by
  unfold kidsAt
  rw [List.length_map]
  exact Nat.le_trans (List.length_filter_le _ _) (by simp; omega)
end Go.Proofs.YtjiafjdjocmodaaGreat

namespace Go.Proofs.YtjiafjdjocmodaaGreat
open Go.RowKit

theorem row_roomO {W : World} {B z : Nat} {e : TypeId} {ad : Option Addr} {n cp : Nat} {xs : List Value} (h : W.ownsRow B e z (.slice ad n cp) n xs) : n ≤ cp := by
  rcases h.2 with ⟨h0, _⟩ | ⟨_, _, _, h0, _, _, h1, _⟩
  · cases h0; exact Nat.le_refl _
  · cases h0; exact h1
end Go.Proofs.YtjiafjdjocmodaaGreat
