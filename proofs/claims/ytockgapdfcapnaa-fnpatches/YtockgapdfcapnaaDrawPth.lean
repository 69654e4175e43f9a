/-
  Drawn paths: spec.l4Path, spec.l4Spoil.
-/
import Derived.Test.YtockgapdfcapnaaZbd
import Derived.Test.YtockgapdfcapnaaSplitP
import Derived.Deep.DeepCutAuto
import Derived.Deep.RegionWith
namespace Go.Proofs.Ytockgapdfcapnaa
open Go.RowKit

theorem below_oneD (W : World) (o : Obj) : Below W.heap.size W (W.alloc o) := (Below.refl _ _).alloc (Nat.le_refl _) _
/-- No slash in a text; no part of a text is empty. -/
def NoSl (s : ByteArray) : Prop := (47 : UInt8) ∉ s.data.toList
def Slim (s : ByteArray) : Prop := ∀ x ∈ partsB s, 1 ≤ x.size
theorem NoSl.at {s : ByteArray} (h : NoSl s) (k : Nat) : s.data.toList[k]? ≠ some 47 := fun e => h (List.mem_of_getElem? e)
theorem NoSl.app {s t : ByteArray} (h : NoSl s) (k : NoSl t) : NoSl (s ++ t) := by
  unfold NoSl
  rw [show (s ++ t).data.toList = s.data.toList ++ t.data.toList by simp [ByteArray.data_append]]
  intro e
  rcases List.mem_append.1 e with e | e
  · exact h e
  · exact k e
theorem NoSl.cut {s : ByteArray} (h : NoSl s) (i j : Nat) : NoSl (s.extract i j) := by
  unfold NoSl
  rw [extract_mkB, mkB_list]
  exact fun e => h (List.mem_of_mem_drop (List.mem_of_mem_take e))
theorem slim_one {s : ByteArray} (h : NoSl s) (hs : 1 ≤ s.size) : Slim s := by
  intro x hx
  unfold partsB at hx
  rw [splitS_none _ h.at] at hx
  rw [List.map_singleton, List.mem_singleton, mkB_data] at hx
  rw [hx]; exact hs
theorem split_snoc (c : List UInt8) (hc : (47 : UInt8) ∉ c) : ∀ l : List UInt8, splitS (l ++ 47 :: c) = splitS l ++ [c]
  | [] => by
    rw [List.nil_append, show splitS (47 :: c) = [] :: splitS c from if_pos rfl, splitS_none c fun k e => hc (List.mem_of_getElem? e)]
    rfl
  | b :: l => by
    rw [List.cons_append, splitS, splitS, split_snoc c hc l]
    split
    · rfl
    · cases hs : splitS l with
      | nil => exact absurd hs (splitS_ne l)
      | cons q qs => rfl
theorem parts_snoc (s c : ByteArray) (hc : NoSl c) : partsB (s ++ ⟨#[47]⟩ ++ c) = partsB s ++ [c] := by
  unfold partsB
  rw [show (s ++ ⟨#[47]⟩ ++ c).data.toList = s.data.toList ++ 47 :: c.data.toList by simp [ByteArray.data_append], split_snoc _ hc, List.map_append, List.map_singleton, mkB_data]
theorem Slim.snoc {s c : ByteArray} (h : Slim s) (hc : NoSl c) (hs : 1 ≤ c.size) : Slim (s ++ ⟨#[47]⟩ ++ c) := by
  intro x hx
  rw [parts_snoc _ _ hc] at hx
  rcases List.mem_append.1 hx with hx | hx
  · exact h x hx
  · rw [List.mem_singleton.1 hx]; exact hs
theorem lit6a (q : Nat) (hq : q < 6) : ∃ c : ByteArray, (c.size ≤ 2 ∧ NoSl c) ∧ (#[.string ⟨#[]⟩, .string ⟨#[]⟩, .string ⟨#[]⟩, .string ⟨#[]⟩, .string ⟨#[33, 98]⟩, .string ⟨#[45]⟩] : Array Value)[q]? = some (.string c) ∧ ∀ h, ([.string ⟨#[]⟩, .string ⟨#[]⟩, .string ⟨#[]⟩, .string ⟨#[]⟩, .string ⟨#[33, 98]⟩, .string ⟨#[45]⟩] : List Value)[q]'h = .string c := by
  match q, hq with
  | 0, _ => exact ⟨_, ⟨by decide, by unfold NoSl; decide⟩, rfl, fun _ => rfl⟩
  | 1, _ => exact ⟨_, ⟨by decide, by unfold NoSl; decide⟩, rfl, fun _ => rfl⟩
  | 2, _ => exact ⟨_, ⟨by decide, by unfold NoSl; decide⟩, rfl, fun _ => rfl⟩
  | 3, _ => exact ⟨_, ⟨by decide, by unfold NoSl; decide⟩, rfl, fun _ => rfl⟩
  | 4, _ => exact ⟨_, ⟨by decide, by unfold NoSl; decide⟩, rfl, fun _ => rfl⟩
  | 5, _ => exact ⟨_, ⟨by decide, by unfold NoSl; decide⟩, rfl, fun _ => rfl⟩
theorem lit6b (q : Nat) (hq : q < 6) : ∃ c : ByteArray, (c.size ≤ 6 ∧ 1 ≤ c.size ∧ NoSl c) ∧ (#[.string ⟨#[120]⟩, .string ⟨#[121]⟩, .string ⟨#[120, 120]⟩, .string ⟨#[109, 97, 105, 110, 46, 107]⟩, .string ⟨#[97]⟩, .string ⟨#[120, 33]⟩] : Array Value)[q]? = some (.string c) ∧ ∀ h, ([.string ⟨#[120]⟩, .string ⟨#[121]⟩, .string ⟨#[120, 120]⟩, .string ⟨#[109, 97, 105, 110, 46, 107]⟩, .string ⟨#[97]⟩, .string ⟨#[120, 33]⟩] : List Value)[q]'h = .string c := by
  match q, hq with
  | 0, _ => exact ⟨_, ⟨by decide, by decide, by unfold NoSl; decide⟩, rfl, fun _ => rfl⟩
  | 1, _ => exact ⟨_, ⟨by decide, by decide, by unfold NoSl; decide⟩, rfl, fun _ => rfl⟩
  | 2, _ => exact ⟨_, ⟨by decide, by decide, by unfold NoSl; decide⟩, rfl, fun _ => rfl⟩
  | 3, _ => exact ⟨_, ⟨by decide, by decide, by unfold NoSl; decide⟩, rfl, fun _ => rfl⟩
  | 4, _ => exact ⟨_, ⟨by decide, by decide, by unfold NoSl; decide⟩, rfl, fun _ => rfl⟩
  | 5, _ => exact ⟨_, ⟨by decide, by decide, by unfold NoSl; decide⟩, rfl, fun _ => rfl⟩

theorem abc1 (x : Nat) (hx : x < 3) : ∃ S : ByteArray, (⟨#[97, 98, 99]⟩ : ByteArray).extract x 3 = S ∧ 1 ≤ S.size ∧ S.size ≤ 3 ∧ NoSl S := by
  match x, hx with
  | 0, _ => exact ⟨_, rfl, by decide, by decide, by unfold NoSl; decide⟩
  | 1, _ => exact ⟨_, rfl, by decide, by decide, by unfold NoSl; decide⟩
  | 2, _ => exact ⟨_, rfl, by decide, by decide, by unfold NoSl; decide⟩

set_option maxRecDepth 20000 in
set_option maxHeartbeats 4000000 in
theorem path_slim (g : Nat) (a : Option Addr) (cap : Nat) (zs : List Int) (p : Nat) (w : World) (h : Rd w g a cap zs p) (hp : p ≤ 100000000) :
    Calls Try.prog 61 #[.pointer (some ⟨g, 0, none⟩)] w fun e w' => ∃ s : ByteArray, e = .returned (.string s) ∧ s.size ≤ 40 ∧ Slim s ∧ Dr g a cap zs w w' p 8 := by
  have hglt := h.lt
  have hne : some w.heap.size ≠ some g := by simp; omega
  have hbL : Below w.heap.size w (w.alloc (.cells #[.string ⟨#[]⟩, .string ⟨#[]⟩, .string ⟨#[]⟩, .string ⟨#[]⟩, .string ⟨#[33, 98]⟩, .string ⟨#[45]⟩] 9)) := below_oneD _ _
  have hpA := pick_any g a cap zs p 3 w.drew (h.below (w' := w.drew) (Below.refl _ _).drew) (by omega) (by omega) (by omega)
  have hpB := pick_any g a cap zs p 3 (w.alloc (.cells #[.string ⟨#[]⟩, .string ⟨#[]⟩, .string ⟨#[]⟩, .string ⟨#[]⟩, .string ⟨#[33, 98]⟩, .string ⟨#[45]⟩] 9)).drew (h.below (w' := (w.alloc _).drew) hbL.drew) (by omega) (by omega) (by omega)
  have hcellA : ∀ w3 w4 z c, (w.alloc (.cells #[.string ⟨#[]⟩, .string ⟨#[]⟩, .string ⟨#[]⟩, .string ⟨#[]⟩, .string ⟨#[33, 98]⟩, .string ⟨#[45]⟩] 9)).drew.grownBy w3 (some g) → w3.grownBy w4 (some g) → (#[.string ⟨#[]⟩, .string ⟨#[]⟩, .string ⟨#[]⟩, .string ⟨#[]⟩, .string ⟨#[33, 98]⟩, .string ⟨#[45]⟩] : Array Value)[z]? = some (.string c) → w4.cell? ⟨w.heap.size, z, none⟩ = some (.string c) :=
    fun w3 w4 z c h3 h4 hL => h4.cell (a := ⟨w.heap.size, z, none⟩) (h3.cell (a := ⟨w.heap.size, z, none⟩) ((World.cell?_alloc_new w _ _ z).trans hL) hne) hne
  have hcellB : ∀ w3 w4 z c, Rd w3 g a cap zs (p + 1) → (w3.alloc (.cells #[.string ⟨#[]⟩, .string ⟨#[]⟩, .string ⟨#[]⟩, .string ⟨#[]⟩, .string ⟨#[33, 98]⟩, .string ⟨#[45]⟩] 9)).grownBy w4 (some g) → (#[.string ⟨#[]⟩, .string ⟨#[]⟩, .string ⟨#[]⟩, .string ⟨#[]⟩, .string ⟨#[33, 98]⟩, .string ⟨#[45]⟩] : Array Value)[z]? = some (.string c) → w4.cell? ⟨w3.heap.size, z, none⟩ = some (.string c) :=
    fun w3 w4 z c h3 h4 hL => h4.cell (a := ⟨w3.heap.size, z, none⟩) ((World.cell?_alloc_new w3 _ _ z).trans hL) (by have := h3.lt; simp; omega)
  go_enter Try.func61, Try.ntmps61
  go_wp2_with fail
  go_cut [3] (fun v wx => ∃ s : ByteArray, v = .string s ∧ s.size ≤ 3 ∧ (NoSl s ∧ 1 ≤ s.size) ∧ Dr g a cap zs w wx p 2)
  case first =>
    go_region_with (first
      | (go_at_call_of 25 ([Value.pointer (some ⟨g, 0, none⟩), Value.int .i64 3] : List Value); (first | refine hpA.mono ?_ | refine hpB.mono ?_); rintro e w3 ⟨x, rfl, hx, hg3, hR3⟩; obtain ⟨S, hS0, hS1, hS2, hS3⟩ := abc1 x hx)
      | (go_at_call_of 25 ([Value.pointer (some ⟨g, 0, none⟩), Value.int .i64 6] : List Value); refine (pick_any g a cap zs (p + 1) 6 _ (by first | exact hR3 | exact hR3.below (below_oneD _ _)) (by omega) (by omega) (by omega)).mono ?_; rintro e w4 ⟨z, rfl, hz, hg4, hR4⟩; obtain ⟨c, ⟨hc1, hc2⟩, hL, hLL⟩ := lit6a z hz; (try (have hck := hcellA w3 w4 z c hg3 hg4 hL)); (try (have hck := hcellB w3 w4 z c hR3 hg4 hL))))
    all_goals
      go_wp2_with fail
      go_meet
      case rel =>
        refine ⟨_, rfl, by rw [ByteArray.size_append, ByteArray.size_extract]; omega, ⟨NoSl.app (hS3.cut _ _) hc2, by rw [ByteArray.size_append, ByteArray.size_extract]; omega⟩, ?_⟩
        first
          | exact ⟨⟨p + 1 + 1, by omega, hR4⟩, gr_trans (gr_trans (gr_below (w' := (w.alloc _).drew) hbL.drew) hg3) hg4⟩
          | exact ⟨⟨p + 1 + 1, by omega, hR4⟩, gr_trans (gr_alloc _ (gr_trans (gr_below (w' := w.drew) (Below.refl _ _).drew) hg3)) hg4⟩
          | exact ⟨⟨p + 1 + 1, by omega, hR4.below (below_oneD _ _)⟩, gr_alloc _ (gr_trans (gr_trans (gr_below (w' := w.drew) (Below.refl _ _).drew) hg3) hg4)⟩
  case rest =>
    obtain ⟨s0, rfl, hs0, ⟨hs1, hs2⟩, ⟨p1, hp1, hR1⟩, hg1⟩ := hcut
    have HS : Keep (Slim s0) := ⟨slim_one hs1 hs2⟩
    clear hs1 hs2
    clear hpA hpB hcellA hcellB hbL h hne
    go_wp2_with fail
    refine (pick_any g a cap zs p1 4 wc hR1 (by omega) (by omega) (by omega)).mono ?_
    rintro e w2 ⟨y, rfl, hy, hg2, hR2⟩
    have hg02 := gr_trans hg1 hg2
    clear hR1 hg1 hg2
    go_wp2
    go_loopw [3, 4] (fun o q wr => ∃ (o' : ByteArray) (q' p' : Nat), o = .string o' ∧ q = .int .i64 q' ∧ Keep (Slim o') ∧ q' ≤ 3 ∧ o'.size + 7 * q' ≤ 24 ∧ p' + q' ≤ p + 8 ∧ Rd wr g a cap zs p' ∧ w.grownBy wr (some g)) (fun _ q _ => (intOf q).toNat)
    case atStart => exact ⟨s0, y, p1 + 1, rfl, rfl, HS, by omega, by omega, by omega, hR2, hg02⟩
    case round =>
      obtain ⟨o, q, p', rfl, rfl, HL, hq3, ho, hpq, hR, hg⟩ := hrel
      by_cases hq : 0 < q
      · have hq' : (0 : Int) < q := by omega
        have hc0 : ¬ 9223372036854775807 < o.size + 1 := by omega
        have hpk := pick_any g a cap zs p' 6 (wr.alloc (.cells #[.string ⟨#[120]⟩, .string ⟨#[121]⟩, .string ⟨#[120, 120]⟩, .string ⟨#[109, 97, 105, 110, 46, 107]⟩, .string ⟨#[97]⟩, .string ⟨#[120, 33]⟩] 9)) (hR.below (below_oneD _ _)) (by omega) (by omega) (by omega)
        go_wp2_with fail
        refine hpk.mono ?_
        rintro e w3 ⟨z, rfl, hz, hg3, hR3⟩
        obtain ⟨c, ⟨hc1, hc3, hc4⟩, hL, hLL⟩ := lit6b z hz
        have HLn : Keep (Slim (o ++ ⟨#[47]⟩ ++ c)) := ⟨HL.out.snoc hc4 hc3⟩
        clear hc3 hc4
        have hck : w3.cell? ⟨wr.heap.size, z, none⟩ = some (.string c) := hg3.cell (a := ⟨wr.heap.size, z, none⟩) ((World.cell?_alloc_new wr _ _ z).trans hL) (by have := hR.lt; simp; omega)
        have hzi : (z : Int) < 6 := by omega
        have hc2 : ¬ 9223372036854775807 < (o ++ ⟨#[47]⟩).size + c.size := by rw [ByteArray.size_append]; show ¬ _ < o.size + 1 + c.size; omega
        have hgx := gr_trans (gr_alloc (.cells #[.string ⟨#[120]⟩, .string ⟨#[121]⟩, .string ⟨#[120, 120]⟩, .string ⟨#[109, 97, 105, 110, 46, 107]⟩, .string ⟨#[97]⟩, .string ⟨#[120, 33]⟩] 9) hg) hg3
        have HZ : Hid ((o ++ ⟨#[47]⟩ ++ c).size + 7 * (q - 1) ≤ 24) := by
          have : (o ++ ⟨#[47]⟩ ++ c).size + 7 * (q - 1) ≤ 24 := by
            rw [ByteArray.size_append, ByteArray.size_append]
            show o.size + 1 + c.size + _ ≤ 24
            omega
          exact this
        clear hpk hL hR hg hg3 ho
        go_wp2
        go_roundw
        case rel => exact ⟨_, q - 1, p' + 1, rfl, by congr 1; omega, HLn, by omega, HZ.out, by omega, hR3, hgx⟩
        case measure => simp only [intOf]; omega
      · obtain rfl : q = 0 := by omega
        go_wp2
        go_ret
        exact ⟨o, rfl, by omega, HL.out, ⟨p', by omega, hR⟩, hg⟩

theorem path_any (g : Nat) (a : Option Addr) (cap : Nat) (zs : List Int) (p : Nat) (w : World) (h : Rd w g a cap zs p) (hp : p ≤ 100000000) :
    Calls Try.prog 61 #[.pointer (some ⟨g, 0, none⟩)] w fun e w' => ∃ s : ByteArray, e = .returned (.string s) ∧ s.size ≤ 40 ∧ Dr g a cap zs w w' p 8 :=
  (path_slim g a cap zs p w h hp).mono fun _ _ ⟨s, h1, h2, _, h4⟩ => ⟨s, h1, h2, h4⟩

theorem lit5s (q : Nat) (hq : q < 5) : ∃ c : ByteArray, c.size = 1 ∧ (#[.string ⟨#[32]⟩, .string ⟨#[34]⟩, .string ⟨#[127]⟩, .string ⟨#[42]⟩, .string ⟨#[63]⟩] : Array Value)[q]? = some (.string c) ∧ ∀ h, ([.string ⟨#[32]⟩, .string ⟨#[34]⟩, .string ⟨#[127]⟩, .string ⟨#[42]⟩, .string ⟨#[63]⟩] : List Value)[q]'h = .string c := by
  match q, hq with
  | 0, _ => exact ⟨_, rfl, rfl, fun _ => rfl⟩
  | 1, _ => exact ⟨_, rfl, rfl, fun _ => rfl⟩
  | 2, _ => exact ⟨_, rfl, rfl, fun _ => rfl⟩
  | 3, _ => exact ⟨_, rfl, rfl, fun _ => rfl⟩
  | 4, _ => exact ⟨_, rfl, rfl, fun _ => rfl⟩

set_option maxRecDepth 20000 in
set_option maxHeartbeats 4000000 in
theorem spoilS_any (g : Nat) (a : Option Addr) (cap : Nat) (zs : List Int) (p : Nat) (s : ByteArray) (w : World) (h : Rd w g a cap zs p) (hp : p ≤ 100000000) (hs : s.size ≤ 100000) :
    Calls Try.prog 66 #[.pointer (some ⟨g, 0, none⟩), .string s] w fun e w' => ∃ o : ByteArray, e = .returned (.string o) ∧ o.size ≤ s.size + 40 ∧ Dr g a cap zs w w' p 3 := by
  have hc : ∀ k : Nat, k ≤ 100 → ¬ 9223372036854775807 < s.size + k := fun k hk => by omega
  have hc' : ∀ k : Nat, k ≤ 100 → ¬ 9223372036854775807 < k + s.size := fun k hk => by omega
  have q1 := hc 1 (by omega)
  have q3 := hc 3 (by omega)
  have q1' := hc' 1 (by omega)
  have q2' := hc' 2 (by omega)
  clear hc hc'
  go_enter Try.func66, Try.ntmps66
  go_wp2_with fail
  refine (pick_any g a cap zs p 9 w h (by omega) (by omega) (by omega)).mono ?_
  rintro e w1 ⟨x, rfl, hx, hg1, hR1⟩
  by_cases h0 : x = 0
  · have hB : ((x : Int) == 0) = true := by simp; omega
    clear h0
    go_wp2
    go_ret
    exact ⟨⟨#[]⟩, rfl, Nat.zero_le _, ⟨p + 1, by omega, hR1⟩, hg1⟩
  have hB0 : ((x : Int) == 0) = false := by simp; omega
  by_cases h1 : x = 1
  · have hB : ((x : Int) == 1) = true := by simp; omega
    clear h0 h1
    go_wp2
    go_ret
    exact ⟨_, rfl, by rw [ByteArray.size_append]; show s.size + 1 ≤ _; omega, ⟨p + 1, by omega, hR1⟩, hg1⟩
  have hB1 : ((x : Int) == 1) = false := by simp; omega
  by_cases h2 : x = 2
  · have hB : ((x : Int) == 2) = true := by simp; omega
    clear h0 h1 h2
    go_wp2
    go_ret
    exact ⟨_, rfl, by rw [ByteArray.size_append]; show 1 + s.size ≤ _; omega, ⟨p + 1, by omega, hR1⟩, hg1⟩
  have hB2 : ((x : Int) == 2) = false := by simp; omega
  by_cases h3 : x = 3
  · have hB : ((x : Int) == 3) = true := by simp; omega
    clear h0 h1 h2 h3
    go_wp2
    go_ret
    exact ⟨_, rfl, by rw [ByteArray.size_append]; show s.size + 3 ≤ _; omega, ⟨p + 1, by omega, hR1⟩, hg1⟩
  have hB3 : ((x : Int) == 3) = false := by simp; omega
  by_cases h4 : x = 4
  · have hB : ((x : Int) == 4) = true := by simp; omega
    clear h0 h1 h2 h3 h4
    go_wp2
    go_ret
    exact ⟨_, rfl, by rw [ByteArray.size_append]; show 2 + s.size ≤ _; omega, ⟨p + 1, by omega, hR1⟩, hg1⟩
  have hB4 : ((x : Int) == 4) = false := by simp; omega
  by_cases h5 : x = 5
  · have hB : ((x : Int) == 5) = true := by simp; omega
    clear h0 h1 h2 h3 h4 h5
    go_wp2_with fail
    refine (pick_any g a cap zs (p + 1) 2 w1 hR1 (by omega) (by omega) (by omega)).mono ?_
    rintro e w2 ⟨y, rfl, hy, hg2, hR2⟩
    have hm := many_any ⟨#[110]⟩ (20 + y) w2 (by show 1 * (20 + y) ≤ _; omega) (by omega) (by show 1 ≤ 1; omega) (by show 1 ≤ _; omega)
    rw [show ((20 + y : Nat) : Int) = 20 + (y : Int) by omega] at hm
    go_wp2_with fail
    refine hm.mono ?_
    rintro e w3 ⟨t, rfl, ht, rfl⟩
    have ht2 : t.size ≤ 21 := by rw [ht]; show 1 * (20 + y) ≤ 21; omega
    have hc2 : ¬ 9223372036854775807 < (s ++ ⟨#[47]⟩).size + t.size := by rw [ByteArray.size_append]; show ¬ _ < s.size + 1 + t.size; omega
    clear ht hm
    go_wp2
    go_ret
    exact ⟨_, rfl, by rw [ByteArray.size_append, ByteArray.size_append]; show s.size + 1 + t.size ≤ _; omega, ⟨p + 1 + 1, by omega, hR2⟩, gr_trans hg1 hg2⟩
  have hB5 : ((x : Int) == 5) = false := by simp; omega
  by_cases h6 : x = 6
  · have hB : ((x : Int) == 6) = true := by simp; omega
    clear h0 h1 h2 h3 h4 h5 h6
    go_wp2_with fail
    refine (pick_any g a cap zs (p + 1) 2 w1 hR1 (by omega) (by omega) (by omega)).mono ?_
    rintro e w2 ⟨y, rfl, hy, hg2, hR2⟩
    have hm := many_any ⟨#[112, 47]⟩ (5 + y) w2 (by show 2 * (5 + y) ≤ _; omega) (by omega) (by show 1 ≤ 2; omega) (by show 2 ≤ _; omega)
    rw [show ((5 + y : Nat) : Int) = 5 + (y : Int) by omega] at hm
    go_wp2_with fail
    refine hm.mono ?_
    rintro e w3 ⟨t, rfl, ht, rfl⟩
    have ht2 : t.size ≤ 12 := by rw [ht]; show 2 * (5 + y) ≤ 12; omega
    have hc2 : ¬ 9223372036854775807 < t.size + 1 := by omega
    clear ht hm
    go_wp2
    go_ret
    exact ⟨_, rfl, by rw [ByteArray.size_append]; show t.size + 1 ≤ _; omega, ⟨p + 1 + 1, by omega, hR2⟩, gr_trans hg1 hg2⟩
  have hB6 : ((x : Int) == 6) = false := by simp; omega
  by_cases h7 : x = 7
  · have hB : ((x : Int) == 7) = true := by simp; omega
    clear h0 h1 h2 h3 h4 h5 h6 h7
    have hpk := pick_any g a cap zs (p + 1) 5 (w1.alloc (.cells #[.string ⟨#[32]⟩, .string ⟨#[34]⟩, .string ⟨#[127]⟩, .string ⟨#[42]⟩, .string ⟨#[63]⟩] 9)) (hR1.below (below_oneD _ _)) (by omega) (by omega) (by omega)
    go_wp2_with fail
    refine hpk.mono ?_
    rintro e w3 ⟨z, rfl, hz, hg3, hR3⟩
    obtain ⟨c, hc1, hL, hLL⟩ := lit5s z hz
    have hck : w3.cell? ⟨w1.heap.size, z, none⟩ = some (.string c) := hg3.cell (a := ⟨w1.heap.size, z, none⟩) ((World.cell?_alloc_new w1 _ _ z).trans hL) (by have := hR1.lt; simp; omega)
    have hzi : (z : Int) < 5 := by omega
    have hc2 : ¬ 9223372036854775807 < s.size + c.size := by omega
    have hgx := gr_trans (gr_alloc (.cells #[.string ⟨#[32]⟩, .string ⟨#[34]⟩, .string ⟨#[127]⟩, .string ⟨#[42]⟩, .string ⟨#[63]⟩] 9) hg1) hg3
    clear hpk hL
    go_wp2
    go_ret
    exact ⟨_, rfl, by rw [ByteArray.size_append]; omega, ⟨p + 1 + 1, by omega, hR3⟩, hgx⟩
  have hB7 : ((x : Int) == 7) = false := by simp; omega
  clear h0 h1 h2 h3 h4 h5 h6 h7
  go_wp2_with fail
  refine (many_any ⟨#[42, 97]⟩ 9 w1 (by show 2 * 9 ≤ _; omega) (by omega) (by show 1 ≤ 2; omega) (by show 2 ≤ _; omega)).mono ?_
  rintro e w3 ⟨t, rfl, ht, rfl⟩
  have ht2 : t.size ≤ 18 := by rw [ht]; show 2 * 9 ≤ 18; omega
  have hc2 : ¬ 9223372036854775807 < t.size + 1 := by omega
  clear ht
  go_wp2
  go_ret
  exact ⟨_, rfl, by rw [ByteArray.size_append]; show t.size + 1 ≤ _; omega, ⟨p + 1, by omega, hR1⟩, hg1⟩
end Go.Proofs.Ytockgapdfcapnaa
