/-
  slices.Clone, slices.Grow at nil, slices.Concat, each at []string.
-/
import Derived.Test.YtnobhmljhijhcaaStrsB
import Derived.Test.YtnobhmljhijhcaaBase
import Derived.Lib.AppendZeros
import Derived.Laws.AppendOwnNone
namespace Go.Proofs.Ytnobhmljhijhcaa
open Go.RowKit

/-- A fact that no tactic rewrites with. -/
structure CKeep (p : Prop) : Prop where
  out : p

/-- A slice of strings, nil or not. -/
def SlOf (w : World) (v : Value) (ss : List ByteArray) : Prop :=
  (v = .slice none 0 0 ∧ ss = []) ∨ ∃ b off c, v = .slice (some ⟨b, off, none⟩) ss.length c ∧ ∀ i (h : i < ss.length), w.cell? ⟨b, off + i, none⟩ = some (.string ss[i])
theorem SlOf.below {w w' : World} {v : Value} {ss : List ByteArray} (h : SlOf w v ss) (hb : Below w.heap.size w w') : SlOf w' v ss := by
  rcases h with h | ⟨b, off, c, h1, h2⟩
  · exact .inl h
  · exact .inr ⟨b, off, c, h1, fun i hi => cell_later hb (h2 i hi)⟩
theorem SlOf.ss {w : World} {v : Value} {ss : List ByteArray} (h : SlOf w v ss) : ∃ a c, v = .slice a ss.length c ∧ SS w a ss := by
  rcases h with ⟨rfl, rfl⟩ | ⟨b, off, c, h1, h2⟩
  · exact ⟨none, 0, rfl, .inl rfl⟩
  · exact ⟨_, c, h1, .inr ⟨b, off, rfl, h2⟩⟩
theorem SlOf.own {w : World} {base : Nat} {v : Value} {ss : List ByteArray} (h : w.ownsRow base 9 1 v ss.length (ss.map .string)) : SlOf w v ss := by
  rcases h.2 with ⟨hv, h0⟩ | ⟨g, cap, cur, hv, _⟩
  · exact .inl ⟨hv, List.length_eq_zero_iff.1 h0⟩
  · subst hv
    refine .inr ⟨g, 0, cap, rfl, fun i hi => ?_⟩
    rw [Nat.zero_add, h.cellAt i (by omega), List.getElem?_map, List.getElem?_eq_getElem hi]
    rfl
theorem ss_news {w : World} {b off : Nat} {ss : List ByteArray} (h : ∀ i (h : i < ss.length), w.cell? ⟨b, off + i, none⟩ = some (.string ss[i])) : ∀ j u, (ss.map Value.string)[j]? = some u → w.cell? ((⟨b, off, none⟩ : Addr).add j) = some u := fun j u hu => by
  have hadd : (⟨b, off, none⟩ : Addr).add j = ⟨b, off + j, none⟩ := by unfold Addr.add; split <;> simp_all
  rw [hadd]
  rw [List.getElem?_map] at hu
  cases hj : ss[j]? with
  | none => rw [hj] at hu; cases hu
  | some s =>
    rw [hj] at hu
    obtain ⟨hlt, rfl⟩ := List.getElem?_eq_some_iff.1 hj
    rw [h j hlt]
    exact hu
theorem ss_one (ss : List ByteArray) : ∀ u ∈ ss.map Value.string, u.oneCell' = true := fun u hu => by
  obtain ⟨s, _, rfl⟩ := List.mem_map.1 hu
  rfl
theorem own_empty (w : World) (B : Nat) (hB : B ≤ w.heap.size) : (w.alloc (.cells #[] 9)).ownsRow B 9 1 (.slice (some ⟨w.heap.size, 0, none⟩) 0 0) 0 (([] : List ByteArray).map .string) :=
  ⟨by simp, .inr ⟨w.heap.size, 0, #[], rfl, hB, heap_alloc_new w _, Nat.le_refl _, by unfold maxLen; omega, rfl, by simp⟩⟩

theorem nil_eq (w : World) : (binOp .eql 24 (.slice none 0 0) (.slice none 0 0)).run Try.prog w = .ok (.bool true) w := by kernel_rfl
theorem nil_ne (a : Addr) (n c : Nat) (w : World) : (binOp .eql 24 (.slice (some a) n c) (.slice none 0 0)).run Try.prog w = .ok (.bool false) w := by kernel_rfl

set_option maxRecDepth 20000 in
set_option maxHeartbeats 2000000 in
theorem clone_sl (v : Value) (ss : List ByteArray) (w : World) (hs : SlOf w v ss) (hn : ss.length ≤ 4194304) :
    Calls Try.prog 25 #[v] w fun e w' => ∃ v', e = .returned v' ∧ w'.ownsRow w.heap.size 9 1 v' ss.length (ss.map .string) ∧ Below w.heap.size w w' := by
  obtain ⟨i0, hi, hz0, hz1, hz2⟩ := info_parts Try.infoStr
  have hnil := nil_eq
  have hnne := nil_ne
  rcases hs with ⟨rfl, rfl⟩ | ⟨b, off, c, rfl, hc⟩
  · go_enter Try.func25, Try.ntmps25
    go_wp2
    go_ret
    exact ⟨_, rfl, World.ownsRow_nil _ _ _ _, Below.refl _ _⟩
  · have hal : Below w.heap.size w (w.alloc (.cells #[] 9)) := (Below.refl _ _).alloc (Nat.le_refl _) _
    have hown := own_empty w w.heap.size (Nat.le_refl _)
    have hnews : ∀ j u, (ss.map Value.string)[j]? = some u → (w.alloc (.cells #[] 9)).cell? ((⟨b, off, none⟩ : Addr).add j) = some u := ss_news (fun i hi => cell_later hal (hc i hi))
    go_enter Try.func25, Try.ntmps25
    go_wp2_with (first | (at_builtin; refine wpList_append_own _ rfl _ _ 24 rfl w.heap.size 9 i0 _ 1 16 Try.underlying24 hi hz0 hz1 hz2 rfl (by decide) _ _ _ rfl hown ⟨b, off, none⟩ ss.length c (ss.map .string) rfl (by simp) hnews (ss_one ss) (by unfold maxLen; omega) (by omega) (by simp) ?_; intro v' w2 hown' hgrow _))
    go_ret
    rw [Nat.zero_add] at hown'
    exact ⟨_, rfl, by simpa using hown', hal.grown hgrow (by simp) (fun j hj => by cases hj; exact Nat.le_refl _)⟩

set_option maxRecDepth 20000 in
set_option maxHeartbeats 2000000 in
theorem grow_nil (n : Nat) (w : World) (hn : n ≤ 8388608) :
    Calls Try.prog 24 #[.slice none 0 0, .int .i64 n] w fun e w' => ∃ v', e = .returned v' ∧ w'.ownsRow w.heap.size 9 1 v' 0 (([] : List ByteArray).map .string) ∧ Below w.heap.size w w' := by
  obtain ⟨i0, hi, hz0, hz1, hz2⟩ := info_parts Try.infoStr
  have h1 : ¬ ((n : Int) < 0) := by omega
  by_cases h0 : n = 0
  · subst h0
    go_enter Try.func24, Try.ntmps24
    go_wp2
    go_ret
    exact ⟨_, rfl, World.ownsRow_nil _ _ _ _, Below.refl _ _⟩
  · have hp : (0 : Int) < n := by omega
    have hr : ∀ ty, (Builtin.append_ #[24, 3] ty #[.slice none 0 0, .int .i64 n]).run Try.prog w = _ := fun ty => Lib.run_append_nil_zeros w 24 3 ty 9 i0 _ .i64 .i64 Try.underlying24 Try.underlying3 hi hz0 n (by omega) (by omega) (by omega) (by rw [hz2]; omega)
    have hge := grownCap_ge w n 0 9
    have hle := grownCap_le_maxLen w n 0 9 (by unfold maxLen; omega)
    generalize grownCap w n 0 9 = G at *
    have hG63 : (G : Int) ≤ 9223372036854775807 := by unfold maxLen at hle; omega
    generalize hA : Builtin.zeroCells (Value.string ⟨#[]⟩).cells n ++ Builtin.zeroCells (Value.string ⟨#[]⟩).cells (G - n) = arr at *
    have hsz : arr.size = G * 1 := by
      rw [← hA]
      simp [Builtin.zeroCells, Value.cells]
      omega
    go_enter Try.func24, Try.ntmps24
    go_wp2_with (at_builtin; refine Lib.wpList_append_run _ rfl _ _ _ _ rfl _ _ rfl rfl _ _ (hr _) ?_)
    all_goals (go_ret)
    exact ⟨_, rfl, World.ownsRow_made w.drew arr G (Nat.le_refl _) hle hsz, ((Below.refl _ _).drew).alloc (Nat.le_refl _) _⟩

/-- A slice of slices of strings. -/
def SlSl (w : World) (gb : Nat) (vs : List Value) (sss : List (List ByteArray)) : Prop :=
  vs.length = sss.length ∧ ∀ i (h : i < sss.length) (h' : i < vs.length), w.cell? ⟨gb, i, none⟩ = some vs[i] ∧ SlOf w vs[i] sss[i]

def catK (sss : List (List ByteArray)) (k : Nat) : List ByteArray := (sss.take k).flatten
theorem catK_succ {sss : List (List ByteArray)} {k : Nat} (h : k < sss.length) : catK sss (k + 1) = catK sss k ++ sss[k] := by
  unfold catK
  rw [List.take_succ_eq_append_getElem h, List.flatten_append]
  simp

set_option maxRecDepth 20000 in
set_option maxHeartbeats 4000000 in
theorem concat_any (gb : Nat) (vs : List Value) (sss : List (List ByteArray)) (w : World) (hs : SlSl w gb vs sss) (hb : ∀ k, (catK sss k).length ≤ 4194304) (hk2 : sss.length ≤ 4) :
    Calls Try.prog 19 #[.slice (some ⟨gb, 0, none⟩) sss.length sss.length] w fun e w' => ∃ v', e = .returned v' ∧ w'.ownsRow w.heap.size 9 1 v' sss.flatten.length (sss.flatten.map .string) ∧ Below w.heap.size w w' := by
  obtain ⟨i0, hi, hz0, hz1, hz2⟩ := info_parts Try.infoStr
  obtain ⟨hlen, hel⟩ := hs
  have HL : CKeep (vs.length = sss.length) := ⟨hlen⟩
  clear hlen
  go_enter Try.func19, Try.ntmps19
  go_wp2
  go_loopw [3, 11] (fun s i wr => ∃ k : Nat, k ≤ sss.length ∧ i = .int .i64 k ∧ s = .int .i64 (catK sss k).length ∧ w = wr) (fun _ i _ => sss.length - (intOf i).toNat)
  case atStart => exact ⟨0, Nat.zero_le _, rfl, rfl, rfl⟩
  case round =>
    obtain ⟨k, hk, rfl, rfl, rfl⟩ := hrel
    have hbk := hb k
    by_cases hlt : k < sss.length
    · have hlt' : (k : Int) < sss.length := by omega
      obtain ⟨hc, hsl⟩ := hel k hlt (by have := HL.out; omega)
      obtain ⟨a, c, hv, _⟩ := hsl.ss
      rw [hv] at hc
      have hbk2 := hb (k + 1)
      have HC : CKeep ((catK sss (k + 1)).length = (catK sss k).length + sss[k].length) := ⟨by rw [catK_succ hlt, List.length_append]⟩
      have hsm : (catK sss k).length + sss[k].length ≤ 4194304 := by rw [← HC.out]; exact hbk2
      clear hv hsl hbk2
      generalize (catK sss k).length = n0 at *
      generalize sss[k].length = n1 at *
      go_wp2
      go_roundw
      case rel => exact ⟨k + 1, by omega, by go_num, by rw [HC.out]; go_num, trivial⟩
      case measure => simp [intOf]; omega
    · obtain rfl : k = sss.length := by omega
      have hcat : CKeep (catK sss sss.length = sss.flatten) := ⟨by unfold catK; rw [List.take_length]⟩
      have hgr := grow_nil (catK sss sss.length).length w (by omega)
      generalize (catK sss sss.length).length = n0 at *
      go_wp2_with fail
      refine hgr.mono ?_
      rintro e w1 ⟨v1, rfl, hown1, hb1⟩
      clear hgr hbk
      go_wp2
      go_loopw [6, 27] (fun v i wr => ∃ k : Nat, k ≤ sss.length ∧ i = .int .i64 k ∧ wr.ownsRow w.heap.size 9 1 v (catK sss k).length ((catK sss k).map .string) ∧ Below w.heap.size w wr) (fun _ i _ => sss.length - (intOf i).toNat)
      case atStart => exact ⟨0, Nat.zero_le _, rfl, hown1, hb1⟩
      case round =>
        obtain ⟨k, hk, rfl, hown, hbr⟩ := hrel
        have hbk := hb k
        by_cases hlt : k < sss.length
        · have hlt' : (k : Int) < sss.length := by omega
          obtain ⟨hc, hsl⟩ := hel k hlt (by have := HL.out; omega)
          replace hc := cell_later hbr hc
          replace hsl := hsl.below hbr
          have hbk2 := hb (k + 1)
          have HC : CKeep (catK sss (k + 1) = catK sss k ++ sss[k]) := ⟨catK_succ hlt⟩
          have hsm : (catK sss k).length + sss[k].length ≤ 4194304 := by rw [HC.out, List.length_append] at hbk2; exact hbk2
          clear hbk2 hown1 hb1
          have hbase := hbr.size
          have hown2 : wr.ownsRow w.heap.size 9 1 u6 (catK sss k).length ((catK sss k).map .string) := hown
          rcases hsl with ⟨hv, he⟩ | ⟨b, off, c, hv, hcs⟩
          · rw [hv] at hc
            rw [he, List.append_nil] at HC
            go_wp2_with (first | (at_builtin; refine wpList_append_own_none rfl _ _ 24 rfl w.heap.size 9 i0 1 Try.underlying24 hi _ _ _ rfl hown rfl ?_))
            go_roundw
            case rel => exact ⟨k + 1, by omega, by go_num, by rw [HC.out]; exact hown, hbr⟩
            case measure => simp [intOf]; omega
          · rw [hv] at hc
            have hnews := ss_news hcs
            have hone := ss_one sss[k]
            go_wp2_with (first | (at_builtin; refine wpList_append_own _ rfl _ _ 24 rfl w.heap.size 9 i0 _ 1 16 Try.underlying24 hi hz0 hz1 hz2 rfl (by decide) _ _ _ rfl hown ⟨b, off, none⟩ sss[k].length c (sss[k].map .string) rfl (by simp) hnews hone (by unfold maxLen; omega) (by omega) hbase ?_; intro v' w2 hown' hgrow _))
            go_roundw
            case rel => exact ⟨k + 1, by omega, by go_num, by rw [HC.out, List.length_append, List.map_append]; exact hown', hbr.grown hgrow hbr.size (fun j hj => owns_row_ge hown hj)⟩
            case measure => simp [intOf]; omega
        · obtain rfl : k = sss.length := by omega
          go_wp2
          go_ret
          rw [hcat.out] at hown
          exact ⟨_, rfl, hown, hbr⟩
end Go.Proofs.Ytnobhmljhijhcaa
