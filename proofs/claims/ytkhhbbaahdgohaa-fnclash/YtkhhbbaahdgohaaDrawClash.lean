/-
  spec.DrawClash: a list of at most 3001 short texts and a number.
-/
import Derived.Test.YtkhhbbaahdgohaaPick
import Derived.Test.YtkhhbbaahdgohaaStrs
import Derived.Test.YtkhhbbaahdgohaaClash
import Derived.Deep.RegionWith
namespace Go.Proofs.Ytkhhbbaahdgohaa
open Go.RowKit

theorem owns_pick {w w' : World} {g base : Nat} {e : TypeId} {size : Nat} {v : Value} {n : Nat} {xs : List Value} (h : w.ownsRow base e size v n xs) (hg : w.grownBy w' (some g)) (hb : g < base) : w'.ownsRow base e size v n xs := by
  refine h.kept hg ?_
  cases hv : v.ownBlock with
  | none => exact .inl rfl
  | some j => exact .inr (by have := owns_row_ge h hv; simp; omega)

def lenOf : Value → Nat | .slice _ n _ => n | _ => 0
theorem Rd.drew {w : World} {g : Nat} {a : Option Addr} {cap : Nat} {zs : List Int} {p : Nat} (h : Rd w g a cap zs p) : Rd w.drew g a cap zs p := ⟨h.bytes, h.len, h.wf, h.c0, h.c1, h.f1⟩
theorem lit5 (q : Nat) (hq : q < 5) : ∃ c : Int, (#[.int .i64 1, .int .i64 1, .int .i64 1, .int .i64 2, .int .i64 8] : Array Value)[q]? = some (.int .i64 c) := by
  match q, hq with
  | 0, _ => exact ⟨_, rfl⟩
  | 1, _ => exact ⟨_, rfl⟩
  | 2, _ => exact ⟨_, rfl⟩
  | 3, _ => exact ⟨_, rfl⟩
  | 4, _ => exact ⟨_, rfl⟩
theorem lit2 (q : Nat) (hq : q < 2) : ∃ c : Int, (#[.int .i64 0, .int .i64 9] : Array Value)[q]? = some (.int .i64 c) := by
  match q, hq with
  | 0, _ => exact ⟨_, rfl⟩
  | 1, _ => exact ⟨_, rfl⟩
theorem ss_own {w : World} {base : Nat} {ad : Option Addr} {cp : Nat} {ss : List ByteArray} (h : w.ownsRow base 9 1 (.slice ad ss.length cp) ss.length (ss.map .string)) : SS w ad ss := by
  rcases h.2 with ⟨_, h0⟩ | ⟨g, cap, cur, hv, _⟩
  · left; exact List.eq_nil_of_length_eq_zero h0
  · simp only [Value.slice.injEq, true_and] at hv
    obtain ⟨rfl, rfl⟩ := hv
    refine .inr ⟨g, 0, rfl, fun i hi => ?_⟩
    rw [Nat.zero_add, h.cellAt i (by omega), List.getElem?_map, List.getElem?_eq_getElem hi]
    rfl
theorem conv_three (y1 y2 y3 : Int) (w w' : World) (h : Nat) (hh : h ≤ 3) {g : Nat} (hg : (w.alloc (.cells #[.int .u8 y1, .int .u8 y2, .int .u8 y3] 5)).grownBy w' (some g)) (hlt : g < w.heap.size) :
    (convert 24 9 (.slice (some ⟨w.heap.size, 0, none⟩) h 3)).run Try.prog w' = .ok (.string (strOfNums ([y1, y2, y3].take h))) w' := by
  refine run_convert_bytes_arg _ 24 5 Try.underlying24 Try.underlying5 _ 0 h 3 _ (by simp; omega) ?_ 9 Try.underlying9
  intro i hi
  refine hg.cell (v := .int .u8 (([y1, y2, y3].take h).getD i 0)) ?_ (by simp; omega)
  have : i < 3 := by omega
  match i, this with
  | 0, _ => simp [List.getD, hi]
  | 1, _ => simp [List.getD, hi]
  | 2, _ => simp [List.getD, hi]

set_option maxHeartbeats 2000000 in
theorem draw_any (a : Option Addr) (cap : Nat) (zs : List Int) (w : World) (h : Code0 w a cap zs) :
    Calls Try.prog 8 #[.slice a zs.length cap] w fun e w' => ∃ (a' : Option Addr) (cap' : Nat) (ss : List ByteArray) (m : Int), e = .returned (.tuple #[.slice a' ss.length cap', .int .i64 m]) ∧ SS w' a' ss ∧ ss.length ≤ 3001 ∧ (∀ s ∈ ss, s.size ≤ 4) ∧ Below w.heap.size w w' := by
  obtain ⟨i0, hi, hz0, hz1, hz2⟩ := info_parts Try.infoStr
  go_enter Try.func8, Try.ntmps8
  go_wp2_with fail
  refine (open_any a cap zs w h).mono ?_
  rintro e w1 ⟨rfl, hb1, hz1', zs', hR1⟩
  go_wp2_with fail
  refine (pick_int _ _ _ _ _ _ _ (hR1.kept (World.grownBy_alloc _ _ none) (fun k hk => by cases hk)) (by omega) (by omega)).mono ?_
  rintro e w2 ⟨x0, rfl, hx0, hx0', hg2, hR2⟩
  go_wp2_with fail
  go_loopw [5, 7] (fun v i wr => ∃ (k p : Nat) (ss : List ByteArray), (k : Int) ≤ 10 + x0 ∧ i = .int .i64 k ∧ p ≤ 4 * k + 1 ∧ ss.length = k ∧ (∀ s ∈ ss, s.size ≤ 4) ∧ wr.ownsRow (w.heap.size + 1) 9 1 v k (ss.map .string) ∧ Rd wr w.heap.size a cap zs' p ∧ Below w.heap.size w wr) (fun _ i _ => (10 + x0 - intOf i).toNat)
  case atStart =>
    have hw1 : w1.heap.size = w.heap.size + 1 := hz1'
    refine ⟨0, 1, [], by omega, rfl, by omega, rfl, by simp, ?_, hR2, ?_⟩
    · refine owns_pick (w := w1.alloc (Obj.cells #[] 9)) ?_ hg2 (by omega)
      exact ⟨by simp, .inr ⟨w1.heap.size, 0, #[], by rw [hw1], by omega, heap_alloc_new w1 _, Nat.le_refl _, by unfold maxLen; omega, rfl, by simp⟩⟩
    · exact (hb1.alloc hb1.size _).grown hg2 (by simp; omega) (fun j hj => by cases hj; exact Nat.le_refl _)
  case round =>
    obtain ⟨k, p, ss, hk, rfl, hp, hsl, hss, hown, hR, hb⟩ := hrel
    by_cases hlt : (k : Int) < 10 + x0
    · go_wp2_with fail
      refine (pick_int _ _ _ _ _ _ _ hR (by omega) (by omega)).mono ?_
      rintro e w3 ⟨x1, rfl, hx1, hx1', hg3, hR3⟩
      go_wp2_with fail
      refine (pick_int _ _ _ _ _ _ _ hR3 (by omega) (by omega)).mono ?_
      rintro e w4 ⟨x2, rfl, hx2, hx2', hg4, hR4⟩
      go_wp2_with fail
      refine (pick_int _ _ _ _ _ _ _ hR4 (by omega) (by omega)).mono ?_
      rintro e w5 ⟨x3, rfl, hx3, hx3', hg5, hR5⟩
      go_wp2_with fail
      generalize (97 + x1) = y1
      generalize (97 + (x2 + (k : Int)) % 26) = y2
      generalize (wrap64 (97 + (wrap64 (x3 + wrap64 ((k : Int) * k))).tmod 26) % 256) = y3
      refine (pick_int _ _ _ _ _ _ _ (hR5.kept (World.grownBy_alloc _ _ none) (fun k hk => by cases hk)) (by omega) (by omega)).mono ?_
      rintro e w6 ⟨x4, rfl, hx4, hx4', hg6, hR6⟩
      obtain ⟨q, hq, hq3⟩ : ∃ q : Nat, ((k : Int) + x4) % 3 = q ∧ q < 3 := ⟨(((k : Int) + x4) % 3).toNat, by omega, by omega⟩
      have hcv := conv_three y1 y2 y3 w5 w6 (1 + q) (by omega) hg6 hR5.lt
      clear hx1 hx1' hx2 hx2' hx3 hx3'
      have hown6 := owns_pick ((owns_pick (owns_pick (owns_pick hown hg3 (by omega)) hg4 (by omega)) hg5 (by omega)).alloc (.cells #[.int .u8 y1, .int .u8 y2, .int .u8 y3] 5)) hg6 (by omega)
      have hlt6 := hR6.lt
      have hb6 : Below w.heap.size w w6 := ((((hb.grown hg3 hb.size (fun j hj => by cases hj; exact Nat.le_refl _)).grown hg4 (Nat.le_trans hb.size hg3.size) (fun j hj => by cases hj; exact Nat.le_refl _)).grown hg5 (Nat.le_trans (Nat.le_trans hb.size hg3.size) hg4.size) (fun j hj => by cases hj; exact Nat.le_refl _)).alloc (Nat.le_of_lt hR5.lt) _).grown hg6 (by have := hR5.lt; simp; omega) (fun j hj => by cases hj; exact Nat.le_refl _)
      generalize hs : strOfNums ([y1, y2, y3].take (1 + q)) = s at *
      have hs4 : s.size ≤ 4 := by rw [← hs, strOfNums_size]; simp; omega
      clear hs hown
      go_wp2_with (at_builtin; refine wpList_append_own _ rfl _ _ 25 rfl (w.heap.size + 1) 9 i0 _ 1 16 Try.underlying25 hi hz0 hz1 hz2 rfl (by decide) _ _ _ rfl (hown6.alloc _) ⟨w6.heap.size, 0, none⟩ 1 1 [.string s] rfl rfl (cell_one_new _ _ _) (by simp [Value.oneCell']) (by unfold maxLen; omega) (by omega) (by simp; omega) ?_; intro v' w7 hown7 hgrow7 _)
      go_roundw
      case rel =>
        refine ⟨k + 1, p + 4, ss ++ [s], by omega, by go_num, by omega, by simp [hsl], ?_, by rw [List.map_append]; exact hown7, ?_, ?_⟩
        · intro t ht
          rcases List.mem_append.1 ht with h' | h'
          · exact hss t h'
          · simp at h'; rw [h']; exact hs4
        · exact (hR6.kept (World.grownBy_alloc _ _ none) (fun k hk => by cases hk)).kept hgrow7 (fun j hj => owns_row_ge hown6 hj)
        · exact (hb6.alloc hb6.size _).grown hgrow7 (by have := hb6.size; simp; omega) (fun j hj => by have := owns_row_ge hown6 hj; omega)
      case measure => simp [intOf]; omega
    · obtain ⟨ad, cp, rfl⟩ := owns_slice hown
      have hp2 : p ≤ 1000 := by omega
      have hk2 : k ≤ 49 := by omega
      clear hg2 hR2 hb1 hR1 hk
      go_wp2_with fail
      refine (pick_int _ _ _ _ _ _ _ hR (by omega) (by omega)).mono ?_
      rintro e w3 ⟨x, rfl, hx, hx', hg3, hR3⟩
      have hown3 := owns_pick hown hg3 (by omega)
      have hb3 := hb.grown hg3 hb.size (fun j hj => by cases hj; exact Nat.le_refl _)
      clear hown hb hR hg3
      by_cases h0 : x = 0
      · subst h0
        go_wp2_with fail
        go_loopw [5] (fun v wr => ∃ (n p : Nat) (ss : List ByteArray) (ad : Option Addr) (cp : Nat), n ≤ 3001 ∧ v = .slice ad n cp ∧ p ≤ 2000 + n ∧ ss.length = n ∧ (∀ s ∈ ss, s.size ≤ 4) ∧ wr.ownsRow (w.heap.size + 1) 9 1 v n (ss.map .string) ∧ Rd wr w.heap.size a cap zs' p ∧ Below w.heap.size w wr) (fun v _ => 3001 - lenOf v)
        case atStart => exact ⟨k, p + 1, ss, ad, cp, by omega, rfl, by omega, hsl, hss, hown3, hR3, hb3⟩
        case round =>
          obtain ⟨n, p4, ss4, ad4, cp4, hn4, rfl, hp4, hsl4, hss4, hown4, hR4, hb4⟩ := hrel
          clear hown3 hR3 hb3 hss hsl
          go_wp2_with fail
          refine (pick_int _ _ _ _ _ _ _ hR4 (by omega) (by omega)).mono ?_
          rintro e w5 ⟨y, rfl, hy, hy', hg5, hR5⟩
          have hown5 := owns_pick hown4 hg5 (by omega)
          have hb5 := hb4.grown hg5 hb4.size (fun j hj => by cases hj; exact Nat.le_refl _)
          by_cases hlt4 : (n : Int) < 3000 + y
          · have hlt5 := hR5.lt
            clear hown4 hR4 hb4
            go_wp2_with (at_builtin; refine wpList_append_own _ rfl _ _ 25 rfl (w.heap.size + 1) 9 i0 _ 1 16 Try.underlying25 hi hz0 hz1 hz2 rfl (by decide) _ _ _ rfl (hown5.alloc _) ⟨w5.heap.size, 0, none⟩ 1 1 [.string ⟨#[115, 97, 109, 101]⟩] rfl rfl (cell_one_new _ _ _) (by simp [Value.oneCell']) (by unfold maxLen; omega) (by omega) (by simp; omega) ?_; intro v' w7 hown7 hgrow7 _)
            obtain ⟨ad7, cp7, rfl⟩ := owns_slice hown7
            go_roundw
            case rel =>
              refine ⟨n + 1, p4 + 1, ss4 ++ [⟨#[115, 97, 109, 101]⟩], ad7, cp7, by omega, rfl, by omega, by simp [hsl4], ?_, by rw [List.map_append]; exact hown7, ?_, ?_⟩
              · intro t ht
                rcases List.mem_append.1 ht with h' | h'
                · exact hss4 t h'
                · simp at h'; rw [h']; decide
              · exact (hR5.kept (World.grownBy_alloc _ _ none) (fun k hk => by cases hk)).kept hgrow7 (fun j hj => owns_row_ge hown5 hj)
              · exact (hb5.alloc hb5.size _).grown hgrow7 (by have := hb5.size; simp; omega) (fun j hj => by have := owns_row_ge hown5 hj; omega)
            case measure => simp [lenOf]; omega
          · go_wp2_with fail
            have hlt5 := hR5.lt
            have hl5 := lit5
            go_region_with (go_at_call 18; first | (refine (pick_int _ _ _ _ _ _ _ (hR5.drew.kept (World.grownBy_alloc _ _ none) (fun k hk => by cases hk)) (by omega) (by omega)).mono ?_; rintro e w4 ⟨x4, rfl, hx4, hx4', hg4, hR4⟩; obtain ⟨q, rfl, hq⟩ : ∃ q : Nat, x4 = q ∧ q < 5 := ⟨x4.toNat, by omega, by omega⟩; obtain ⟨c, hc⟩ := hl5 q hq; have hcell := hg4.cell (a := ⟨w5.heap.size, q, none⟩) (v := .int .i64 c) ((World.cell?_alloc_new _ _ _ _).trans hc) (by simp; omega)) | (refine (pick_int _ _ _ _ _ _ _ hR5.drew (by omega) (by omega)).mono ?_; rintro e w4 ⟨x4, rfl, hx4, hx4', hg4, hR4⟩; obtain ⟨q, rfl, hq⟩ : ∃ q : Nat, x4 = q ∧ q < 5 := ⟨x4.toNat, by omega, by omega⟩; obtain ⟨c, hc⟩ := hl5 q hq))
            all_goals go_wp2
            all_goals go_ret2
            · obtain rfl := hsl4
              refine ⟨ad4, cp4, ss4, c, rfl, ss_own (owns_pick (hown5.drew.alloc _) hg4 (by omega)), by omega, hss4, (hb5.drew.alloc (by exact hb5.size) _).grown hg4 (by have := hb5.size; simp; omega) (fun j hj => by cases hj; exact Nat.le_refl _)⟩
            · obtain rfl := hsl4
              refine ⟨ad4, cp4, ss4, c, ?_, ss_own ((owns_pick hown5.drew hg4 (by omega)).alloc _), by omega, hss4, (hb5.drew.grown hg4 hb5.size (fun j hj => by cases hj; exact Nat.le_refl _)).alloc (by have := hb5.size; have := hg4.size; simp at this; omega) _⟩
              rw [Array.getElem?_eq_getElem (by simpa using hq)] at hc
              simp [Act.put]
              simpa using hc
      · have h0B : (x == 0) = false := by simpa using h0
        by_cases h1 : x = 1
        · subst h1
          go_wp2_with fail
          have hlt3 := hR3.lt
          have hl2 := lit2
          go_region_with (go_at_call 18; first | (refine (pick_int _ _ _ _ _ _ _ (hR3.drew.kept (World.grownBy_alloc _ _ none) (fun k hk => by cases hk)) (by omega) (by omega)).mono ?_; rintro e w4 ⟨x4, rfl, hx4, hx4', hg4, hR4⟩; obtain ⟨q, rfl, hq⟩ : ∃ q : Nat, x4 = q ∧ q < 2 := ⟨x4.toNat, by omega, by omega⟩; obtain ⟨c, hc⟩ := hl2 q hq; have hcell := hg4.cell (a := ⟨w3.heap.size, q, none⟩) (v := .int .i64 c) ((World.cell?_alloc_new _ _ _ _).trans hc) (by simp; omega)) | (refine (pick_int _ _ _ _ _ _ _ hR3.drew (by omega) (by omega)).mono ?_; rintro e w4 ⟨x4, rfl, hx4, hx4', hg4, hR4⟩; obtain ⟨q, rfl, hq⟩ : ∃ q : Nat, x4 = q ∧ q < 2 := ⟨x4.toNat, by omega, by omega⟩; obtain ⟨c, hc⟩ := hl2 q hq))
          all_goals go_wp2
          all_goals go_ret2
          · obtain rfl := hsl
            refine ⟨ad, cp, ss, c, rfl, ss_own (owns_pick (hown3.drew.alloc _) hg4 (by omega)), by omega, hss, (hb3.drew.alloc (by exact hb3.size) _).grown hg4 (by have := hb3.size; simp; omega) (fun j hj => by cases hj; exact Nat.le_refl _)⟩
          · obtain rfl := hsl
            refine ⟨ad, cp, ss, c, ?_, ss_own ((owns_pick hown3.drew hg4 (by omega)).alloc _), by omega, hss, (hb3.drew.grown hg4 hb3.size (fun j hj => by cases hj; exact Nat.le_refl _)).alloc (by have := hb3.size; have := hg4.size; simp at this; omega) _⟩
            rw [Array.getElem?_eq_getElem (by simpa using hq)] at hc
            simp [Act.put]
            simpa using hc
        · have h1B : (x == 1) = false := by simpa using h1
          go_wp2_with fail
          have hlt3 := hR3.lt
          have hl5 := lit5
          go_region_with (go_at_call 18; first | (refine (pick_int _ _ _ _ _ _ _ (hR3.drew.kept (World.grownBy_alloc _ _ none) (fun k hk => by cases hk)) (by omega) (by omega)).mono ?_; rintro e w4 ⟨x4, rfl, hx4, hx4', hg4, hR4⟩; obtain ⟨q, rfl, hq⟩ : ∃ q : Nat, x4 = q ∧ q < 5 := ⟨x4.toNat, by omega, by omega⟩; obtain ⟨c, hc⟩ := hl5 q hq; have hcell := hg4.cell (a := ⟨w3.heap.size, q, none⟩) (v := .int .i64 c) ((World.cell?_alloc_new _ _ _ _).trans hc) (by simp; omega)) | (refine (pick_int _ _ _ _ _ _ _ hR3.drew (by omega) (by omega)).mono ?_; rintro e w4 ⟨x4, rfl, hx4, hx4', hg4, hR4⟩; obtain ⟨q, rfl, hq⟩ : ∃ q : Nat, x4 = q ∧ q < 5 := ⟨x4.toNat, by omega, by omega⟩; obtain ⟨c, hc⟩ := hl5 q hq))
          all_goals go_wp2
          all_goals go_ret2
          · obtain rfl := hsl
            refine ⟨ad, cp, ss, c, rfl, ss_own (owns_pick (hown3.drew.alloc _) hg4 (by omega)), by omega, hss, (hb3.drew.alloc (by exact hb3.size) _).grown hg4 (by have := hb3.size; simp; omega) (fun j hj => by cases hj; exact Nat.le_refl _)⟩
          · obtain rfl := hsl
            refine ⟨ad, cp, ss, c, ?_, ss_own ((owns_pick hown3.drew hg4 (by omega)).alloc _), by omega, hss, (hb3.drew.grown hg4 hb3.size (fun j hj => by cases hj; exact Nat.le_refl _)).alloc (by have := hb3.size; have := hg4.size; simp at this; omega) _⟩
            rw [Array.getElem?_eq_getElem (by simpa using hq)] at hc
            simp [Act.put]
            simpa using hc
end Go.Proofs.Ytkhhbbaahdgohaa
