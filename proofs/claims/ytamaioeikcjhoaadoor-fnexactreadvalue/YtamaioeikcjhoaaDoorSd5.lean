/-
  spec.ReadValue.
-/
import Derived.Test.YtamaioeikcjhoaaDoorSd4
import Derived.Test.YtamaioeikcjhoaaDoorRdI8
import Derived.Test.YtamaioeikcjhoaaDoorMkV
import Derived.Test.YtamaioeikcjhoaaDoorSpecFormV
namespace Go.Proofs.YtamaioeikcjhoaaDoor
open Go.RowKit

theorem readV_tree {l : List UInt8} {ys : List At} (h : readV l = some ys) : ∃ t : T, t.good ∧ t.nest < 13 ∧ ys = t.atoms ∧ l = t.form ++ [] ∧ ys.length ≤ 300 := by
  unfold readV at h
  split at h
  · split at h
    · rename_i xs hx
      obtain ⟨t, h1, h2, h3, h4, h5⟩ := pVal_sound 13 300 l xs [] hx
      cases h
      exact ⟨t, h1, h2, h3, h4, h5⟩
    · cases h
  · cases h
theorem readV_bad {s : ByteArray} {xs : List At} {p' n' : Nat} (h : VF s 0 0 13 xs p' n' true) : readV s.data.toList = none := by
  cases hr : readV s.data.toList with
  | none => rfl
  | some ys =>
    exfalso
    obtain ⟨t, h1, h2, h3, h4, h5⟩ := readV_tree hr
    have := h t [] h1 h2 (by unfold rst; rw [List.drop_zero]; exact h4) (by rw [← h3]; omega)
    exact absurd this.2.1 (by simp)
theorem readV_not {s : ByteArray} {xs : List At} {p' n' : Nat} {bad' : Bool} (h : VF s 0 0 13 xs p' n' bad') (hne : formV xs ≠ s) : readV s.data.toList = none := by
  cases hr : readV s.data.toList with
  | none => rfl
  | some ys =>
    exfalso
    obtain ⟨t, h1, h2, h3, h4, h5⟩ := readV_tree hr
    have := h t [] h1 h2 (by unfold rst; rw [List.drop_zero]; exact h4) (by rw [← h3]; omega)
    have hf := (read_form hr).1
    rw [h3, ← this.1] at hf
    exact hne (hf.trans (mkL_data s))
theorem readV_yes {s : ByteArray} {xs : List At} (he : formV xs = s) (hs : s.size ≠ 0) (hr : InR xs) : readV s.data.toList = some xs := by
  refine form_read (he.trans (mkL_data s).symm) (fun h => hs ?_) hr
  have : s.data.toList.length = 0 := by rw [h]; rfl
  simpa using this

set_option maxRecDepth 20000 in
set_option maxHeartbeats 2000000 in
theorem specRead_any (s : ByteArray) (hs : s.size ≤ 1048576) (w : World) :
    Calls Tryd.prog 5 #[.string s] w fun e w' => RvPost s.data.toList w e w' := by
  have hb0 : Below w.heap.size w (w.alloc (.cells #[.slice none 0 0] 24)) := (Below.refl _ _).alloc (Nat.le_refl _) _
  have hno : readV s.data.toList = none → RvPost s.data.toList w (.returned (.tuple #[.agg #[.slice none 0 0], .bool false])) (w.alloc (.cells #[.slice none 0 0] 24)) := fun h => ⟨hb0, .inl ⟨h, rfl⟩⟩
  by_cases hz : s.size = 0
  · have hs0 := ba0 hz
    subst hs0
    have HP : RKeep (RvPost (⟨#[]⟩ : ByteArray).data.toList w (.returned (.tuple #[.agg #[.slice none 0 0], .bool false])) (w.alloc (.cells #[.slice none 0 0] 24))) := ⟨hno rfl⟩
    clear hno
    go_enter Tryd.func5, Tryd.ntmps5
    go_wp2
    refine bodyPost_ret (v := .tuple #[.agg #[.slice none 0 0], .bool false]) ?_ rfl HP.out
    go_light
    simp [results, Tryd.results5, go_sem]
  · have hz1 : (s.toList == []) = false := by have := bs_diff (x := s) (y := mkL []) (fun e => hz (by rw [e]; rfl)); rwa [mkL_toList] at this
    by_cases hb : 100000 < s.size
    · have hb1 : (100000 : Int) < s.size := by omega
      have HP : RKeep (RvPost s.data.toList w (.returned (.tuple #[.agg #[.slice none 0 0], .bool false])) (w.alloc (.cells #[.slice none 0 0] 24))) := ⟨hno (by unfold readV; rw [if_neg (by simp; omega)])⟩
      clear hno
      go_enter Tryd.func5, Tryd.ntmps5
      go_wp2
      refine bodyPost_ret (v := .tuple #[.agg #[.slice none 0 0], .bool false]) ?_ rfl HP.out
      go_light
      simp [results, Tryd.results5, go_sem]
    · have hb1 : ¬ (100000 : Int) < s.size := by omega
      clear hno
      have hd : DK (w.heap.size + 1) ((w.alloc (.cells #[.slice none 0 0] 24)).alloc (.cells #[.string s, .int .i64 0, .bool false, .int .i64 0] 37)) s 0 0 false := ⟨by simp, by simp, by simp, by simp, fun j => by simp⟩
      have hb2 : Below w.heap.size w ((w.alloc (.cells #[.slice none 0 0] 24)).alloc (.cells #[.string s, .int .i64 0, .bool false, .int .i64 0] 37)) := hb0.alloc (by simp) _
      have r0 : ((w.alloc (.cells #[.slice none 0 0] 24)).alloc (.cells #[.string s, .int .i64 0, .bool false, .int .i64 0] 37)).cell? ⟨w.heap.size, 0, none⟩ = some (.slice none 0 0) := by simp [go_sem]
      have rf : ((w.alloc (.cells #[.slice none 0 0] 24)).alloc (.cells #[.string s, .int .i64 0, .bool false, .int .i64 0] 37)).frozen? ⟨w.heap.size, 0, none⟩ = false := by simp [go_sem]
      have hsz0 : ((w.alloc (.cells #[.slice none 0 0] 24)).alloc (.cells #[.string s, .int .i64 0, .bool false, .int .i64 0] 37)).heap.size = w.heap.size + 2 := by simp
      have hcall := dvalue_any (w.heap.size + 1) 13 0 rfl _ s 0 0 false hd (Nat.zero_le _) (by omega) (by omega)
      rw [show (((0 : Nat) : Int)) = 0 from rfl] at hcall
      go_enter Tryd.func5, Tryd.ntmps5
      go_wp2_with fail
      refine hcall.mono ?_
      rintro e w1 ⟨g, cap, xs, p', n', bad', rfl, hg, hd1, hown, ht, hp', hn', hn2, hn3, hin, hbb, HK⟩
      clear hcall hd
      rw [hsz0] at hown
      have hb3 : Below w.heap.size w w1 := hb2.grown hg (by rw [hsz0]; omega) (fun k hk => by cases hk; omega)
      have r1 := (hg.cell_far ⟨w.heap.size, 0, none⟩ (by rw [hsz0]; show w.heap.size < _; omega) (by simp)).trans r0
      have rf1 := (hg.frozen_far ⟨w.heap.size, 0, none⟩ (by rw [hsz0]; show w.heap.size < _; omega) (by simp)).trans rf
      have hlt1 : w.heap.size < w1.heap.size := lt_of_cellR r1
      have hal := al_of_row hown
      have hbA : Below w1.heap.size w1 (w1.alloc (.cells #[.slice (some ⟨g, 0, none⟩) xs.length cap] 24)) := (Below.refl _ _).alloc (Nat.le_refl _) _
      have hV : RKeep (VF s 0 0 13 xs p' n' bad') := ⟨HK.out rfl⟩
      have hb4 : Below w.heap.size w (w1.alloc (.cells #[.slice (some ⟨g, 0, none⟩) xs.length cap] 24)) := hb3.trans (hbA.mono hb3.size)
      have q0 := cell_later hbA r1
      have qf := (hbA.frozen (p := ⟨w.heap.size, 0, none⟩) hlt1).trans rf1
      have q1 : (w1.alloc (.cells #[.slice (some ⟨g, 0, none⟩) xs.length cap] 24)).cell? ⟨w1.heap.size, 0, none⟩ = some (.slice (some ⟨g, 0, none⟩) xs.length cap) := by simp
      have q2 := cell_later hbA hd1.c2
      have hown4 := owns_below hown hbA
      have hAS := (hal.below hbA).as
      have hkA : w1.heap.size < (w1.alloc (.cells #[.slice (some ⟨g, 0, none⟩) xs.length cap] 24)).heap.size := by simp
      clear HK hg r0 rf hsz0 hb2 hb0 hd1 hown hal hbA r1 rf1 hb3
      go_upto_region 5 with fail
      generalize w1.alloc (.cells #[.slice (some ⟨g, 0, none⟩) xs.length cap] 24) = wA at *
      generalize w1.heap.size = kA at *
      cases bad' with
      | true =>
        have hnone : RKeep (readV s.data.toList = none) := ⟨readV_bad hV.out⟩
        have HP : RKeep (RvPost s.data.toList w (.returned (.tuple #[.agg #[.slice none 0 0], .bool false])) ((wA).setCell ⟨w.heap.size, 0, none⟩ (.slice none 0 0))) := ⟨hb4.setCell (p := ⟨w.heap.size, 0, none⟩) (Nat.le_refl _) _, .inl ⟨hnone.out, rfl⟩⟩
        have k0 : ((wA).setCell ⟨w.heap.size, 0, none⟩ (.slice none 0 0)).cell? ⟨w.heap.size, 0, none⟩ = some (.slice none 0 0) := World.cell?_setCell_same _ _ _ q0
        clear hnone hV hown4
        go_wp2
        refine bodyPost_ret (v := .tuple #[.agg #[.slice none 0 0], .bool false]) ?_ rfl HP.out
        go_light
        simp [results, Tryd.results5, go_sem, k0]
      | false =>
        have htot : xs.length + totalA xs ≤ 1048576 := by omega
        have hf := specForm_any (some ⟨g, 0, none⟩) cap xs (wA) hAS htot (fun a ha => by have := size_le_totalA xs a ha; unfold maxLen; omega)
        clear hAS
        go_wp2_with fail
        refine hf.mono ?_
        rintro e w5 ⟨rfl, hb5⟩
        clear hf
        have z0 := cell_later hb5 q0
        have z1 := cell_later hb5 q1
        have zf := (hb5.frozen (p := ⟨w.heap.size, 0, none⟩) (by show w.heap.size < wA.heap.size; omega)).trans qf
        have hb6 : Below w.heap.size w w5 := hb4.trans (hb5.mono hb4.size)
        have hown5 := owns_below hown4 hb5
        clear hown4 q0 q1 q2 qf hb5 hb4
        by_cases he : formV xs = s
        · have hyes : RKeep (readV s.data.toList = some xs) := ⟨readV_yes he hz hin⟩
          have hne : (Value.slice (some ⟨g, 0, none⟩) xs.length cap).ownBlock ≠ some w.heap.size := fun e => by have := owns_base hown5 _ e; omega
          have hk := hown5.kept (row := some w.heap.size) (w' := w5.setCell ⟨w.heap.size, 0, none⟩ (.slice (some ⟨g, 0, none⟩) xs.length cap)) (dk_set _ _ _ _) (Or.inr hne)
          have HP : RKeep (RvPost s.data.toList w (.returned (.tuple #[.agg #[.slice (some ⟨g, 0, none⟩) xs.length cap], .bool true])) (w5.setCell ⟨w.heap.size, 0, none⟩ (.slice (some ⟨g, 0, none⟩) xs.length cap))) := ⟨hb6.setCell (p := ⟨w.heap.size, 0, none⟩) (Nat.le_refl _) _, .inr ⟨xs, _, hyes.out, rfl, dk_low hk (by omega)⟩⟩
          have k0 : (w5.setCell ⟨w.heap.size, 0, none⟩ (.slice (some ⟨g, 0, none⟩) xs.length cap)).cell? ⟨w.heap.size, 0, none⟩ = some (.slice (some ⟨g, 0, none⟩) xs.length cap) := World.cell?_setCell_same _ _ _ z0
          have hcmp := bs_same he
          clear hyes hne hk hown5 hV he
          generalize formV xs = fv at *
          go_wp2
          refine bodyPost_ret (v := .tuple #[.agg #[.slice (some ⟨g, 0, none⟩) xs.length cap], .bool true]) ?_ rfl HP.out
          go_light
          simp [results, Tryd.results5, go_sem, k0]
        · have hnone : RKeep (readV s.data.toList = none) := ⟨readV_not hV.out he⟩
          have HP : RKeep (RvPost s.data.toList w (.returned (.tuple #[.agg #[.slice none 0 0], .bool false])) (w5.setCell ⟨w.heap.size, 0, none⟩ (.slice none 0 0))) := ⟨hb6.setCell (p := ⟨w.heap.size, 0, none⟩) (Nat.le_refl _) _, .inl ⟨hnone.out, rfl⟩⟩
          have k0 : (w5.setCell ⟨w.heap.size, 0, none⟩ (.slice none 0 0)).cell? ⟨w.heap.size, 0, none⟩ = some (.slice none 0 0) := World.cell?_setCell_same _ _ _ z0
          have hcmp := bs_diff he
          clear hnone hV hown5 he
          generalize formV xs = fv at *
          go_wp2
          refine bodyPost_ret (v := .tuple #[.agg #[.slice none 0 0], .bool false]) ?_ rfl HP.out
          go_light
          simp [results, Tryd.results5, go_sem, k0]
end Go.Proofs.YtamaioeikcjhoaaDoor
