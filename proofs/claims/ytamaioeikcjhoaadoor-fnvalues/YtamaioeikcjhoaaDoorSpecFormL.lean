/-
  spec.l2Form at lists.
-/
import Derived.Test.YtamaioeikcjhoaaDoorOwnC
namespace Go.Proofs.YtamaioeikcjhoaaDoor
open Go.RowKit
set_option linter.unusedVariables false

set_option maxRecDepth 20000 in
set_option maxHeartbeats 2000000 in
theorem l2Form_list (a : Option Addr) (cap g co : Nat) (ts : List At) (ks : List (List Nat)) (f : List T) (x : Nat) (w : World) (hM : KMem w a ts g ks) (h300 : ts.length ≤ 300) (htot : ts.length + totalA ts ≤ 1048576) (hx : x < ts.length) (hk : x < ks.length) (hP : PlaceOk ts ks f x hx hk) (h1 : ts[x].kind = 4)
    (ih : ∀ y, y < x → ∀ w', KMem w' a ts g ks → Calls Tryd.prog 28 #[.agg #[.slice a ts.length cap], .slice (some ⟨g, 0, none⟩) ks.length co, .int .i64 y] w' fun e w2 => e = .returned (.string ⟨(fT f y).form.toArray⟩) ∧ Below w'.heap.size w' w2) :
    Calls Tryd.prog 28 #[.agg #[.slice a ts.length cap], .slice (some ⟨g, 0, none⟩) ks.length co, .int .i64 x] w fun e w' => e = .returned (.string ⟨(fT f x).form.toArray⟩) ∧ Below w.heap.size w w' := by
  obtain ⟨ba, off, rfl, hc⟩ := hM.atoms.at hx
  obtain ⟨c0, c1, c2, c3⟩ := hc x hx
  rw [h1] at c0
  rw [← hP.len] at c3
  have hba : ∀ o, Below w.heap.size w (w.alloc o) := fun o => (Below.refl _ _).alloc (Nat.le_refl _) _
  have hbb : ∀ o1 o2 o3, Below w.heap.size w (((w.alloc o1).alloc o2).alloc o3) := fun o1 o2 o3 => (((Below.refl _ _).alloc (Nat.le_refl _) _).alloc (by simp) _).alloc (by simp; omega) _
  have hT : fT f x = .list (ks[x].map (fT f)) := by
    have := hP.tree
    unfold mkT at this
    rw [if_neg (by omega), if_neg (by omega), if_neg (by omega), if_pos h1] at this
    split at this
    · simpa using this.symm
    · simp at this
  have HF : Hid ((fT f x).form = 4 :: (shortL ks[x].length ++ formL (ks[x].map (fT f)))) := by
    have : (fT f x).form = 4 :: (shortL ks[x].length ++ formL (ks[x].map (fT f))) := by rw [hT]; simp [T.form_list]
    exact this
  have hfl := hP.form h300
  rw [HF.out] at hfl
  simp only [List.length_cons, List.length_append] at hfl
  have hge := formL_ge (ks[x].map (fT f))
  rw [List.length_map] at hge
  obtain ⟨ui, hui, hrow⟩ := hM.rows x hk
  have hlow := hP.low
  generalize ks[x] = kd at *
  have hkd : kd.length ≤ 2000000 := by omega
  have hsl := shortL_le (n := kd.length) (by omega)
  obtain ⟨adi, ci, hsh⟩ := hrow.shape
  subst hsh
  have d0 : ∀ o, (w.alloc o).cell? ⟨ba, off + x * 4, none⟩ = _ := fun o => cell_later (hba o) c0
  have d1 : ∀ o, (w.alloc o).cell? ⟨ba, off + x * 4 + 1, none⟩ = _ := fun o => cell_later (hba o) c1
  have d2 : ∀ o, (w.alloc o).cell? ⟨ba, off + x * 4 + 2, none⟩ = _ := fun o => cell_later (hba o) c2
  have d3 : ∀ o, (w.alloc o).cell? ⟨ba, off + x * 4 + 3, none⟩ = _ := fun o => cell_later (hba o) c3
  have k1 : ∀ o1 o2, (convert 30 9 (.slice (some ⟨w.heap.size + 1 + 1, 0, none⟩) 1 1)).run Tryd.prog (((w.alloc o1).alloc o2).alloc (.cells #[.int .u8 4] 5)) = .ok (.string ⟨#[4]⟩) (((w.alloc o1).alloc o2).alloc (.cells #[.int .u8 4] 5)) := fun o1 o2 => conv_new _ 4 _ rfl _ (by simp)
  clear hc hP hT h1
  go_enter Tryd.func28, Tryd.ntmps28
  go_wp2_with fail
  refine (l2Short_any kd.length _ (by omega)).mono ?_
  rintro e w1 ⟨rfl, hb1⟩
  have hbw1 := (hbb _ _ _).trans (hb1.mono (hbb _ _ _).size)
  have hbox : w1.cell? ⟨w.heap.size, 0, none⟩ = some (.slice (some ⟨ba, off, none⟩) ts.length cap) := by
    exact cell_later hb1 (cell_later (((Below.refl _ _).alloc (Nat.le_refl _) _).alloc (by simp) _) (World.cell?_alloc_new w _ _ 0))
  obtain ⟨cp, w2, hconv, hownC, hb2⟩ := conv_own w1 w1.heap.size (⟨#[4]⟩ ++ ⟨(shortL kd.length).toArray⟩) (Nat.le_refl _)
  have hdat : (⟨#[4]⟩ ++ ⟨(shortL kd.length).toArray⟩ : ByteArray).data.toList = 4 :: shortL kd.length := by rw [show (⟨#[4]⟩ : ByteArray) = ⟨[4].toArray⟩ from rfl, cat_arr]; simp
  rw [hdat] at hownC
  clear hdat
  go_wp2
  go_loopw [9, 10] (fun v i wr => ∃ (k gg cp : Nat) (l : List UInt8), k ≤ kd.length ∧ i = .int .i64 k ∧ v = .slice (some ⟨gg, 0, none⟩) l.length cp ∧ l = 4 :: (shortL kd.length ++ formL ((kd.map (fT f)).take k)) ∧ OwnC wr w1.heap.size gg cp l ∧ Below w1.heap.size w1 wr) (fun _ i _ => kd.length - (intOf i).toNat)
  case atStart =>
    refine ⟨0, w1.heap.size, cp, 4 :: shortL kd.length, Nat.zero_le _, rfl, ?_, by simp [formL], hownC, hb2⟩
    simp only [List.length_cons]
    rw [Nat.add_comm]
  case round =>
    obtain ⟨k, gg, cp', l, hkk, rfl, rfl, hl, hO, hb⟩ := hrel
    have HL : Hid (l = 4 :: (shortL kd.length ++ formL ((kd.map (fT f)).take k))) := hl
    clear hl
    have hbx := cell_later hb hbox
    have hbw := hbw1.trans (hb.mono hbw1.size)
    have hMr := hM.below hbw
    have hur := cell_later hbw hui
    by_cases hlt : k < kd.length
    · obtain ⟨bi, ci', hsh, hci⟩ := hrow.at hlt
      simp only [Value.slice.injEq, true_and] at hsh
      obtain ⟨rfl, rfl⟩ := hsh
      have hcr := cell_later hbw (hci k hlt)
      have hs1 : w.heap.size + 3 ≤ w1.heap.size := by have := hb1.size; simpa using this
      have q1 : w.heap.size < w1.heap.size := by omega
      have q2 : g < w1.heap.size := by have := World.block_lt_of_cell? w _ hui; simp at this; omega
      have q3 : bi < w1.heap.size := by have := World.block_lt_of_cell? w _ (hci k hlt); simp at this; omega
      have hy : kd[k] < x := hlow _ (List.getElem_mem hlt)
      have HL' : Hid (4 :: (shortL kd.length ++ formL ((kd.map (fT f)).take (k + 1))) = l ++ (fT f kd[k]).form) := by
        have : 4 :: (shortL kd.length ++ formL ((kd.map (fT f)).take (k + 1))) = l ++ (fT f kd[k]).form := by rw [HL.out, formL_take _ k (by simpa using hlt), List.getElem_map]; simp
        exact this
      have hlen : l.length + (fT f kd[k]).form.length ≤ 1099511627776 := by
        have e := congrArg List.length HL'.out
        have e2 := formL_take_le (kd.map (fT f)) (k + 1)
        simp only [List.length_cons, List.length_append] at e
        omega
      have hcall := ih kd[k] hy wr.drew (hMr.below (Below.refl _ _).drew)
      have hbs : w1.heap.size ≤ wr.heap.size := hb.size
      generalize (fT f kd[k]).form = fk at *
      have hfs : (⟨fk.toArray⟩ : ByteArray).size = fk.length := rfl
      clear ih hM hMr hconv hownC
      go_wp2_with fail
      go_region_held3 (fun w' => w'.cell? ⟨w.heap.size, 0, none⟩ = some (.slice (some ⟨ba, off, none⟩) ts.length cap) ∧ w'.cell? ⟨g, x, none⟩ = some (.slice (some ⟨bi, 0, none⟩) kd.length ci) ∧ w'.cell? ⟨bi, k, none⟩ = some (.int .i64 (kd[k] : Int))) (first | go_keep | (exact ⟨e1, e2, e3⟩) | (exact ⟨below_cell hb4 q1 e1, below_cell hb4 q2 e2, below_cell hb4 q3 e3⟩))
        ((first | (go_at_call 28; refine hcall.mono ?_; rintro e w3 ⟨rfl, hb3⟩; have e1 := cell_later (w := wr.drew) hb3 hbx; have e2 := cell_later (w := wr.drew) hb3 hur; have e3 := cell_later (w := wr.drew) hb3 hcr; have hO3 := OwnC.below (w := wr.drew) ⟨hO.ge, hO.lt, hO.le, hO.cells, hO.room⟩ hb3) | (refine step_appC (by rfl) _ _ (by rfl) w1.heap.size gg cp' l (by rfl) hO3 ⟨fk.toArray⟩ (by rfl) hlen (Nat.le_trans hbs hb3.size) ?_; intro g4 cap4 w4 hO4 hb4)))
      have hbw4 : Below w1.heap.size w1 w4 := (hb.trans ((Below.refl _ _).drew.mono hbs |>.trans (hb3.mono hbs))).trans hb4
      clear hO hO3 hcall
      go_wp2
      go_roundw
      case rel =>
        refine ⟨k + 1, g4, cap4, l ++ fk, by omega, by go_num, by rw [List.length_append], HL'.out.symm, ?_, hbw4⟩
        exact hO4
      case measure => simp [intOf]; omega
    · obtain rfl : k = kd.length := by omega
      have hback := hO.back
      have HE : Hid ((fT f x).form = l) := by
        have e := HL.out
        rw [List.take_of_length_le (by simp)] at e
        have : (fT f x).form = l := HF.out.trans e.symm
        exact this
      clear hO ih hM hMr hconv
      go_wp2
      go_ret
      exact ⟨by rw [HE.out]; rfl, hbw⟩
end Go.Proofs.YtamaioeikcjhoaaDoor
