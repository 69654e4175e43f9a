/-
  spec.l2Form at records.
-/
import Derived.Test.YtamaioeikcjhoaaDoorSpecFormL
namespace Go.Proofs.YtamaioeikcjhoaaDoor
open Go.RowKit
set_option linter.unusedVariables false

/-- The bytes of a record's pairs, k kids on. -/
def pairs (ns : List ByteArray) (vs : List T) (k : Nat) : List UInt8 :=
  formF ns (vs.take (k / 2)) ++ (if k % 2 = 1 then shortL (ns.getD (k / 2) ⟨#[]⟩).size ++ (ns.getD (k / 2) ⟨#[]⟩).data.toList else [])
theorem pairs_even {ns : List ByteArray} {vs : List T} {k : Nat} (h : k % 2 = 0) : pairs ns vs (k + 1) = pairs ns vs k ++ (shortL (ns.getD (k / 2) ⟨#[]⟩).size ++ (ns.getD (k / 2) ⟨#[]⟩).data.toList) := by
  unfold pairs
  rw [if_pos (by omega), if_neg (by omega), show (k + 1) / 2 = k / 2 by omega, List.append_nil]
theorem pairs_odd {ns : List ByteArray} {vs : List T} {k : Nat} (h : k % 2 = 1) (hv : k / 2 < vs.length) : pairs ns vs (k + 1) = pairs ns vs k ++ vs[k / 2].form := by
  unfold pairs
  rw [if_neg (by omega), if_pos h, show (k + 1) / 2 = k / 2 + 1 by omega, formF_take ns vs (k / 2) hv, List.append_nil, List.append_assoc, List.append_assoc, List.append_assoc]
theorem pairs_le {ns : List ByteArray} {vs : List T} {k : Nat} (h : k ≤ 2 * vs.length) : (pairs ns vs k).length ≤ (formF ns vs).length := by
  by_cases e : k % 2 = 1
  · have h1 := formF_take_le ns vs (k / 2 + 1) (by omega)
    rw [formF_take ns vs (k / 2) (by omega)] at h1
    unfold pairs
    rw [if_pos e]
    simp only [List.length_append] at h1 ⊢
    omega
  · have h1 := formF_take_le ns vs (k / 2) (by omega)
    unfold pairs
    rw [if_neg e, List.append_nil]
    exact h1

set_option maxRecDepth 20000 in
set_option maxHeartbeats 2000000 in
theorem l2Form_rec (a : Option Addr) (cap g co : Nat) (ts : List At) (ks : List (List Nat)) (f : List T) (x : Nat) (w : World) (hM : KMem w a ts g ks) (h300 : ts.length ≤ 300) (htot : ts.length + totalA ts ≤ 1048576) (hx : x < ts.length) (hk : x < ks.length) (hP : PlaceOk ts ks f x hx hk) (hall : ∀ y (h : y < ts.length) (h' : y < ks.length), PlaceOk ts ks f y h h') (hlenx : (ks[x]'hk).length ≤ x) (h1 : ts[x].kind = 5)
    (ih : ∀ y, y < x → ∀ w', KMem w' a ts g ks → Calls Tryd.prog 28 #[.agg #[.slice a ts.length cap], .slice (some ⟨g, 0, none⟩) ks.length co, .int .i64 y] w' fun e w2 => e = .returned (.string ⟨(fT f y).form.toArray⟩) ∧ Below w'.heap.size w' w2) :
    Calls Tryd.prog 28 #[.agg #[.slice a ts.length cap], .slice (some ⟨g, 0, none⟩) ks.length co, .int .i64 x] w fun e w' => e = .returned (.string ⟨(fT f x).form.toArray⟩) ∧ Below w.heap.size w w' := by
  obtain ⟨ba, off, rfl, hc⟩ := hM.atoms.at hx
  obtain ⟨c0, c1, c2, c3⟩ := hc x hx
  rw [h1] at c0
  rw [← hP.len] at c3
  have hba : ∀ o, Below w.heap.size w (w.alloc o) := fun o => (Below.refl _ _).alloc (Nat.le_refl _) _
  have hbb : ∀ o1 o2 o3, Below w.heap.size w (((w.alloc o1).alloc o2).alloc o3) := fun o1 o2 o3 => (((Below.refl _ _).alloc (Nat.le_refl _) _).alloc (by simp) _).alloc (by simp; omega) _
  have hT : ∃ ns, ks[x].length % 2 = 0 ∧ nm (ks[x].map (fT f)) (ks[x].length / 2) = some ns ∧ fT f x = .recd ns (odds (ks[x].map (fT f))) := by
    have := hP.tree
    unfold mkT at this
    rw [if_neg (by omega), if_neg (by omega), if_neg (by omega), if_neg (by omega), if_pos h1] at this
    split at this
    · rename_i hcc
      obtain ⟨ns, h2, h3⟩ := Option.map_eq_some_iff.1 this
      rw [List.length_map] at h2 hcc
      exact ⟨ns, hcc.1, h2, h3.symm⟩
    · simp at this
  obtain ⟨ns, hev, hnm, hT⟩ := hT
  have hol := odds_len (ks[x].map (fT f))
  rw [List.length_map] at hol
  have HF : Hid ((fT f x).form = 5 :: (shortL (ks[x].length / 2) ++ formF ns (odds (ks[x].map (fT f))))) := by
    have : (fT f x).form = 5 :: (shortL (ks[x].length / 2) ++ formF ns (odds (ks[x].map (fT f)))) := by rw [hT, T.form_recd, hol]
    exact this
  have hfl := hP.form h300
  rw [HF.out] at hfl
  simp only [List.length_cons, List.length_append] at hfl
  have hkl : ks[x].length ≤ x := hlenx
  obtain ⟨ui, hui, hrow⟩ := hM.rows x hk
  have hlow := hP.low
  generalize ks[x] = kd at *
  have hkd : kd.length ≤ 300 := by omega
  have hsl := shortL_le (n := kd.length / 2) (by omega)
  obtain ⟨adi, ci, hsh⟩ := hrow.shape
  subst hsh
  have d0 : ∀ o, (w.alloc o).cell? ⟨ba, off + x * 4, none⟩ = _ := fun o => cell_later (hba o) c0
  have d1 : ∀ o, (w.alloc o).cell? ⟨ba, off + x * 4 + 1, none⟩ = _ := fun o => cell_later (hba o) c1
  have d2 : ∀ o, (w.alloc o).cell? ⟨ba, off + x * 4 + 2, none⟩ = _ := fun o => cell_later (hba o) c2
  have d3 : ∀ o, (w.alloc o).cell? ⟨ba, off + x * 4 + 3, none⟩ = _ := fun o => cell_later (hba o) c3
  have k1 : ∀ o1 o2, (convert 30 9 (.slice (some ⟨w.heap.size + 1 + 1, 0, none⟩) 1 1)).run Tryd.prog (((w.alloc o1).alloc o2).alloc (.cells #[.int .u8 5] 5)) = .ok (.string ⟨#[5]⟩) (((w.alloc o1).alloc o2).alloc (.cells #[.int .u8 5] 5)) := fun o1 o2 => conv_new _ 5 _ rfl _ (by simp)
  clear hc hP hT h1
  have HEV : Hid (kd.length % 2 = 0) := hev
  have HOL : Hid ((odds (kd.map (fT f))).length = kd.length / 2) := hol
  have HNM : Hid (nm (kd.map (fT f)) (kd.length / 2) = some ns) := hnm
  clear hev hol hnm
  go_enter Tryd.func28, Tryd.ntmps28
  go_wp2_with fail
  refine (l2Short_any (kd.length / 2) _ (by omega)).mono ?_
  rintro e w1 ⟨rfl, hb1⟩
  have hbw1 := (hbb _ _ _).trans (hb1.mono (hbb _ _ _).size)
  have hbox : w1.cell? ⟨w.heap.size, 0, none⟩ = some (.slice (some ⟨ba, off, none⟩) ts.length cap) := by
    exact cell_later hb1 (cell_later (((Below.refl _ _).alloc (Nat.le_refl _) _).alloc (by simp) _) (World.cell?_alloc_new w _ _ 0))
  obtain ⟨cp, w2, hconv, hownC, hb2⟩ := conv_own w1 w1.heap.size (⟨#[5]⟩ ++ ⟨(shortL (kd.length / 2)).toArray⟩) (Nat.le_refl _)
  have hdat : (⟨#[5]⟩ ++ ⟨(shortL (kd.length / 2)).toArray⟩ : ByteArray).data.toList = 5 :: shortL (kd.length / 2) := by rw [show (⟨#[5]⟩ : ByteArray) = ⟨[5].toArray⟩ from rfl, cat_arr]; simp
  rw [hdat] at hownC
  clear hdat
  go_wp2
  go_loopw [11, 12] (fun v i wr => ∃ (k gg cp : Nat) (l : List UInt8), k ≤ kd.length ∧ i = .int .i64 k ∧ v = .slice (some ⟨gg, 0, none⟩) l.length cp ∧ l = 5 :: (shortL (kd.length / 2) ++ pairs ns (odds (kd.map (fT f))) k) ∧ OwnC wr w1.heap.size gg cp l ∧ Below w1.heap.size w1 wr) (fun _ i _ => kd.length - (intOf i).toNat)
  case atStart =>
    refine ⟨0, w1.heap.size, cp, 5 :: shortL (kd.length / 2), Nat.zero_le _, rfl, ?_, by simp [pairs, formF], hownC, hb2⟩
    simp only [List.length_cons]
    rw [Nat.add_comm]
  case round =>
    obtain ⟨k, gg, cp', l, hkk, rfl, rfl, hl, hO, hb⟩ := hrel
    have HL : Hid (l = 5 :: (shortL (kd.length / 2) ++ pairs ns (odds (kd.map (fT f))) k)) := hl
    clear hl
    have hbx := cell_later hb hbox
    have hbw := hbw1.trans (hb.mono hbw1.size)
    have hMr := hM.below hbw
    have hur := cell_later hbw hui
    by_cases hlt : k < kd.length
    · obtain ⟨bi, ci', hsh, hci⟩ := hrow.at hlt
      simp only [Value.slice.injEq, true_and] at hsh
      obtain ⟨rfl, rfl⟩ := hsh
      have hcr := cell_later hbw (hci k hlt)
      have hs1 : w.heap.size + 3 ≤ w1.heap.size := by have := hb1.size; simpa using this
      have q1 : w.heap.size < w1.heap.size := by omega
      have q2 : g < w1.heap.size := by have := World.block_lt_of_cell? w _ hui; simp at this; omega
      have q3 : bi < w1.heap.size := by have := World.block_lt_of_cell? w _ (hci k hlt); simp at this; omega
      have hy : kd[k] < x := hlow _ (List.getElem_mem hlt)
      have hbs : w1.heap.size ≤ wr.heap.size := hb.size
      have hvl : k / 2 < (odds (kd.map (fT f))).length := by have := HOL.out; have := HEV.out; omega
      have hple : (pairs ns (odds (kd.map (fT f))) (k + 1)).length ≤ (formF ns (odds (kd.map (fT f)))).length := pairs_le (by have := HOL.out; have := HEV.out; omega)
      by_cases hpar : k % 2 = 0
      · have hparB : (((k : Int) % 2) == 0) = true := by simp; omega
        have hname : (ts[kd[k]]'(by omega)).text = ns.getD (k / 2) ⟨#[]⟩ := by
          obtain ⟨h5, h6⟩ := nm_texts HNM.out (k / 2) (by have := HEV.out; omega)
          have e : (kd.map (fT f))[2 * (k / 2)] = fT f kd[k] := by
            rw [List.getElem_map]
            congr 1
            exact getElem_congr rfl (by omega) _
          rw [e] at h6
          have hp := mkT_text (hall kd[k] (by omega) (by have := hM.len; omega)).tree
          by_cases hk3 : (ts[kd[k]]'(by omega)).kind = 3
          · have := hp.1 hk3
            rw [h6] at this
            simpa using this.symm
          · exact absurd h6 (hp.2 hk3 _)
        have hct : wr.cell? ⟨ba, off + kd[k] * 4 + 2, none⟩ = some (.string (ns.getD (k / 2) ⟨#[]⟩)) := by
          obtain ⟨ba', off', e, h⟩ := hMr.atoms.at (k := kd[k]) (by omega)
          simp at e
          obtain ⟨rfl, rfl⟩ := e
          rw [← hname]
          exact (h kd[k] (by omega)).2.2.1
        have q4 : ba < w1.heap.size := by have := World.block_lt_of_cell? w _ c0; simp at this; omega
        have HL' : Hid (5 :: (shortL (kd.length / 2) ++ pairs ns (odds (kd.map (fT f))) (k + 1)) = l ++ (shortL (ns.getD (k / 2) ⟨#[]⟩).size ++ (ns.getD (k / 2) ⟨#[]⟩).data.toList)) := by
          have : 5 :: (shortL (kd.length / 2) ++ pairs ns (odds (kd.map (fT f))) (k + 1)) = l ++ (shortL (ns.getD (k / 2) ⟨#[]⟩).size ++ (ns.getD (k / 2) ⟨#[]⟩).data.toList) := by rw [HL.out, pairs_even hpar]; simp
          exact this
        generalize ns.getD (k / 2) ⟨#[]⟩ = nk at *
        have hnsz : nk.data.toList.length = nk.size := by rw [Array.length_toList]; rfl
        have hlen : l.length + (shortL nk.size ++ nk.data.toList).length ≤ 1099511627776 := by
          have e := congrArg List.length HL'.out
          simp only [List.length_cons, List.length_append] at e ⊢
          omega
        have hnk : nk.size ≤ 1099511627776 := by rw [List.length_append, hnsz] at hlen; omega
        have hcall := l2Text_any nk wr.drew hnk
        generalize shortL nk.size ++ nk.data.toList = fk at *
        clear ih hM hMr hconv hownC hall hname hnsz hple hvl hpar
        have hxi : (kd[k] : Int) < (ts.length : Int) := by omega
        go_wp2_with fail
        go_region_held3 (fun w' => w'.cell? ⟨w.heap.size, 0, none⟩ = some (.slice (some ⟨ba, off, none⟩) ts.length cap) ∧ w'.cell? ⟨g, x, none⟩ = some (.slice (some ⟨bi, 0, none⟩) kd.length ci) ∧ w'.cell? ⟨bi, k, none⟩ = some (.int .i64 (kd[k] : Int)) ∧ w'.cell? ⟨ba, off + kd[k] * 4 + 2, none⟩ = some (.string nk)) (first | go_keep | (exact ⟨e1, e2, e3, e4⟩) | (exact ⟨below_cell hb4 q1 e1, below_cell hb4 q2 e2, below_cell hb4 q3 e3, below_cell hb4 q4 e4⟩))
          ((first | (go_at_call 49; refine hcall.mono ?_; rintro e w3 ⟨rfl, hb3⟩; have e1 := cell_later (w := wr.drew) hb3 hbx; have e2 := cell_later (w := wr.drew) hb3 hur; have e3 := cell_later (w := wr.drew) hb3 hcr; have e4 := cell_later (w := wr.drew) hb3 hct; have hO3 := OwnC.below (w := wr.drew) ⟨hO.ge, hO.lt, hO.le, hO.cells, hO.room⟩ hb3) | (refine step_appC (by rfl) _ _ (by rfl) w1.heap.size gg cp' l (by rfl) hO3 ⟨fk.toArray⟩ (by rfl) hlen (Nat.le_trans hbs hb3.size) ?_; intro g4 cap4 w4 hO4 hb4)))
        have hbw4 : Below w1.heap.size w1 w4 := (hb.trans ((Below.refl _ _).drew.mono hbs |>.trans (hb3.mono hbs))).trans hb4
        clear hO hO3 hcall
        go_wp2
        go_roundw
        case rel =>
          refine ⟨k + 1, g4, cap4, l ++ fk, by omega, by go_num, by rw [List.length_append], HL'.out.symm, ?_, hbw4⟩
          exact hO4
        case measure => simp [intOf]; omega
      · have hparB : (((k : Int) % 2) == 0) = false := by simp; omega
        have HL' : Hid (5 :: (shortL (kd.length / 2) ++ pairs ns (odds (kd.map (fT f))) (k + 1)) = l ++ (fT f kd[k]).form) := by
          have e : (odds (kd.map (fT f)))[k / 2] = fT f kd[k] := by
            rw [odds_get _ _ hvl, List.getElem_map]
            congr 1
            exact getElem_congr rfl (by omega) _
          have : 5 :: (shortL (kd.length / 2) ++ pairs ns (odds (kd.map (fT f))) (k + 1)) = l ++ (fT f kd[k]).form := by rw [HL.out, pairs_odd (by omega) hvl, e]; simp
          exact this
        have hlen : l.length + (fT f kd[k]).form.length ≤ 1099511627776 := by
          have e := congrArg List.length HL'.out
          simp only [List.length_cons, List.length_append] at e
          omega
        have hcall := ih kd[k] hy wr.drew (hMr.below (Below.refl _ _).drew)
        generalize (fT f kd[k]).form = fk at *
        clear ih hM hMr hconv hownC hall hple hvl hpar
        go_wp2_with fail
        go_region_held3 (fun w' => w'.cell? ⟨w.heap.size, 0, none⟩ = some (.slice (some ⟨ba, off, none⟩) ts.length cap) ∧ w'.cell? ⟨g, x, none⟩ = some (.slice (some ⟨bi, 0, none⟩) kd.length ci) ∧ w'.cell? ⟨bi, k, none⟩ = some (.int .i64 (kd[k] : Int))) (first | go_keep | (exact ⟨e1, e2, e3⟩) | (exact ⟨below_cell hb4 q1 e1, below_cell hb4 q2 e2, below_cell hb4 q3 e3⟩))
          ((first | (go_at_call 28; refine hcall.mono ?_; rintro e w3 ⟨rfl, hb3⟩; have e1 := cell_later (w := wr.drew) hb3 hbx; have e2 := cell_later (w := wr.drew) hb3 hur; have e3 := cell_later (w := wr.drew) hb3 hcr; have hO3 := OwnC.below (w := wr.drew) ⟨hO.ge, hO.lt, hO.le, hO.cells, hO.room⟩ hb3) | (refine step_appC (by rfl) _ _ (by rfl) w1.heap.size gg cp' l (by rfl) hO3 ⟨fk.toArray⟩ (by rfl) hlen (Nat.le_trans hbs hb3.size) ?_; intro g4 cap4 w4 hO4 hb4)))
        have hbw4 : Below w1.heap.size w1 w4 := (hb.trans ((Below.refl _ _).drew.mono hbs |>.trans (hb3.mono hbs))).trans hb4
        clear hO hO3 hcall
        go_wp2
        go_roundw
        case rel =>
          refine ⟨k + 1, g4, cap4, l ++ fk, by omega, by go_num, by rw [List.length_append], HL'.out.symm, ?_, hbw4⟩
          exact hO4
        case measure => simp [intOf]; omega
    · obtain rfl : k = kd.length := by omega
      have hback := hO.back
      have HE : Hid ((fT f x).form = l) := by
        have e := HL.out
        have hp : pairs ns (odds (kd.map (fT f))) kd.length = formF ns (odds (kd.map (fT f))) := by
          unfold pairs
          have := HEV.out
          have := HOL.out
          rw [if_neg (by omega), List.append_nil, List.take_of_length_le (by omega)]
        rw [hp] at e
        have : (fT f x).form = l := HF.out.trans e.symm
        exact this
      clear hO ih hM hMr hconv
      go_wp2
      go_ret
      exact ⟨by rw [HE.out]; rfl, hbw⟩
end Go.Proofs.YtamaioeikcjhoaaDoor
