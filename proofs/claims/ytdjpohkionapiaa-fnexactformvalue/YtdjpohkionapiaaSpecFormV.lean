/-
  spec.FormValue.
-/
import Derived.Test.YtdjpohkionapiaaSpecFormR
namespace Go.Proofs.Ytdjpohkionapiaa
open Go.RowKit
set_option linter.unusedVariables false

theorem cnt_le {ts : List At} {o : List Nat} {ks : List (List Nat)} (hr : runK ts ts.length = some (o, ks)) (i : Nat) (hk : i < ks.length) : ks[i].length ≤ i := by
  have hkl := (runK_len ts ts.length o ks hr).1
  obtain ⟨oi, h1⟩ := runK_prefix ts ts.length o ks hr i (by omega)
  obtain ⟨oi', h2⟩ := runK_prefix ts ts.length o ks hr (i + 1) (by omega)
  rw [kids_take ks i hk] at h2
  have h3 := runK_step ts i (by omega) h1
  rw [h2] at h3
  have h4 := runK_len ts i oi _ h1
  unfold stepK at h3
  split at h3
  · simp at h3
    obtain ⟨_, h5⟩ := h3
    rw [kids_take ks i hk] at h5
    have h6 := List.append_cancel_left h5
    simp only [List.cons.injEq, and_true] at h6
    rw [h6]
    simp
    omega
  · simp at h3

theorem l2Form_any (a : Option Addr) (cap g co : Nat) (ts : List At) (ks : List (List Nat)) (f : List T) (h300 : ts.length ≤ 300) (htot : ts.length + totalA ts ≤ 1048576) (hcnt : ∀ i (hk : i < ks.length), ks[i].length ≤ i) (hall : ∀ y (h : y < ts.length) (h' : y < ks.length), PlaceOk ts ks f y h h') (x : Nat) :
    x < ts.length → ∀ w, KMem w a ts g ks → Calls Try.prog 19 #[.agg #[.slice a ts.length cap], .slice (some ⟨g, 0, none⟩) ks.length co, .int .i64 x] w fun e w2 => e = .returned (.string ⟨(fT f x).form.toArray⟩) ∧ Below w.heap.size w w2 := by
  induction x using Nat.strongRecOn with
  | ind x ih =>
    intro hx w hM
    have hk : x < ks.length := by have := hM.len; omega
    have hP := hall x hx hk
    have hok := ((mkT_iff ts[x] (ks[x].map (fT f)) (by rw [List.length_map]; exact hP.len)).1 ⟨_, hP.tree⟩).1
    have ih' := fun y (hy : y < x) w' hM' => ih y hy (by omega) w' hM'
    rcases hok with h | h | h | h | h
    · exact l2Form_flag a cap g co ts ks f x w hM h300 hx hk hP h.1
    · exact l2Form_num a cap g co ts ks f x w hM h300 hx hk hP h.1
    · exact l2Form_text a cap g co ts ks f x w hM h300 hx hk hP h.1
    · exact l2Form_list a cap g co ts ks f x w hM h300 htot hx hk hP h.1 ih'
    · exact l2Form_rec a cap g co ts ks f x w hM h300 htot hx hk hP hall (hcnt x hk) h.1 ih'

set_option maxRecDepth 20000 in
set_option maxHeartbeats 1000000 in
theorem specForm_any (a : Option Addr) (cap : Nat) (ts : List At) (w : World) (hss : AS w a ts) (htot : ts.length + totalA ts ≤ 1048576) (hm : ∀ s ∈ ts, s.text.size ≤ maxLen) :
    Calls Try.prog 10 #[.agg #[.slice a ts.length cap]] w fun e w' => e = .returned (.string (formV ts)) ∧ Below w.heap.size w w' := by
  have hb0 : ∀ o, Below w.heap.size w (w.alloc o) := fun o => (Below.refl _ _).alloc (Nat.le_refl _) _
  go_enter Try.func10, Try.ntmps10
  go_wp2_with fail
  refine (specValid_any a cap ts _ (hss.below (hb0 _)) hm).mono ?_
  rintro e w1 ⟨rfl, hb1⟩
  have hbx := (hb0 _).trans (hb1.mono (hb0 _).size)
  have hbox : w1.cell? ⟨w.heap.size, 0, none⟩ = some (.slice a ts.length cap) := cell_later hb1 (World.cell?_alloc_new _ _ _ 0)
  cases hv : valT ts with
  | none =>
    have HV : Hid (formV ts = ⟨#[]⟩) := by
      have : formV ts = ⟨#[]⟩ := by simp [formV, hv]
      exact this
    clear hv
    simp only [Option.isSome_none]
    go_wp2
    go_ret
    rw [HV.out]
    exact ⟨rfl, hbx⟩
  | some t =>
    have h300 : ts.length ≤ 300 := by
      rcases Nat.lt_or_ge 300 ts.length with h | h
      · rw [valT, if_neg (by omega)] at hv; cases hv
      · exact h
    have hbt : bldT ts = some [t] := by
      rw [valT, if_pos h300] at hv
      split at hv
      · rename_i u hu
        split at hv
        · simp at hv; rw [hu, hv]
        · simp at hv
      · simp at hv
    have HV : Hid (formV ts = if t.form.length ≤ 100000 then ⟨t.form.toArray⟩ else ⟨#[]⟩) := by
      have : formV ts = if t.form.length ≤ 100000 then ⟨t.form.toArray⟩ else ⟨#[]⟩ := by simp [formV, hv]
      exact this
    have hle := val_len hv
    clear hv
    simp only [Option.isSome_some]
    go_wp2_with fail
    refine (l2Kids_any a cap ts _ (hss.below hbx) h300).mono ?_
    rintro e wK ⟨v, b, rfl, hbK, hpost⟩
    have hbw := hbx.trans (hbK.mono hbx.size)
    have hboxK := cell_later hbK hbox
    obtain ⟨o0, ks0, hr0, hl0⟩ := bld_run ts ts.length (Nat.le_refl _) [t] (by rw [List.take_length]; exact hbt)
    rcases hpost with ⟨rfl, hno⟩ | ⟨rfl, o, ks, g, co, us, hrun, ho1, rfl, hul, hcell, hrows⟩
    · exfalso
      rcases hno with hno | ⟨o', ks', hr', hl'⟩
      · rw [hno] at hr0; cases hr0
      · rw [hr'] at hr0
        simp at hr0
        obtain ⟨rfl, rfl⟩ := hr0
        simp at hl0
        exact hl' hl0
    · have hkl := (runK_len ts ts.length o ks hrun).1
      obtain ⟨oi, f, hfl, hri, hbi, hall⟩ := places ts o ks hrun ⟨_, hbt⟩ ts.length (Nat.le_refl _)
      rw [List.take_length, hbt] at hbi
      rw [hrun] at hri
      simp at hri
      obtain ⟨rfl, hk2⟩ := hri
      clear hk2
      have hpos : 0 < ts.length := by
        rcases Nat.eq_zero_or_pos ts.length with h | h
        · have := (runK_len ts ts.length o ks hrun).2.1; omega
        · exact h
      have hlast : fT f (ts.length - 1) = t := by
        have hin := runK_last (ts := ts) (i := ts.length - 1) (o := o) (ks := ks) (by rw [show ts.length - 1 + 1 = ts.length by omega]; exact hrun)
        match o, ho1 with
        | [y], _ =>
          simp at hin hbi
          rw [hin]
          exact hbi.symm
      have hMK : KMem wK a ts g ks := ⟨hss.below hbw, hkl, fun i hi => ⟨us[i]'(by omega), hcell i (by omega), hrows i hi (by omega)⟩⟩
      have hcall := l2Form_any a cap g co ts ks f h300 htot (fun i hk => cnt_le hrun i hk) (fun y h h' => hall y h h' h) (ts.length - 1) (by omega) wK hMK
      rw [hlast] at hcall
      have hn1 : ((ts.length - 1 : Nat) : Int) = (ts.length : Int) - 1 := by omega
      rw [hn1] at hcall
      have hp1 : (1 : Int) ≤ (ts.length : Int) := by omega
      clear hall hMK hrows hcell hbi hlast hrun hr0 hl0 hbt hkl hul hn1 hfl ho1
      go_wp2_with fail
      refine hcall.mono ?_
      rintro e w2 ⟨rfl, hb2⟩
      have hbw2 := hbw.trans (hb2.mono hbw.size)
      clear hcall
      generalize t.form = l at *
      by_cases hbig : l.length ≤ 100000
      · have hd : ¬ (100000 : Int) < (l.length : Int) := by omega
        rw [if_pos hbig] at HV
        clear hbig
        go_wp2
        go_ret
        rw [HV.out]
        exact ⟨rfl, hbw2⟩
      · have hd : (100000 : Int) < (l.length : Int) := by omega
        rw [if_neg hbig] at HV
        clear hbig
        go_wp2
        go_ret
        rw [HV.out]
        exact ⟨rfl, hbw2⟩
end Go.Proofs.Ytdjpohkionapiaa
