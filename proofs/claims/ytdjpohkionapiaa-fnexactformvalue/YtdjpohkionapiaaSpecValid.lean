/-
  spec.ValidValue.
-/
import Derived.Test.YtdjpohkionapiaaValLink
namespace Go.Proofs.Ytdjpohkionapiaa
open Go.RowKit

set_option maxHeartbeats 400000 in
theorem in_any (n a b : Int) (w : World) :
    Calls Try.prog 13 #[.int .i64 n, .int .i64 a, .int .i64 b] w fun e w' => e = .returned (.bool (decide (a ≤ n) && decide (n ≤ b))) ∧ w = w' := by
  by_cases h1 : a ≤ n
  · by_cases h2 : n ≤ b
    · go_enter Try.func13, Try.ntmps13
      go_wp2
      go_ret
      exact ⟨by simp [h1, h2], rfl⟩
    · go_enter Try.func13, Try.ntmps13
      go_wp2
      go_ret
      exact ⟨by simp [h2], rfl⟩
  · go_enter Try.func13, Try.ntmps13
    go_wp2
    go_ret
    exact ⟨by simp; omega, rfl⟩

theorem IntRow.at {w : World} {ok : Nat → Prop} {v : Value} {ns : List Nat} (h : IntRow w ok v ns) {k : Nat} (hk : k < ns.length) : ∃ b cap, v = .slice (some ⟨b, 0, none⟩) ns.length cap ∧ ∀ j (h : j < ns.length), w.cell? ⟨b, j, none⟩ = some (.int .i64 ns[j]) := by
  obtain ⟨ad, cap, hv, h | ⟨b, ha, _, hc⟩⟩ := h
  · omega
  · exact ⟨b, cap, by rw [hv, ha], hc⟩
theorem IntRow.below {w w' : World} {ok : Nat → Prop} {v : Value} {ns : List Nat} (h : IntRow w ok v ns) (hb : Below w.heap.size w w') : IntRow w' (fun _ => True) v ns := by
  obtain ⟨ad, cap, hv, h | ⟨b, ha, _, hc⟩⟩ := h
  · exact ⟨ad, cap, hv, .inl h⟩
  · exact ⟨ad, cap, hv, .inr ⟨b, ha, trivial, fun j hj => cell_later hb (hc j hj)⟩⟩
theorem IntRow.shape {w : World} {ok : Nat → Prop} {v : Value} {ns : List Nat} (h : IntRow w ok v ns) : ∃ ad cap, v = .slice ad ns.length cap := by
  obtain ⟨ad, cap, hv, _⟩ := h; exact ⟨ad, cap, hv⟩

/-- Names so far, where the atom is a record. -/
def LastOk (kind : Int) (kids : List T) (k : Nat) (last : ByteArray) : Prop :=
  if kind = 5 then ∃ ns, nm kids ((k + 1) / 2) = some ns ∧ last = ns.getLast?.getD ⟨#[]⟩ else True

theorem kids_take {α : Type} (ks : List α) (i : Nat) (h : i < ks.length) : ks.take (i + 1) = ks.take i ++ [ks[i]] := List.take_succ_eq_append_getElem h

/-- Where a name does not fit, the atom is no tree. -/
theorem mk_fail {a : At} {kids : List T} {j : Nat} (hk : a.kind = 5) (hl : (kids.length : Int) = a.kids) (hj : 2 * j < kids.length) (h : nm kids (j + 1) = none) : mkT a kids = none := by
  cases hx : mkT a kids with
  | none => rfl
  | some t =>
    obtain ⟨h1, h2⟩ := (mkT_iff a kids hl).1 ⟨t, hx⟩
    obtain ⟨ns, hns⟩ := h2 hk
    have hev : kids.length % 2 = 0 := by
      rcases h1 with h | h | h | h | h
      · omega
      · omega
      · omega
      · omega
      · have := h.2.2.2.2; omega
    rw [nm_mono h (kids.length / 2) (by omega)] at hns
    cases hns

theorem last_even {kids : List T} {j : Nat} {last s : ByteArray} (hj : 2 * j < kids.length) (hs : kids[2 * j] = .text s) (h : LastOk 5 kids (2 * j) last) (hfit : j = 0 ∨ lessB last s = true) : LastOk 5 kids (2 * j + 1) s := by
  unfold LastOk at h ⊢
  rw [if_pos rfl] at h ⊢
  obtain ⟨ns, hns, hla⟩ := h
  rw [show (2 * j + 1) / 2 = j by omega] at hns
  rw [show (2 * j + 1 + 1) / 2 = j + 1 by omega]
  have hlen := nm_len hns
  refine ⟨ns ++ [s], ?_, by simp⟩
  rw [nm_step hns hj hs]
  rcases hfit with h0 | h0
  · have : ns = [] := List.eq_nil_of_length_eq_zero (by omega)
    subst this
    rfl
  · cases hg : ns.getLast? with
    | none => rfl
    | some l =>
      rw [hg] at hla
      simp at hla
      subst hla
      simp [h0]
theorem last_fail {kids : List T} {j : Nat} {last s : ByteArray} (hj : 2 * j < kids.length) (hs : kids[2 * j] = .text s) (h : LastOk 5 kids (2 * j) last) (h0 : 0 < j) (hno : lessB last s = false) : nm kids (j + 1) = none := by
  unfold LastOk at h
  rw [if_pos rfl] at h
  obtain ⟨ns, hns, hla⟩ := h
  rw [show (2 * j + 1) / 2 = j by omega] at hns
  have hlen := nm_len hns
  rw [nm_step hns hj hs]
  cases hg : ns.getLast? with
  | none => rw [List.getLast?_eq_none_iff] at hg; subst hg; simp at hlen; omega
  | some l =>
    rw [hg] at hla
    simp at hla
    subst hla
    simp [hno]
theorem last_odd {kids : List T} {j : Nat} {last : ByteArray} (h : LastOk 5 kids (2 * j + 1) last) : LastOk 5 kids (2 * j + 1 + 1) last := by
  unfold LastOk at h ⊢
  rw [show (2 * j + 1 + 1 + 1) / 2 = (2 * j + 1 + 1) / 2 by omega]
  exact h
theorem last_other {kind : Int} {kids : List T} {k k' : Nat} {last last' : ByteArray} (hk : kind ≠ 5) (_h : LastOk kind kids k last) : LastOk kind kids k' last' := by
  unfold LastOk; rw [if_neg hk]; trivial

theorem runK_last {ts : List At} {i : Nat} {o : List Nat} {ks : List (List Nat)} (h : runK ts (i + 1) = some (o, ks)) : i ∈ o := by
  simp only [runK, Option.bind_eq_some_iff] at h
  obtain ⟨⟨o1, ks1⟩, _, h2⟩ := h
  split at h2
  · simp at h2
  · simp only [Option.map_eq_some_iff] at h2
    obtain ⟨r, h3, h4⟩ := h2
    unfold stepK at h3
    split at h3
    · simp at h3 h4
      rw [← h4.1, ← h3]
      simp
    · simp at h3
theorem deep_none {ts : List At} {i : Nat} {o : List Nat} {X : List (List Nat)} {kd : List Nat} {f : List T} (hi : i < ts.length) (hl : (kd.length : Int) = ts[i].kids) (hf : f.length = i) (hr : runK ts (i + 1) = some (o, X)) (hmn : mkT ts[i] (kd.map (fT f)) = none → bldT (ts.take (i + 1)) = none) (hms : ∀ t, mkT ts[i] (kd.map (fT f)) = some t → bldT (ts.take (i + 1)) = some (o.map (fT (f ++ [t])))) (h12 : 12 < nestL (kd.map (fT f))) : valT ts = none := by
  cases hx : mkT ts[i] (kd.map (fT f)) with
  | none => exact valT_none_of ts (i + 1) hi (hmn hx)
  | some t =>
    refine valT_deep ts (i + 1) hi _ (hms t hx) ⟨t, ?_, by rw [mkT_nest (by simpa using hl) hx]; exact h12⟩
    exact List.mem_map.2 ⟨i, runK_last hr, by rw [← hf, fT_new]⟩
theorem good_mk {a : At} {kids : List T} {last : ByteArray} (hl : (kids.length : Int) = a.kids) (h : AtomOk a) (hla : LastOk a.kind kids kids.length last) : ∃ t, mkT a kids = some t := by
  refine (mkT_iff a kids hl).2 ⟨h, fun h5 => ?_⟩
  unfold LastOk at hla
  rw [if_pos h5] at hla
  obtain ⟨ns, hns, _⟩ := hla
  have hev : kids.length % 2 = 0 := by
    rcases h with h | h | h | h | h
    · omega
    · omega
    · omega
    · omega
    · have := h.2.2.2.2; omega
  exact ⟨ns, by rw [show kids.length / 2 = (kids.length + 1) / 2 by omega]; exact hns⟩
theorem val_yes {ts : List At} {o : List Nat} {ks : List (List Nat)} {f : List T} (h300 : ts.length ≤ 300) (hr : runK ts ts.length = some (o, ks)) (h1 : o.length = 1) (hf : f.length = ts.length) (hb : bldT ts = some (o.map (fT f))) (hn : ∀ t ∈ f, t.nest ≤ 12) : (valT ts).isSome = true := by
  match o, h1 with
  | [x], _ =>
    have hx : x < ts.length := (runK_len ts ts.length [x] ks hr).2.2 x (by simp)
    have e : f[x]'(by omega) = fT f x := by simp [fT, List.getD, show x < f.length by omega]
    have h12 : (fT f x).nest ≤ 12 := by rw [← e]; exact hn _ (List.getElem_mem _)
    simp [valT, h300, hb, h12]

set_option maxRecDepth 20000 in
set_option maxHeartbeats 4000000 in
theorem specValid_yes (a : Option Addr) (cap : Nat) (ts : List At) (w : World) (hss : AS w a ts) (h1 : 1 ≤ ts.length) (h300 : ts.length ≤ 300) (hm : ∀ s ∈ ts, s.text.size ≤ maxLen) :
    Calls Try.prog 6 #[.agg #[.slice a ts.length cap]] w fun e w' => e = .returned (.bool (valT ts).isSome) ∧ Below w.heap.size w w' := by
  obtain ⟨i0, hi, hz0, hz1, hz2⟩ := info_parts Try.infoInt
  have e1 : (decide ((1 : Int) ≤ ts.length) && decide ((ts.length : Int) ≤ 300)) = true := by simp; omega
  have hb0 : ∀ o, Below w.heap.size w (w.alloc o) := fun o => (Below.refl _ _).alloc (Nat.le_refl _) _
  go_enter Try.func6, Try.ntmps6
  go_wp2_with (go_at_call 13; refine (in_any _ _ _ _).mono ?_; rintro e w' ⟨rfl, rfl⟩; rw [e1])
  refine (l2Kids_any a cap ts _ (hss.below (hb0 _)) h300).mono ?_
  rintro e wK ⟨v, b, rfl, hbK, hpost⟩
  have hbw := (hb0 _).trans (hbK.mono (hb0 _).size)
  have hbx : wK.cell? ⟨w.heap.size, 0, none⟩ = some (.slice a ts.length cap) := (hbK.cell (p := ⟨w.heap.size, 0, none⟩) (by simp)).trans (World.cell?_alloc_new _ _ _ _)
  rcases hpost with ⟨rfl, hno⟩ | ⟨rfl, o, ks, g, co, us, hrun, ho1, rfl, hul, hcell, hrows⟩
  · have HV : Hid (valT ts = none) := by
      have : valT ts = none := by
        unfold valT
        rw [if_pos h300]
        cases hb : bldT ts with
        | none => rfl
        | some st =>
          obtain ⟨o, ks, hr, hl⟩ := bld_run ts ts.length (Nat.le_refl _) st (by rw [List.take_length]; exact hb)
          rcases hno with hno | ⟨o', ks', hr', hl'⟩
          · rw [hno] at hr; cases hr
          · rw [hr'] at hr
            simp at hr
            obtain ⟨rfl, rfl⟩ := hr
            match st, hl with
            | [], _ => rfl
            | [_], h => simp at h; exact absurd h hl'
            | _ :: _ :: _, _ => rfl
      exact this
    clear hno
    go_wp2
    go_ret
    rw [HV.out]
    exact ⟨rfl, hbw⟩
  · have hkl := (runK_len ts ts.length o ks hrun).1
    have HRUN : Hid (runK ts ts.length = some (o, ks)) := hrun
    have HO1 : Hid (o.length = 1) := ho1
    have HUL : Hid (us.length = ks.length) := hul
    have hkl1 : ks.length ≤ ts.length := Nat.le_of_eq hkl
    have hkl2 : ts.length ≤ ks.length := Nat.le_of_eq hkl.symm
    have hul1 : ks.length ≤ us.length := Nat.le_of_eq hul.symm
    clear hrun ho1 hul hkl
    go_wp2
    go_loopw [5, 6] (fun vh i wr => ∃ (i' : Nat) (f : List T) (oi : List Nat), i' ≤ ks.length ∧ i = .int .i64 i' ∧ f.length = i' ∧ runK ts i' = some (oi, ks.take i') ∧ bldT (ts.take i') = some (oi.map (fT f)) ∧ (∀ t ∈ f, t.nest ≤ 12) ∧ (∀ x (h : x < ts.length), x < i' → (ts[x].kind = 3 → fT f x = .text ts[x].text) ∧ (ts[x].kind ≠ 3 → ∀ s, fT f x ≠ .text s)) ∧ wr.ownsRow wK.heap.size 3 1 vh i' (ints (f.map T.nest)) ∧ Below wK.heap.size wK wr) (fun _ i _ => ks.length - (intOf i).toNat)
    case atStart =>
      refine ⟨0, [], [], Nat.zero_le _, rfl, rfl, rfl, rfl, by simp, fun x h hx => absurd hx (by omega), ?_, (Below.refl _ _).alloc (Nat.le_refl _) _⟩
      exact ⟨by simp [ints], .inr ⟨wK.heap.size, 0, #[], rfl, Nat.le_refl _, heap_alloc_new wK _, Nat.le_refl _, by unfold maxLen; omega, rfl, by simp [ints]⟩⟩
    case round =>
      obtain ⟨i, f, oi, hil, rfl, hfl, hri, hbi, hfn, hfk, hown, hb⟩ := hrel
      have HF : Hid (f.length = i) := hfl
      have hf1 : f.length ≤ i := Nat.le_of_eq hfl
      have hf2 : i ≤ f.length := Nat.le_of_eq hfl.symm
      have HRI : Hid (runK ts i = some (oi, ks.take i)) := hri
      have HBI : Hid (bldT (ts.take i) = some (oi.map (fT f))) := hbi
      clear hfl hri hbi
      by_cases hlt : i < ks.length
      · obtain ⟨ba, off, rfl, hc⟩ := ((hss.below hbw).below hb).at (k := i) (by omega)
        obtain ⟨oi', hri'⟩ := runK_prefix ts ts.length o ks HRUN.out (i + 1) (by omega)
        rw [kids_take ks i hlt] at hri'
        have hlink := link_step (by omega) HRI.out HF.out HBI.out hri'
        have HTK : Hid (ks.take (i + 1) = ks.take i ++ [ks[i]]) := kids_take ks i hlt
        have hrowi := hrows i hlt (by omega)
        have hcelli := hcell i (by omega)
        generalize ks[i] = kd at *
        generalize us[i]'(by omega) = ui at *
        obtain ⟨hkd, hkx, hmn, hms⟩ := hlink
        obtain ⟨adi, ci, hui⟩ := hrowi.shape
        subst hui
        have hkd300 : kd.length ≤ 300 := by
          have h3 := (runK_len ts (i + 1) oi' _ hri')
          have h4 := (runK_len ts i oi _ HRI.out)
          have h5 : (kd.length : Int) ≤ oi.length := by
            have := runK_step ts i (by omega) HRI.out
            rw [hri'] at this
            unfold stepK at this
            split at this
            · omega
            · cases this
          omega
        have HKD : Hid ((kd.length : Int) = (ts[i]'(by omega)).kids) := hkd
        have HMN : Hid (mkT (ts[i]'(by omega)) (kd.map (fT f)) = none → bldT (ts.take (i + 1)) = none) := hmn
        have HMS : Hid (∀ t, mkT (ts[i]'(by omega)) (kd.map (fT f)) = some t → bldT (ts.take (i + 1)) = some (oi'.map (fT (f ++ [t])))) := hms
        have HRI' : Hid (runK ts (i + 1) = some (oi', ks.take i ++ [kd])) := hri'
        clear hkd hmn hms hri' HRI HBI
        have hA : ∀ x (h : x < ts.length), wr.cell? ⟨ba, off + x * 4, none⟩ = some (.int .i64 ts[x].kind) ∧ wr.cell? ⟨ba, off + x * 4 + 1, none⟩ = some (.int .i64 ts[x].n) ∧ wr.cell? ⟨ba, off + x * 4 + 2, none⟩ = some (.string ts[x].text) ∧ wr.cell? ⟨ba, off + x * 4 + 3, none⟩ = some (.int .i64 ts[x].kids) := hc
        clear hc
        have hbxr := cell_later hb hbx
        have hcir := cell_later hb hcelli
        have hrowr := hrowi.below hb
        go_wp2
        go_loopw [7, 8, 9] (fun h l k wr2 => ∃ (k' : Nat) (last : ByteArray), k' ≤ kd.length ∧ k = .int .i64 k' ∧ h = .int .i64 (nestL ((kd.map (fT f)).take k')) ∧ l = .string last ∧ LastOk (ts[i]'(by omega)).kind (kd.map (fT f)) k' last ∧ Below wr.heap.size wr wr2) (fun _ _ k _ => kd.length - (intOf k).toNat)
        case atStart =>
          refine ⟨0, ⟨#[]⟩, Nat.zero_le _, rfl, rfl, rfl, ?_, Below.refl _ _⟩
          unfold LastOk
          split
          · exact ⟨[], rfl, rfl⟩
          · trivial
        case round =>
          obtain ⟨k', last, hk', rfl, rfl, rfl, hlast, hb2⟩ := hrel
          have hba := fun o => hb2.alloc hb2.size o
          have f1 := cell_later hb2 hbxr
          have f2 := cell_later hb2 hcir
          have f1a : ∀ o, (wr.alloc o).cell? ⟨w.heap.size, 0, none⟩ = _ := fun o => cell_later (hba o) hbxr
          have f2a : ∀ o, (wr.alloc o).cell? ⟨g, i, none⟩ = _ := fun o => cell_later (hba o) hcir
          by_cases hklt : k' < kd.length
          · obtain ⟨bi, ci', hsh, hci⟩ := hrowr.at hklt
            simp only [Value.slice.injEq, true_and] at hsh
            obtain ⟨rfl, rfl⟩ := hsh
            have hxi : kd[k'] < i := hkx _ (List.getElem_mem hklt)
            have f3 := cell_later hb2 (hci k' hklt)
            have f3a : ∀ o, (wr.alloc o).cell? ⟨bi, k', none⟩ = _ := fun o => cell_later (hba o) (hci k' hklt)
            obtain ⟨a0, a1, a2, a3⟩ := hA kd[k'] (by omega)
            have a0a : ∀ o, (wr.alloc o).cell? ⟨ba, off + kd[k'] * 4, none⟩ = _ := fun o => cell_later (hba o) a0
            have a1a : ∀ o, (wr.alloc o).cell? ⟨ba, off + kd[k'] * 4 + 1, none⟩ = _ := fun o => cell_later (hba o) a1
            have a2a : ∀ o, (wr.alloc o).cell? ⟨ba, off + kd[k'] * 4 + 2, none⟩ = _ := fun o => cell_later (hba o) a2
            have a3a : ∀ o, (wr.alloc o).cell? ⟨ba, off + kd[k'] * 4 + 3, none⟩ = _ := fun o => cell_later (hba o) a3
            have a0 := cell_later hb2 a0
            have a1 := cell_later hb2 a1
            have a2 := cell_later hb2 a2
            have a3 := cell_later hb2 a3
            have b0a : ∀ o, (wr.alloc o).cell? ⟨ba, off + i * 4, none⟩ = _ := fun o => cell_later (hba o) (hA i (by omega)).1
            obtain ⟨gh, ch, rfl⟩ : ∃ gh ch, u5 = .slice (some ⟨gh, 0, none⟩) i ch := by
              rcases hown.2 with ⟨_, h0⟩ | ⟨gg, cc, cur, hv, _⟩
              · omega
              · exact ⟨gg, cc, hv⟩
            have hq := hown.cellAt kd[k'] (by omega)
            rw [ints_get _ _ (by simp; omega), List.getElem_map] at hq
            have hfx : f[kd[k']]'(by omega) = fT f kd[k'] := by simp [fT, List.getD, show kd[k'] < f.length by omega]
            rw [hfx] at hq
            have hq12 : (fT f kd[k']).nest ≤ 12 := by rw [← hfx]; exact hfn _ (List.getElem_mem _)
            have f5 := cell_later hb2 hq
            have f5a : ∀ o, (wr.alloc o).cell? ⟨gh, kd[k'], none⟩ = _ := fun o => cell_later (hba o) hq
            have HT : Hid (nestL ((kd.map (fT f)).take (k' + 1)) = max (nestL ((kd.map (fT f)).take k')) ((fT f kd[k']).nest + 1)) := by
              have e := nestL_take (kd.map (fT f)) k' (by simpa using hklt)
              rw [List.getElem_map] at e
              exact e
            have hkT : (kd.map (fT f))[k']'(by simpa using hklt) = fT f kd[k'] := List.getElem_map _
            have hml : ((kd.map (fT f)).length : Int) = (ts[i]'(by omega)).kids := by rw [List.length_map]; exact HKD.out
            obtain ⟨hx3, hxn⟩ := hfk kd[k'] (by omega) hxi
            have hmax : nestL ((kd.map (fT f)).take k') ≤ 13 := by
              have : ∀ (l : List Nat), (∀ x ∈ l, x < i) → nestL (l.map (fT f)) ≤ 13 := by
                intro l hl
                induction l with
                | nil => simp [nestL]
                | cons y l ihl =>
                  have h1 := hl y (by simp)
                  have h2 := ihl (fun t ht => hl t (by simp [ht]))
                  have h3 : (fT f y).nest ≤ 12 := by
                    have e : f[y]'(by omega) = fT f y := by simp [fT, List.getD, show y < f.length by omega]
                    rw [← e]; exact hfn _ (List.getElem_mem _)
                  simp only [List.map_cons, nestL]; omega
              rw [← List.map_take]
              exact this _ (fun x hx => hkx x (List.mem_of_mem_take hx))
            have HLAST : Hid (LastOk (ts[i]'(by omega)).kind (kd.map (fT f)) k' last) := hlast
            have HKT : Hid ((kd.map (fT f))[k']'(by simpa using hklt) = fT f kd[k']) := hkT
            have HX3 : Hid ((ts[kd[k']]'(by omega)).kind = 3 → fT f kd[k'] = .text (ts[kd[k']]'(by omega)).text) := hx3
            have HXN : Hid ((ts[kd[k']]'(by omega)).kind ≠ 3 → ∀ s, fT f kd[k'] ≠ .text s) := hxn
            have HML : Hid (((kd.map (fT f)).length : Int) = (ts[i]'(by omega)).kids) := hml
            have HFX := hfx
            clear hlast hkT hx3 hxn hml hfx HFX hq hci hfk hA hrowr hrowi hcelli hcell hrows
            have hxt := hm _ (List.getElem_mem (show kd[k'] < ts.length by omega))
            generalize nestL ((kd.map (fT f)).take k') = m at *
            generalize (fT f kd[k']).nest = qn at *
            have hxl : kd[k'] < ts.length := by omega
            by_cases h5 : (ts[i]'(by omega)).kind = 5
            · have h5B : ((ts[i]'(by omega)).kind == 5) = true := by simpa using h5
              have H5 : Hid ((ts[i]'(by omega)).kind = 5) := h5
              rw [h5] at HLAST
              clear h5
              by_cases hev : k' % 2 = 0
              · obtain ⟨j, hj⟩ : ∃ j, k' = 2 * j := ⟨k' / 2, by omega⟩
                have hevB : (((k' : Int) % 2) == 0) = true := by simp; omega
                clear hev
                by_cases hx3 : (ts[kd[k']]'hxl).kind = 3
                · have hx3B : ((ts[kd[k']]'hxl).kind != 3) = false := by simpa using hx3
                  have HXT : Hid (fT f kd[k'] = .text (ts[kd[k']]'hxl).text) := HX3.out hx3
                  clear hx3 HX3 HXN
                  by_cases hj0 : k' = 0
                  · have hk0B : ¬ 0 < k' := by omega
                    have HL' : Hid (LastOk (ts[i]'(by omega)).kind (kd.map (fT f)) (k' + 1) (ts[kd[k']]'hxl).text) := by
                      have e : LastOk 5 (kd.map (fT f)) (k' + 1) (ts[kd[k']]'hxl).text := by
                        have hkt := HKT.out
                        rw [HXT.out] at hkt
                        have hla := HLAST.out
                        subst hj
                        exact last_even (by simpa using hklt) hkt hla (.inl (by omega))
                      rw [H5.out]; exact e
                    have HJ0 : Hid (k' = 0) := hj0
                    clear hj hj0 HLAST HXT HKT
                    by_cases hgt : (m : Int) < (qn : Int) + 1
                    · have HTx : Hid (nestL ((kd.map (fT f)).take (k' + 1)) = qn + 1) := by have e := HT.out; exact e.trans (by omega)
                      clear HT
                      go_wp2
                      go_region
                      all_goals (try go_wp2)
                      go_roundw
                      case rel => exact ⟨k' + 1, _, by omega, by go_num, by first | (rw [HTx.out]; done) | (rw [HTx.out]; rfl), rfl, HL'.out, (hba _).drew⟩
                      case measure => simp [intOf]; omega
                    · have HTx : Hid (nestL ((kd.map (fT f)).take (k' + 1)) = m) := by have e := HT.out; exact e.trans (by omega)
                      clear HT
                      go_wp2
                      go_region
                      all_goals (try go_wp2)
                      go_roundw
                      case rel => exact ⟨k' + 1, _, by omega, by go_num, by first | (rw [HTx.out]; done) | (rw [HTx.out]; rfl), rfl, HL'.out, (hba _).drew⟩
                      case measure => simp [intOf]; omega
                  · have hk0B : 0 < k' := by omega
                    have hcmp := less_both last (ts[kd[k']]'hxl).text
                    by_cases hls : lessB last (ts[kd[k']]'hxl).text = true
                    · have HL' : Hid (LastOk (ts[i]'(by omega)).kind (kd.map (fT f)) (k' + 1) (ts[kd[k']]'hxl).text) := by
                        have e : LastOk 5 (kd.map (fT f)) (k' + 1) (ts[kd[k']]'hxl).text := by
                          have hkt := HKT.out
                          rw [HXT.out] at hkt
                          have hla := HLAST.out
                          subst hj
                          exact last_even (by simpa using hklt) hkt hla (.inr hls)
                        rw [H5.out]; exact e
                      clear hj hj0 HLAST HXT HKT
                      by_cases hgt : (m : Int) < (qn : Int) + 1
                      · have HTx : Hid (nestL ((kd.map (fT f)).take (k' + 1)) = qn + 1) := by have e := HT.out; exact e.trans (by omega)
                        clear HT
                        go_wp2
                        go_region
                        all_goals (try go_wp2)
                        go_roundw
                        case rel => exact ⟨k' + 1, _, by omega, by go_num, by first | (rw [HTx.out]; done) | (rw [HTx.out]; rfl), rfl, HL'.out, (hba _).drew⟩
                        case measure => simp [intOf]; omega
                      · have HTx : Hid (nestL ((kd.map (fT f)).take (k' + 1)) = m) := by have e := HT.out; exact e.trans (by omega)
                        clear HT
                        go_wp2
                        go_region
                        all_goals (try go_wp2)
                        go_roundw
                        case rel => exact ⟨k' + 1, _, by omega, by go_num, by first | (rw [HTx.out]; done) | (rw [HTx.out]; rfl), rfl, HL'.out, (hba _).drew⟩
                        case measure => simp [intOf]; omega
                    · have hls' : lessB last (ts[kd[k']]'hxl).text = false := by simpa using hls
                      have HV : Hid (valT ts = none) := by
                        have e : nm (kd.map (fT f)) (k' / 2 + 1) = none := by
                          have hkt := HKT.out
                          rw [HXT.out] at hkt
                          have hla := HLAST.out
                          subst hj
                          rw [show 2 * j / 2 = j by omega]
                          exact last_fail (by simpa using hklt) hkt hla (by omega) hls'
                        exact valT_none_of ts (i + 1) (by omega) (HMN.out (mk_fail H5.out HML.out (by simp; omega) e))
                      clear hj hj0 HLAST HXT HKT hls
                      by_cases hgt : (m : Int) < (qn : Int) + 1
                      · have HTx : Hid (nestL ((kd.map (fT f)).take (k' + 1)) = qn + 1) := by have e := HT.out; exact e.trans (by omega)
                        clear HT
                        go_wp2
                        go_region
                        all_goals (try go_wp2)
                        go_ret
                        rw [HV.out]
                        exact ⟨rfl, hbw.trans ((hb.trans (((hba _).drew).mono hb.size)).mono hbw.size)⟩
                      · have HTx : Hid (nestL ((kd.map (fT f)).take (k' + 1)) = m) := by have e := HT.out; exact e.trans (by omega)
                        clear HT
                        go_wp2
                        go_region
                        all_goals (try go_wp2)
                        go_ret
                        rw [HV.out]
                        exact ⟨rfl, hbw.trans ((hb.trans (((hba _).drew).mono hb.size)).mono hbw.size)⟩
                · have hx3B : ((ts[kd[k']]'hxl).kind != 3) = true := by simpa using hx3
                  have HV : Hid (valT ts = none) := by
                    have e : nm (kd.map (fT f)) (k' / 2 + 1) = none := by
                      have hkt := HKT.out
                      have hno := HXN.out hx3
                      rw [← hkt] at hno
                      subst hj
                      rw [show 2 * j / 2 = j by omega]
                      exact nm_stop (by simpa using hklt) hno
                    exact valT_none_of ts (i + 1) (by omega) (HMN.out (mk_fail H5.out HML.out (by simp; omega) e))
                  clear hj HLAST HKT hx3 HX3 HXN
                  by_cases hgt : (m : Int) < (qn : Int) + 1
                  · have HTx : Hid (nestL ((kd.map (fT f)).take (k' + 1)) = qn + 1) := by have e := HT.out; exact e.trans (by omega)
                    clear HT
                    go_wp2
                    go_region
                    all_goals (try go_wp2)
                    go_ret
                    rw [HV.out]
                    exact ⟨rfl, hbw.trans ((hb.trans (((hba _).drew).mono hb.size)).mono hbw.size)⟩
                  · have HTx : Hid (nestL ((kd.map (fT f)).take (k' + 1)) = m) := by have e := HT.out; exact e.trans (by omega)
                    clear HT
                    go_wp2
                    go_region
                    all_goals (try go_wp2)
                    go_ret
                    rw [HV.out]
                    exact ⟨rfl, hbw.trans ((hb.trans (((hba _).drew).mono hb.size)).mono hbw.size)⟩
              · obtain ⟨j, hj⟩ : ∃ j, k' = 2 * j + 1 := ⟨k' / 2, by omega⟩
                have hevB : (((k' : Int) % 2) == 0) = false := by simp; omega
                have HL' : Hid (LastOk (ts[i]'(by omega)).kind (kd.map (fT f)) (k' + 1) last) := by
                  have e : LastOk 5 (kd.map (fT f)) (k' + 1) last := by
                    have hla := HLAST.out
                    subst hj
                    exact last_odd hla
                  rw [H5.out]; exact e
                clear hj hev HLAST HKT HX3 HXN
                by_cases hgt : (m : Int) < (qn : Int) + 1
                · have HTx : Hid (nestL ((kd.map (fT f)).take (k' + 1)) = qn + 1) := by have e := HT.out; exact e.trans (by omega)
                  clear HT
                  go_wp2
                  go_region
                  all_goals (try go_wp2)
                  go_roundw
                  case rel => exact ⟨k' + 1, _, by omega, by go_num, by first | (rw [HTx.out]; done) | (rw [HTx.out]; rfl), rfl, HL'.out, (hba _).drew⟩
                  case measure => simp [intOf]; omega
                · have HTx : Hid (nestL ((kd.map (fT f)).take (k' + 1)) = m) := by have e := HT.out; exact e.trans (by omega)
                  clear HT
                  go_wp2
                  go_region
                  all_goals (try go_wp2)
                  go_roundw
                  case rel => exact ⟨k' + 1, _, by omega, by go_num, by first | (rw [HTx.out]; done) | (rw [HTx.out]; rfl), rfl, HL'.out, (hba _).drew⟩
                  case measure => simp [intOf]; omega
            · have h5B : ((ts[i]'(by omega)).kind == 5) = false := by simpa using h5
              have HL' : Hid (LastOk (ts[i]'(by omega)).kind (kd.map (fT f)) (k' + 1) last) := last_other h5 HLAST.out
              clear h5 HLAST HKT HX3 HXN
              by_cases hgt : (m : Int) < (qn : Int) + 1
              · have HTx : Hid (nestL ((kd.map (fT f)).take (k' + 1)) = qn + 1) := by have e := HT.out; exact e.trans (by omega)
                clear HT
                go_wp2
                go_region
                all_goals (try go_wp2)
                go_roundw
                case rel => exact ⟨k' + 1, _, by omega, by go_num, by first | (rw [HTx.out]; done) | (rw [HTx.out]; rfl), rfl, HL'.out, (hba _).drew⟩
                case measure => simp [intOf]; omega
              · have HTx : Hid (nestL ((kd.map (fT f)).take (k' + 1)) = m) := by have e := HT.out; exact e.trans (by omega)
                clear HT
                go_wp2
                go_region
                all_goals (try go_wp2)
                go_roundw
                case rel => exact ⟨k' + 1, _, by omega, by go_num, by first | (rw [HTx.out]; done) | (rw [HTx.out]; rfl), rfl, HL'.out, (hba _).drew⟩
                case measure => simp [intOf]; omega
          · obtain rfl : k' = kd.length := by omega
            have hml : ((kd.map (fT f)).length : Int) = (ts[i]'(by omega)).kids := by rw [List.length_map]; exact HKD.out
            have HML : Hid (((kd.map (fT f)).length : Int) = (ts[i]'(by omega)).kids) := hml
            have HLAST : Hid (LastOk (ts[i]'(by omega)).kind (kd.map (fT f)) (kd.map (fT f)).length last) := by rw [List.length_map]; exact hlast
            clear hml hlast
            have hmE : nestL ((kd.map (fT f)).take kd.length) = nestL (kd.map (fT f)) := by rw [List.take_of_length_le (by simp)]
            generalize nestL ((kd.map (fT f)).take kd.length) = m at *
            have HM : Hid (nestL (kd.map (fT f)) = m) := hmE.symm
            clear hmE
            have hownr := owns_below hown hb2
            have hbr := hb.trans (hb2.mono hb.size)
            have hw2 : ∀ o (w1 : World), (wr.alloc o).grownBy w1 u5.ownBlock → Below wK.heap.size wK w1 := fun o w1 hg => (hbr.alloc hbr.size o).grown hg (by simp; have := hbr.size; omega) (fun j hj => owns_row_ge hown hj)
            have hcK : wK.cell? ⟨ba, off + i * 4, none⟩ = some (.int .i64 (ts[i]'(by omega)).kind) ∧ wK.cell? ⟨ba, off + i * 4 + 1, none⟩ = some (.int .i64 (ts[i]'(by omega)).n) ∧ wK.cell? ⟨ba, off + i * 4 + 2, none⟩ = some (.string (ts[i]'(by omega)).text) ∧ wK.cell? ⟨ba, off + i * 4 + 3, none⟩ = some (.int .i64 (ts[i]'(by omega)).kids) := by
              obtain ⟨ba', off', e, h⟩ := (hss.below hbw).at (k := i) (by omega)
              simp at e
              obtain ⟨rfl, rfl⟩ := e
              exact h i (by omega)
            obtain ⟨c0, c1, c2, c3⟩ := hcK
            have hsz := hbr.size
            have HFK : Hid (∀ x (h : x < ts.length), x < i → (ts[x].kind = 3 → fT f x = .text ts[x].text) ∧ (ts[x].kind ≠ 3 → ∀ s, fT f x ≠ .text s)) := hfk
            clear hA hrowr hrowi hcelli hcell hrows hfk f1a f2a
            by_cases h12 : 12 < m
            · have HV : Hid (valT ts = none) := deep_none (by omega) HKD.out HF.out HRI'.out HMN.out HMS.out (by rw [HM.out]; exact h12)
              go_wp2_with (at_builtin; refine wpList_append_own _ rfl _ _ 39 rfl wK.heap.size 3 i0 _ 1 8 Try.underlying39 hi hz0 hz1 hz2 rfl (by decide) _ _ _ rfl (hownr.alloc _) ⟨wr.heap.size, 0, none⟩ 1 1 [.int .i64 m] rfl rfl (cell_one_new _ _ _) (by simp [Value.oneCell']) (by unfold maxLen; omega) (by omega) (by simp; omega) ?_; intro v1 w1 hown1 hgrow1 _)
              go_ret
              rw [HV.out]
              exact ⟨rfl, hbw.trans ((hw2 _ _ hgrow1).mono hbw.size)⟩
            · go_wp2_with (at_builtin; refine wpList_append_own _ rfl _ _ 39 rfl wK.heap.size 3 i0 _ 1 8 Try.underlying39 hi hz0 hz1 hz2 rfl (by decide) _ _ _ rfl (hownr.alloc _) ⟨wr.heap.size, 0, none⟩ 1 1 [.int .i64 m] rfl rfl (cell_one_new _ _ _) (by simp [Value.oneCell']) (by unfold maxLen; omega) (by omega) (by simp; omega) ?_; intro v1 w1 hown1 hgrow1 _; have hbw1 := hw2 _ _ hgrow1; have d0 := cell_later hbw1 c0; have d1 := cell_later hbw1 c1; have d2 := cell_later hbw1 c2; have d3 := cell_later hbw1 c3; have dx := cell_later hbw1 hbx)
              refine (atomOk_any (ts[i]'(by omega)) _).mono ?_
              rintro e w2 ⟨b, rfl, hbi, hb3⟩
              have hbw2 := hbw1.trans (hb3.mono hbw1.size)
              have hown2 := owns_below hown1 hb3
              cases b with
              | false =>
                have HV : Hid (valT ts = none) := by
                  refine valT_none_of ts (i + 1) (by omega) (HMN.out ?_)
                  cases hx : mkT (ts[i]'(by omega)) (kd.map (fT f)) with
                  | none => rfl
                  | some t => exact absurd (hbi.2 ((mkT_iff _ _ HML.out).1 ⟨t, hx⟩).1) (by simp)
                clear hbi
                go_wp2
                go_ret
                rw [HV.out]
                exact ⟨rfl, hbw.trans (hbw2.mono hbw.size)⟩
              | true =>
                obtain ⟨t, ht⟩ := good_mk HML.out (hbi.1 rfl) HLAST.out
                have HMK : Hid (mkT (ts[i]'(by omega)) (kd.map (fT f)) = some t) := ht
                clear ht hbi
                go_wp2
                go_roundw
                case rel =>
                  have hnt : t.nest = m := (mkT_nest HML.out HMK.out).trans HM.out
                  refine ⟨i + 1, f ++ [t], oi', by omega, by go_num, by rw [List.length_append, HF.out]; rfl, by rw [HTK.out]; exact HRI'.out, HMS.out t HMK.out, ?_, ?_, ?_, hbw2⟩
                  · intro u hu
                    rcases List.mem_append.1 hu with hu | hu
                    · exact hfn u hu
                    · simp at hu; subst hu; omega
                  · intro x hx hxi
                    by_cases hxe : x = i
                    · subst hxe
                      rw [show fT (f ++ [t]) x = t by conv => lhs; rw [← HF.out, fT_new]]
                      exact mkT_text HMK.out
                    · rw [fT_old f t x (by omega)]
                      exact HFK.out x hx (by omega)
                  · have e : ints ((f ++ [t]).map T.nest) = ints (f.map T.nest) ++ [.int .i64 m] := by simp [ints, hnt]
                    rw [e]
                    exact hown2
                case measure => simp [intOf]; omega
      · obtain rfl : i = ks.length := by omega
        have HY : Hid ((valT ts).isSome = true) := by
          have hkl : ks.length = ts.length := by omega
          have hr := HRI.out
          have hbt := HBI.out
          rw [hkl] at hr hbt
          rw [List.take_length] at hbt
          exact val_yes h300 hr (by have e := hr.symm.trans HRUN.out; simp at e; rw [e.1]; exact HO1.out) (HF.out.trans hkl) hbt hfn
        clear hfk hrows hcell
        go_wp2
        go_ret
        rw [HY.out]
        exact ⟨rfl, hbw.trans (hb.mono hbw.size)⟩

set_option maxHeartbeats 1000000 in
theorem specValid_no (a : Option Addr) (cap : Nat) (ts : List At) (w : World) (h : ts.length < 1 ∨ 300 < ts.length) :
    Calls Try.prog 6 #[.agg #[.slice a ts.length cap]] w fun e w' => e = .returned (.bool (valT ts).isSome) ∧ Below w.heap.size w w' := by
  have HV : Hid (valT ts = none) := by
    have : valT ts = none := by
      unfold valT
      rcases h with h | h
      · have : ts = [] := List.eq_nil_of_length_eq_zero (by omega)
        subst this
        rfl
      · rw [if_neg (by omega)]
    exact this
  have e1 : (decide ((1 : Int) ≤ ts.length) && decide ((ts.length : Int) ≤ 300)) = false := by simp; omega
  clear h
  go_enter Try.func6, Try.ntmps6
  go_wp2_with (go_at_call 13; refine (in_any _ _ _ _).mono ?_; rintro e w' ⟨rfl, rfl⟩; rw [e1])
  go_ret
  rw [HV.out]
  exact ⟨rfl, (Below.refl _ _).alloc (Nat.le_refl _) _⟩

theorem specValid_any (a : Option Addr) (cap : Nat) (ts : List At) (w : World) (hss : AS w a ts) (hm : ∀ s ∈ ts, s.text.size ≤ maxLen) :
    Calls Try.prog 6 #[.agg #[.slice a ts.length cap]] w fun e w' => e = .returned (.bool (valT ts).isSome) ∧ Below w.heap.size w w' := by
  by_cases h : ts.length < 1 ∨ 300 < ts.length
  · exact specValid_no a cap ts w h
  · exact specValid_yes a cap ts w hss (by omega) (by omega) hm
end Go.Proofs.Ytdjpohkionapiaa
