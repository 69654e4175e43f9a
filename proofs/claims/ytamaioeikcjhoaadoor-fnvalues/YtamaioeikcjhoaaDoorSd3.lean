/-
  spec's desk: values, the parts.
-/
import Derived.Test.YtamaioeikcjhoaaDoorSd2
import Derived.Test.YtamaioeikcjhoaaDoorSdR
namespace Go.Proofs.YtamaioeikcjhoaaDoor
open Go.RowKit

theorem own_noneA (w : World) (B : Nat) (hB : B ≤ w.heap.size) : (w.alloc (.cells #[] 66)).ownsRow B 66 4 (.slice (some ⟨w.heap.size, 0, none⟩) 0 0) 0 (acells []) :=
  ⟨by simp [acells], .inr ⟨w.heap.size, 0, #[], rfl, hB, heap_alloc_new w _, Nat.le_refl _, by unfold maxLen; omega, rfl, by simp [acells]⟩⟩
theorem DPost.bad {b : Nat} {W W1 : World} {s : ByteArray} {p n f : Nat} {bad : Bool} (hg : W.grownBy W1 (some b)) (hd : DK b W1 s p (n + 1) bad) (hp : p ≤ s.size) (hn : n ≤ 301) (ho : bad = false → (s.size ≤ p ∨ f = 0 ∨ 300 < n + 1)) :
    DPost b W s p n f bad (.returned (.slice (some ⟨W1.heap.size, 0, none⟩) 0 0)) ((W1.setCell ⟨b, 2, none⟩ (.bool true)).alloc (.cells #[] 66)) := by
  have hd2 := hd.spoil
  have hg2 : W.grownBy (W1.setCell ⟨b, 2, none⟩ (.bool true)) (some b) := dk_trans hg (dk_set _ _ _ _)
  have ho2 := own_noneA (W1.setCell ⟨b, 2, none⟩ (.bool true)) W.heap.size hg2.size
  have hsz : (W1.setCell ⟨b, 2, none⟩ (.bool true)).heap.size = W1.heap.size := by simp
  rw [hsz] at ho2
  refine ⟨W1.heap.size, 0, [], p, n + 1, true, rfl, dk_alloc _ hg2, hd2.far (row := none) (dk_below ((Below.refl _ _).alloc (Nat.le_refl _) _)) (by simp), ho2, by simp [totalA], hp, by simp, by omega, (by intro h; cases h), (by intro a ha; simp at ha), fun _ => rfl, ⟨fun hb t r hgd hne hr hl => ?_⟩⟩
  exfalso
  rcases ho hb with h | h | h
  · rw [rst_nil h] at hr
    have := form_ne t
    cases hf : t.form with
    | nil => exact this hf
    | cons c l => rw [hf] at hr; simp at hr
  · omega
  · have := atoms_pos t; omega

set_option maxRecDepth 20000 in
set_option maxHeartbeats 1000000 in
theorem dvalue_step (b f d : Nat) (hd13 : d ≤ 13) (hf : f + d = 13) (ih : 0 < f → ValS b (f - 1) ((d : Int) + 1)) : ValS b f (d : Int) := by
  intro W s p n bad h hp hs hn
  have HI : RKeep (0 < f → ValS b (f - 1) ((d : Int) + 1)) := ⟨ih⟩
  clear ih
  have hdk := h.cnt (n + 1)
  rw [show ((n + 1 : Nat) : Int) = (n : Int) + 1 by omega] at hdk
  have hg1 : W.grownBy (W.setCell ⟨b, 3, none⟩ (.int .i64 ((n : Int) + 1))) (some b) := dk_set _ _ _ _
  have c3 := h.c3
  have fz := h.fz
  have e0 := hdk.c0
  have e1 := hdk.c1
  have e2 := hdk.c2
  have e3 := hdk.c3
  rw [show ((n + 1 : Nat) : Int) = (n : Int) + 1 by omega] at e3
  have ef := hdk.fz
  clear h
  go_enter Tryd.func15, Tryd.ntmps15
  go_upto_region 2 with fail
  generalize W.setCell ⟨b, 3, none⟩ (.int .i64 ((n : Int) + 1)) = W1 at *
  have HB : (bad = false → (s.size ≤ p ∨ f = 0 ∨ 300 < n + 1)) → RKeep (∀ j, DPost b W s p n f bad (.returned (.slice (some ⟨W1.heap.size, 0, none⟩) 0 0)) (((W1.drewN j).setCell ⟨b, 2, none⟩ (.bool true)).alloc (.cells #[] 66))) := fun ho => ⟨fun j => DPost.bad (dk_drewN hg1 j) (hdk.drewN j) hp hn ho⟩
  cases bad with
  | true =>
    have HP := HB (by intro h; cases h)
    clear HB hdk hg1
    go_quiet (fail)
    go_wp2
    go_ret
    exact HP.out _
  | false =>
    by_cases hq : s.size ≤ p
    · have hq1 : (s.size : Int) ≤ p := by omega
      have d1 : decide ((s.size : Int) ≤ p) = true := by simpa using hq1
      have HP := HB (fun _ => .inl hq)
      clear HB hdk hg1
      go_quiet (fail)
      go_wp2
      go_ret
      exact HP.out _
    have hq1 : ¬ (s.size : Int) ≤ p := by omega
    have d1 : decide ((s.size : Int) ≤ p) = false := by simpa using hq1
    by_cases hd12 : d = 13
    · have hq2 : (12 : Int) < d := by omega
      have d2 : decide ((12 : Int) < d) = true := by simpa using hq2
      have HP := HB (fun _ => .inr (.inl (by omega)))
      clear HB hdk hg1 hd12
      go_quiet (fail)
      go_wp2
      go_ret
      exact HP.out _
    have hq2 : ¬ (12 : Int) < d := by omega
    have d2 : decide ((12 : Int) < d) = false := by simpa using hq2
    by_cases hn3 : 300 < n + 1
    · have hq3 : (300 : Int) < (n : Int) + 1 := by omega
      have d3 : decide ((300 : Int) < (n : Int) + 1) = true := by simpa using hq3
      have HP := HB (fun _ => .inr (.inr hn3))
      clear HB hdk hg1
      go_quiet (fail)
      go_wp2
      go_ret
      exact HP.out _
    have hq3 : ¬ (300 : Int) < (n : Int) + 1 := by omega
    have d3 : decide ((300 : Int) < (n : Int) + 1) = false := by simpa using hq3
    have hpl : p < s.size := by omega
    obtain ⟨c, hc⟩ : ∃ c, s[p] = c := ⟨_, rfl⟩
    have hbyte : c.toNat < 256 := c.toNat_lt
    clear HB
    go_quiet (fail)
    go_upto_region 5 with fail
    have hdk2 := hdk.drewN nq
    have hg2 := dk_drewN hg1 nq
    clear hdk hg1 e0 e1 e2 e3 ef
    generalize W1.drewN nq = W2 at *
    have e0 := hdk2.c0
    have e1 := hdk2.c1
    have ef := hdk2.fz
    have hlt := hdk2.lt
    have o0 : (W2.drew.alloc (.cells #[.int .i64 0, .int .i64 0, .string ⟨#[]⟩, .int .i64 0] 66)).cell? ⟨b, 0, none⟩ = some (.string s) := cell_later ((Below.refl _ _).drew.alloc (Nat.le_refl _) _) e0
    have o1 : (W2.drew.alloc (.cells #[.int .i64 0, .int .i64 0, .string ⟨#[]⟩, .int .i64 0] 66)).cell? ⟨b, 1, none⟩ = some (.int .i64 p) := cell_later ((Below.refl _ _).drew.alloc (Nat.le_refl _) _) e1
    have x0 : (W2.drew.alloc (.cells #[.int .i64 0, .int .i64 0, .string ⟨#[]⟩, .int .i64 0] 66)).cell? ⟨W2.heap.size, 0, none⟩ = some (.int .i64 0) := by simp [go_sem]
    have x1 : (W2.drew.alloc (.cells #[.int .i64 0, .int .i64 0, .string ⟨#[]⟩, .int .i64 0] 66)).cell? ⟨W2.heap.size, 1, none⟩ = some (.int .i64 0) := by simp [go_sem]
    have x2 : (W2.drew.alloc (.cells #[.int .i64 0, .int .i64 0, .string ⟨#[]⟩, .int .i64 0] 66)).cell? ⟨W2.heap.size, 2, none⟩ = some (.string ⟨#[]⟩) := by simp [go_sem]
    have x3 : (W2.drew.alloc (.cells #[.int .i64 0, .int .i64 0, .string ⟨#[]⟩, .int .i64 0] 66)).cell? ⟨W2.heap.size, 3, none⟩ = some (.int .i64 0) := by simp [go_sem]
    have xf : ∀ j, (W2.drew.alloc (.cells #[.int .i64 0, .int .i64 0, .string ⟨#[]⟩, .int .i64 0] 66)).frozen? ⟨W2.heap.size, j, none⟩ = false := by intro j; simp [go_sem]
    have hbA : Below W2.heap.size W2 (W2.alloc (.cells #[.int .i64 c.toNat, .int .i64 0, .string ⟨#[]⟩, .int .i64 0] 66)).drew := ((Below.refl _ _).alloc (Nat.le_refl _) _).drew
    have hw64 : wrap64 (c.toNat : Int) = c.toNat := by unfold wrap64; omega
    go_region
    clear o0 o1 x0 x1 x2 x3 xf e0 e1 ef
    have hdk3 : DK b (W2.alloc (.cells #[.int .i64 c.toNat, .int .i64 0, .string ⟨#[]⟩, .int .i64 0] 66)).drew s p (n + 1) false := hdk2.far (row := none) (dk_below hbA) (by simp)
    have hg3 : W.grownBy (W2.alloc (.cells #[.int .i64 c.toNat, .int .i64 0, .string ⟨#[]⟩, .int .i64 0] 66)).drew (some b) := dk_trans hg2 (dk_below hbA)
    have x0 : (W2.alloc (.cells #[.int .i64 c.toNat, .int .i64 0, .string ⟨#[]⟩, .int .i64 0] 66)).drew.cell? ⟨W2.heap.size, 0, none⟩ = some (.int .i64 c.toNat) := by simp [go_sem]
    have x1 : (W2.alloc (.cells #[.int .i64 c.toNat, .int .i64 0, .string ⟨#[]⟩, .int .i64 0] 66)).drew.cell? ⟨W2.heap.size, 1, none⟩ = some (.int .i64 0) := by simp [go_sem]
    have x2 : (W2.alloc (.cells #[.int .i64 c.toNat, .int .i64 0, .string ⟨#[]⟩, .int .i64 0] 66)).drew.cell? ⟨W2.heap.size, 2, none⟩ = some (.string ⟨#[]⟩) := by simp [go_sem]
    have x3 : (W2.alloc (.cells #[.int .i64 c.toNat, .int .i64 0, .string ⟨#[]⟩, .int .i64 0] 66)).drew.cell? ⟨W2.heap.size, 3, none⟩ = some (.int .i64 0) := by simp [go_sem]
    have xf : ∀ j, (W2.alloc (.cells #[.int .i64 c.toNat, .int .i64 0, .string ⟨#[]⟩, .int .i64 0] 66)).drew.frozen? ⟨W2.heap.size, j, none⟩ = false := by intro j; simp [go_sem]
    have hsz3 : W2.heap.size < (W2.alloc (.cells #[.int .i64 c.toNat, .int .i64 0, .string ⟨#[]⟩, .int .i64 0] 66)).drew.heap.size := by simp [go_sem]
    have hge : W.heap.size ≤ W2.heap.size := hg2.size
    have hbW : b < W.heap.size := lt_of_cellR c3
    clear hdk2 hg2 hbA
    generalize (W2.alloc (.cells #[.int .i64 c.toNat, .int .i64 0, .string ⟨#[]⟩, .int .i64 0] 66)).drew = W3 at *
    generalize W2.heap.size = ab at *
    have hDM : DM b W s (p + 1) (n + 1) ab ⟨c.toNat, 0, ⟨#[]⟩, 0⟩ ((W3.setCell ⟨b, 1, none⟩ (.int .i64 ((p : Int) + 1))).alloc (.cells #[] 66)) (.slice (some ⟨W3.heap.size, 0, none⟩) 0 0) [] (p + 1) (n + 1) false := by
      have hd4 := hdk3.at (p + 1)
      rw [show ((p + 1 : Nat) : Int) = (p : Int) + 1 by omega] at hd4
      have hb4 : Below (W3.setCell ⟨b, 1, none⟩ (.int .i64 ((p : Int) + 1))).heap.size (W3.setCell ⟨b, 1, none⟩ (.int .i64 ((p : Int) + 1))) ((W3.setCell ⟨b, 1, none⟩ (.int .i64 ((p : Int) + 1))).alloc (.cells #[] 66)) := (Below.refl _ _).alloc (Nat.le_refl _) _
      have hne : ∀ j, (⟨b, 1, none⟩ : Addr) ≠ ⟨ab, j, none⟩ := fun j e => by injection e with e; omega
      have ho := own_noneA (W3.setCell ⟨b, 1, none⟩ (.int .i64 ((p : Int) + 1))) (ab + 1) (by simp; omega)
      rw [show (W3.setCell ⟨b, 1, none⟩ (.int .i64 ((p : Int) + 1))).heap.size = W3.heap.size by simp] at ho
      exact ⟨hd4.far (row := none) (dk_below hb4) (by simp), dk_trans (dk_trans hg3 (dk_set _ _ _ _)) (dk_below hb4), ho, cell_later hb4 ((World.cell?_setCell_other _ _ _ _ (hne _)).trans x0), cell_later hb4 ((World.cell?_setCell_other _ _ _ _ (hne _)).trans x1), cell_later hb4 ((World.cell?_setCell_other _ _ _ _ (hne _)).trans x2), cell_later hb4 ((World.cell?_setCell_other _ _ _ _ (hne _)).trans x3), fun j => (hb4.frozen (p := ⟨ab, j, none⟩) (by show ab < (W3.setCell _ _).heap.size; simp; omega)).trans ((World.frozen?_setCell _ _ _ _).trans (xf j)), hge, hbW, by simp [totalA], by omega, by simp, by omega, fun _ => by omega, by intro a ha; simp at ha⟩
    have e1 := hdk3.c1
    have ef := hdk3.fz
    have HC : RKeep (rst s p = c :: rst s (p + 1)) := ⟨by rw [rst_cons hpl, hc]⟩
    clear hc
    obtain ⟨z, hz⟩ : ∃ z, c.toNat = z := ⟨_, rfl⟩
    rw [hz] at hDM x0 hw64
    have HZ : RKeep (c.toNat = z) := ⟨hz⟩
    have hz256 : z < 256 := by omega
    clear hz hbyte
    go_upto_region 8 with fail
    clear x0 x1 x2 x3 xf e1 ef hdk3 hg3 hw64 d1 d2 d3 c3 fz
    generalize (W3.setCell ⟨b, 1, none⟩ (.int .i64 ((p : Int) + 1))).alloc (.cells #[] 66) = W4 at *
    generalize W3.heap.size = g0 at *
    have a0 := hDM.a0
    have a1 := hDM.a1
    have a2 := hDM.a2
    have a3 := hDM.a3
    have af := hDM.af
    obtain ⟨i0, hi, hz0, hz1, hzb⟩ := info_parts Tryd.infoAtom
    have HCz : RKeep (∀ k : UInt8, z = k.toNat → rst s p = k :: rst s (p + 1)) := ⟨fun k hk => by rw [HC.out, show c = k from UInt8.toNat_inj.1 (by rw [HZ.out, hk])]⟩
    have HNo : RKeep (z ≠ 1 → z ≠ 2 → z ≠ 3 → z ≠ 4 → z ≠ 5 → ∀ (t : T) r, rst s p ≠ t.form ++ r) := ⟨fun h1 h2 h3 h4 h5 t r e => by
      rw [HC.out] at e
      have hzz := HZ.out
      rcases fh_no e with h | h | h | h | h <;> subst h
      · exact h1 hzz.symm
      · exact h2 hzz.symm
      · exact h3 hzz.symm
      · exact h4 hzz.symm
      · exact h5 hzz.symm⟩
    clear HC HZ
    by_cases z1 : z = 1
    · subst z1
      have HC := HCz.out 1 rfl
      have hcall := dshort_any b W4 s (p + 1) (n + 1) false hDM.dk (by omega) hs
      go_wp2_with fail
      refine hcall.mono ?_
      rintro e w1 ⟨m, p', bad', rfl, hg, hd, hm, h1, h2, h3, HK⟩
      clear hcall
      have hD1 := hDM.call hg hd h1 h2 (Nat.le_refl _) (by omega) (fun _ => by omega)
      have b1 := hD1.a1
      have bf := hD1.af
      have hD2 := hD1.setN (wrap64 m)
      have hwr : -9223372036854775808 ≤ wrap64 (m : Int) ∧ wrap64 (m : Int) < 9223372036854775808 := by unfold wrap64; omega
      have HV0 : RKeep (VF s p n f ([] ++ [⟨((1 : Nat) : Int), wrap64 m, ⟨#[]⟩, 0⟩]) p' (n + 1) bad') := ⟨fun t r hgd hne hr hl => by
        rw [HC] at hr
        obtain ⟨k, rfl, hk1, hk2⟩ := fh_1 hgd hr
        obtain ⟨y1, y2, y3⟩ := HK.out k r (by omega) hk2
        subst y1
        have hk3 : wrap64 (m : Int) = m := by unfold wrap64; omega
        refine ⟨?_, y3, ?_, y2⟩
        · rw [T.atoms, flagA, hk3]; rfl
        · rw [T.atoms]; rfl⟩
      clear a0 a1 a2 a3 af hg hd HK HC
      go_upto_region 34 with fail
      clear b1 bf hD1 hDM
      obtain ⟨a, ha⟩ : ∃ a : At, a = ⟨((1 : Nat) : Int), wrap64 m, ⟨#[]⟩, 0⟩ := ⟨_, rfl⟩
      have HA : RKeep (-9223372036854775808 ≤ a.n ∧ a.n < 9223372036854775808) := ⟨by rw [ha]; exact hwr⟩
      have HT : RKeep (p + 1 + totalA [] + a.text.size ≤ p') := ⟨by rw [ha]; show p + 1 + 0 + 0 ≤ p'; omega⟩
      have HB : RKeep (bad' = false → (n + 1) ≤ 300) := ⟨fun _ => by omega⟩
      have hD : DM b W s (p + 1) (n + 1) ab a (w1.setCell ⟨ab, 1, none⟩ (.int .i64 (wrap64 m))) (.slice (some ⟨g0, 0, none⟩) 0 0) [] p' (n + 1) bad' := by rw [ha]; exact hD2
      have HV : RKeep (VF s p n f ([] ++ [a]) p' (n + 1) bad') := by rw [ha]; exact HV0
      clear ha hD2 HV0 hwr
      generalize w1.setCell ⟨ab, 1, none⟩ (.int .i64 (wrap64 m)) = wt at *
      have t0 := hD.a0
      have t1 := hD.a1
      have t2 := hD.a2
      have t3 := hD.a3
      have hab : ab + 1 ≤ wt.heap.size := lt_of_cellR t0
      have hyl : 0 ≤ 302 := by have h1 := hD.nn; have h2 := hD.n2; simp only [List.length_nil] at h1; omega
      have hbw : Below wt.heap.size wt (wt.alloc (.cells #[.int .i64 a.kind, .int .i64 a.n, .string a.text, .int .i64 a.kids] 66)) := (Below.refl _ _).alloc (Nat.le_refl _) _
      have hrow := owns_below hD.row hbw
      have HD : RKeep (DM b W s (p + 1) (n + 1) ab a wt (.slice (some ⟨g0, 0, none⟩) 0 0) [] p' (n + 1) bad') := ⟨hD⟩
      clear hD
      go_wp2_with (first | (at_builtin; refine wpList_append_lies _ rfl _ _ 22 rfl (ab + 1) 66 i0 _ 4 40 Tryd.underlying22 hi hz0 hz1 hzb rfl (by decide) (.slice (some ⟨g0, 0, none⟩) 0 0) 0 (acells []) rfl hrow ⟨wt.heap.size, 0, none⟩ 1 1 a.cells rfl rfl (by exact news_4 wt a _ _ rfl) (by exact one_4 a) (by omega) (by unfold maxLen; omega) (by omega) (by simp; omega) _ rfl ?_; intro g3 cap3 w3 hown3 hgrow3 hat3 hlt3))
      have HP : RKeep (DPost b W s p n f false (.returned (.slice (some ⟨g3, 0, none⟩) (0 + 1) cap3)) w3) := ⟨HD.out.post hbw hgrow3 (by exact hown3) HA.out HT.out HB.out HV.out⟩
      clear hrow hown3 hgrow3 hat3 hlt3 hbw HD
      go_ret
      exact HP.out
    by_cases z2 : z = 2
    · subst z2
      have HC := HCz.out 2 rfl
      have hcall := dshort_any b W4 s (p + 1) (n + 1) false hDM.dk (by omega) hs
      go_wp2_with fail
      refine hcall.mono ?_
      rintro e w1 ⟨m, p', bad', rfl, hg, hd, hm, h1, h2, h3, HK⟩
      clear hcall
      have hD1 := hDM.call hg hd h1 h2 (Nat.le_refl _) (by omega) (fun _ => by omega)
      have b1 := hD1.a1
      have bf := hD1.af
      have hw2 : wrap64 ((m : Int) / 2) = (m : Int) / 2 := by unfold wrap64; omega
      have HZ : RKeep (∀ x : Int, x = zag m → VF s p n f ([] ++ [⟨((2 : Nat) : Int), x, ⟨#[]⟩, 0⟩]) p' (n + 1) bad') := ⟨fun x hx t r hgd hne hr hl => by
        rw [HC] at hr
        obtain ⟨k, rfl, hk1, hk2, hk3⟩ := fh_2 hgd hr
        obtain ⟨y1, y2, y3⟩ := HK.out (zig k) r (zig_lt k) hk3
        subst y1
        rw [zag_zig hk1 hk2] at hx
        subst hx
        refine ⟨?_, y3, ?_, y2⟩
        · rw [T.atoms, numA]; rfl
        · rw [T.atoms]; rfl⟩
      have hzr := zag_in hm
      clear a0 a1 a2 a3 af hg hd HK HC
      by_cases hodd : m % 2 = 1
      · have ho : ((m : Int) % 2 == 1) = true := by simp; omega
        have hD2 := (hD1.setN ((m : Int) / 2)).setN (-((m : Int) / 2) - 1)
        have hzg : -((m : Int) / 2) - 1 = zag m := by unfold zag; rw [if_pos hodd]; omega
        have hwr : -9223372036854775808 ≤ -((m : Int) / 2) - 1 ∧ -((m : Int) / 2) - 1 < 9223372036854775808 := by omega
        have HV0 : RKeep (VF s p n f ([] ++ [⟨((2 : Nat) : Int), -((m : Int) / 2) - 1, ⟨#[]⟩, 0⟩]) p' (n + 1) bad') := ⟨HZ.out _ hzg⟩
        have k1 : (w1.setCell ⟨ab, 1, none⟩ (.int .i64 ((m : Int) / 2))).cell? ⟨ab, 1, none⟩ = some (.int .i64 ((m : Int) / 2)) := World.cell?_setCell_same _ _ _ b1
        clear HZ hzg hzr
        go_upto_region 34 with fail
        clear b1 bf k1 hD1 hDM
        obtain ⟨a, ha⟩ : ∃ a : At, a = ⟨((2 : Nat) : Int), -((m : Int) / 2) - 1, ⟨#[]⟩, 0⟩ := ⟨_, rfl⟩
        have HA : RKeep (-9223372036854775808 ≤ a.n ∧ a.n < 9223372036854775808) := ⟨by rw [ha]; exact hwr⟩
        have HT : RKeep (p + 1 + totalA [] + a.text.size ≤ p') := ⟨by rw [ha]; show p + 1 + 0 + 0 ≤ p'; omega⟩
        have HB : RKeep (bad' = false → (n + 1) ≤ 300) := ⟨fun _ => by omega⟩
        have hD : DM b W s (p + 1) (n + 1) ab a ((w1.setCell ⟨ab, 1, none⟩ (.int .i64 ((m : Int) / 2))).setCell ⟨ab, 1, none⟩ (.int .i64 (-((m : Int) / 2) - 1))) (.slice (some ⟨g0, 0, none⟩) 0 0) [] p' (n + 1) bad' := by rw [ha]; exact hD2
        have HV : RKeep (VF s p n f ([] ++ [a]) p' (n + 1) bad') := by rw [ha]; exact HV0
        clear ha hD2 HV0 hwr
        generalize (w1.setCell ⟨ab, 1, none⟩ (.int .i64 ((m : Int) / 2))).setCell ⟨ab, 1, none⟩ (.int .i64 (-((m : Int) / 2) - 1)) = wt at *
        have t0 := hD.a0
        have t1 := hD.a1
        have t2 := hD.a2
        have t3 := hD.a3
        have hab : ab + 1 ≤ wt.heap.size := lt_of_cellR t0
        have hyl : 0 ≤ 302 := by have h1 := hD.nn; have h2 := hD.n2; simp only [List.length_nil] at h1; omega
        have hbw : Below wt.heap.size wt (wt.alloc (.cells #[.int .i64 a.kind, .int .i64 a.n, .string a.text, .int .i64 a.kids] 66)) := (Below.refl _ _).alloc (Nat.le_refl _) _
        have hrow := owns_below hD.row hbw
        have HD : RKeep (DM b W s (p + 1) (n + 1) ab a wt (.slice (some ⟨g0, 0, none⟩) 0 0) [] p' (n + 1) bad') := ⟨hD⟩
        clear hD
        go_wp2_with (first | (at_builtin; refine wpList_append_lies _ rfl _ _ 22 rfl (ab + 1) 66 i0 _ 4 40 Tryd.underlying22 hi hz0 hz1 hzb rfl (by decide) (.slice (some ⟨g0, 0, none⟩) 0 0) 0 (acells []) rfl hrow ⟨wt.heap.size, 0, none⟩ 1 1 a.cells rfl rfl (by exact news_4 wt a _ _ rfl) (by exact one_4 a) (by omega) (by unfold maxLen; omega) (by omega) (by simp; omega) _ rfl ?_; intro g3 cap3 w3 hown3 hgrow3 hat3 hlt3))
        have HP : RKeep (DPost b W s p n f false (.returned (.slice (some ⟨g3, 0, none⟩) (0 + 1) cap3)) w3) := ⟨HD.out.post hbw hgrow3 (by exact hown3) HA.out HT.out HB.out HV.out⟩
        clear hrow hown3 hgrow3 hat3 hlt3 hbw HD
        go_ret
        exact HP.out
      · have ho : ((m : Int) % 2 == 1) = false := by simp; omega
        have hD2 := hD1.setN ((m : Int) / 2)
        have hzg : (m : Int) / 2 = zag m := by unfold zag; rw [if_neg hodd]; omega
        have hwr : -9223372036854775808 ≤ (m : Int) / 2 ∧ (m : Int) / 2 < 9223372036854775808 := by omega
        have HV0 : RKeep (VF s p n f ([] ++ [⟨((2 : Nat) : Int), (m : Int) / 2, ⟨#[]⟩, 0⟩]) p' (n + 1) bad') := ⟨HZ.out _ hzg⟩
        clear HZ hzg hzr
        go_upto_region 34 with fail
        clear b1 bf hD1 hDM
        obtain ⟨a, ha⟩ : ∃ a : At, a = ⟨((2 : Nat) : Int), (m : Int) / 2, ⟨#[]⟩, 0⟩ := ⟨_, rfl⟩
        have HA : RKeep (-9223372036854775808 ≤ a.n ∧ a.n < 9223372036854775808) := ⟨by rw [ha]; exact hwr⟩
        have HT : RKeep (p + 1 + totalA [] + a.text.size ≤ p') := ⟨by rw [ha]; show p + 1 + 0 + 0 ≤ p'; omega⟩
        have HB : RKeep (bad' = false → (n + 1) ≤ 300) := ⟨fun _ => by omega⟩
        have hD : DM b W s (p + 1) (n + 1) ab a (w1.setCell ⟨ab, 1, none⟩ (.int .i64 ((m : Int) / 2))) (.slice (some ⟨g0, 0, none⟩) 0 0) [] p' (n + 1) bad' := by rw [ha]; exact hD2
        have HV : RKeep (VF s p n f ([] ++ [a]) p' (n + 1) bad') := by rw [ha]; exact HV0
        clear ha hD2 HV0 hwr
        generalize w1.setCell ⟨ab, 1, none⟩ (.int .i64 ((m : Int) / 2)) = wt at *
        have t0 := hD.a0
        have t1 := hD.a1
        have t2 := hD.a2
        have t3 := hD.a3
        have hab : ab + 1 ≤ wt.heap.size := lt_of_cellR t0
        have hyl : 0 ≤ 302 := by have h1 := hD.nn; have h2 := hD.n2; simp only [List.length_nil] at h1; omega
        have hbw : Below wt.heap.size wt (wt.alloc (.cells #[.int .i64 a.kind, .int .i64 a.n, .string a.text, .int .i64 a.kids] 66)) := (Below.refl _ _).alloc (Nat.le_refl _) _
        have hrow := owns_below hD.row hbw
        have HD : RKeep (DM b W s (p + 1) (n + 1) ab a wt (.slice (some ⟨g0, 0, none⟩) 0 0) [] p' (n + 1) bad') := ⟨hD⟩
        clear hD
        go_wp2_with (first | (at_builtin; refine wpList_append_lies _ rfl _ _ 22 rfl (ab + 1) 66 i0 _ 4 40 Tryd.underlying22 hi hz0 hz1 hzb rfl (by decide) (.slice (some ⟨g0, 0, none⟩) 0 0) 0 (acells []) rfl hrow ⟨wt.heap.size, 0, none⟩ 1 1 a.cells rfl rfl (by exact news_4 wt a _ _ rfl) (by exact one_4 a) (by omega) (by unfold maxLen; omega) (by omega) (by simp; omega) _ rfl ?_; intro g3 cap3 w3 hown3 hgrow3 hat3 hlt3))
        have HP : RKeep (DPost b W s p n f false (.returned (.slice (some ⟨g3, 0, none⟩) (0 + 1) cap3)) w3) := ⟨HD.out.post hbw hgrow3 (by exact hown3) HA.out HT.out HB.out HV.out⟩
        clear hrow hown3 hgrow3 hat3 hlt3 hbw HD
        go_ret
        exact HP.out
    by_cases z3 : z = 3
    · subst z3
      have HC := HCz.out 3 rfl
      have hcall := dtext_any b W4 s (p + 1) (n + 1) false hDM.dk (by omega) hs
      go_wp2_with fail
      refine hcall.mono ?_
      rintro e w1 ⟨tx, p', bad', rfl, hg, hd, h1, h2, h3, HK⟩
      clear hcall
      have hD1 := hDM.call hg hd (by omega) h2 (Nat.le_refl _) (by omega) (fun _ => by omega)
      have b2 := hD1.a2
      have bf := hD1.af
      have hD2 := hD1.setT tx
      have HV0 : RKeep (VF s p n f ([] ++ [⟨((3 : Nat) : Int), 0, tx, 0⟩]) p' (n + 1) bad') := ⟨fun t r hgd hne hr hl => by
        rw [HC] at hr
        obtain ⟨q, rfl, hk2⟩ := fh_3 hr
        obtain ⟨y1, y2, y3⟩ := HK.out rfl q r hk2
        subst y1
        refine ⟨?_, y3, ?_, y2⟩
        · rw [T.atoms, textA]; rfl
        · rw [T.atoms]; rfl⟩
      clear a0 a1 a2 a3 af hg hd HK HC
      go_upto_region 34 with fail
      clear b2 bf hD1 hDM
      obtain ⟨a, ha⟩ : ∃ a : At, a = ⟨((3 : Nat) : Int), 0, tx, 0⟩ := ⟨_, rfl⟩
      have HA : RKeep (-9223372036854775808 ≤ a.n ∧ a.n < 9223372036854775808) := ⟨by rw [ha]; show (-9223372036854775808 : Int) ≤ 0 ∧ (0 : Int) < 9223372036854775808; omega⟩
      have HT : RKeep (p + 1 + totalA [] + a.text.size ≤ p') := ⟨by rw [ha]; show p + 1 + 0 + tx.size ≤ p'; omega⟩
      have HB : RKeep (bad' = false → (n + 1) ≤ 300) := ⟨fun _ => by omega⟩
      have hD : DM b W s (p + 1) (n + 1) ab a (w1.setCell ⟨ab, 2, none⟩ (.string tx)) (.slice (some ⟨g0, 0, none⟩) 0 0) [] p' (n + 1) bad' := by rw [ha]; exact hD2
      have HV : RKeep (VF s p n f ([] ++ [a]) p' (n + 1) bad') := by rw [ha]; exact HV0
      clear ha hD2 HV0 
      generalize w1.setCell ⟨ab, 2, none⟩ (.string tx) = wt at *
      have t0 := hD.a0
      have t1 := hD.a1
      have t2 := hD.a2
      have t3 := hD.a3
      have hab : ab + 1 ≤ wt.heap.size := lt_of_cellR t0
      have hyl : 0 ≤ 302 := by have h1 := hD.nn; have h2 := hD.n2; simp only [List.length_nil] at h1; omega
      have hbw : Below wt.heap.size wt (wt.alloc (.cells #[.int .i64 a.kind, .int .i64 a.n, .string a.text, .int .i64 a.kids] 66)) := (Below.refl _ _).alloc (Nat.le_refl _) _
      have hrow := owns_below hD.row hbw
      have HD : RKeep (DM b W s (p + 1) (n + 1) ab a wt (.slice (some ⟨g0, 0, none⟩) 0 0) [] p' (n + 1) bad') := ⟨hD⟩
      clear hD
      go_wp2_with (first | (at_builtin; refine wpList_append_lies _ rfl _ _ 22 rfl (ab + 1) 66 i0 _ 4 40 Tryd.underlying22 hi hz0 hz1 hzb rfl (by decide) (.slice (some ⟨g0, 0, none⟩) 0 0) 0 (acells []) rfl hrow ⟨wt.heap.size, 0, none⟩ 1 1 a.cells rfl rfl (by exact news_4 wt a _ _ rfl) (by exact one_4 a) (by omega) (by unfold maxLen; omega) (by omega) (by simp; omega) _ rfl ?_; intro g3 cap3 w3 hown3 hgrow3 hat3 hlt3))
      have HP : RKeep (DPost b W s p n f false (.returned (.slice (some ⟨g3, 0, none⟩) (0 + 1) cap3)) w3) := ⟨HD.out.post hbw hgrow3 (by exact hown3) HA.out HT.out HB.out HV.out⟩
      clear hrow hown3 hgrow3 hat3 hlt3 hbw HD
      go_ret
      exact HP.out
    by_cases z4 : z = 4
    · subst z4
      have HC := HCz.out 4 rfl
      have hcall := dsmall_any b W4 s (p + 1) (n + 1) false hDM.dk (by omega) hs
      go_wp2_with fail
      refine hcall.mono ?_
      rintro e w1 ⟨m, p1, bad1, rfl, hg, hd, hm, h1, h2, h3, HK⟩
      clear hcall
      have hD1 := hDM.call hg hd h1 h2 (Nat.le_refl _) (by omega) (fun _ => by omega)
      have b3 := hD1.a3
      have bf := hD1.af
      have hD2 := hD1.setK m
      obtain ⟨f0, hf0⟩ : ∃ f0, f = f0 + 1 := ⟨f - 1, by omega⟩
      have HI1 : RKeep (ValS b f0 ((d : Int) + 1)) := ⟨by have := HI.out (by omega); rwa [show f - 1 = f0 by omega] at this⟩
      have HD : RKeep (∀ (k : Nat) (ys : List At) (p2 n2 : Nat) (bad2 : Bool), LI s p1 (n + 1) bad1 m f0 k ys p2 n2 bad2 → k ≤ m → (m ≤ k ∨ bad2 = true) → VF s p n f (ys ++ [⟨((4 : Nat) : Int), 0, ⟨#[]⟩, (m : Int)⟩]) p2 n2 bad2) := ⟨fun k ys p2 n2 bad2 hL hk he => by rw [hf0]; exact hL.done hk he HC HK.out⟩
      clear a0 a1 a2 a3 af hg hd HK HC hf0 HI HNo HCz
      have hw2 : IntKind.i64.wrap ((d : Int) + 1) = (d : Int) + 1 := by rw [IntKind.wrap_i64]; omega
      go_wp2
      clear b3 bf hD1 hDM
      go_loopw [6, 8] (fun o i wr => ∃ (k : Nat) (ys : List At) (p2 n2 : Nat) (bad2 : Bool), k ≤ m ∧ i = .int .i64 k ∧ DM b W s (p + 1) (n + 1) ab ⟨((4 : Nat) : Int), 0, ⟨#[]⟩, (m : Int)⟩ wr o ys p2 n2 bad2 ∧ (bad2 = false → n2 ≤ 300) ∧ RKeep (LI s p1 (n + 1) bad1 m f0 k ys p2 n2 bad2)) (fun _ i _ => m - (intOf i).toNat)
      case atStart => exact ⟨0, [], p1, n + 1, bad1, Nat.zero_le _, rfl, hD2, (fun _ => by omega), ⟨LI.start _ _ _ _ _ _⟩⟩
      case round =>
        clear hD2
        obtain ⟨k, ys, p2, n2, bad2, hk, rfl, hDr, hle3, HL⟩ := hrel
        obtain ⟨ad, cp, rfl⟩ := owns_slice hDr.row
        have a3 := hDr.a3
        have c2 := hDr.dk.c2
        by_cases hlt : k < m
        · have hlt1 : (k : Int) < m := by omega
          cases bad2 with
          | true =>
            have HV0 : RKeep (VF s p n f (ys ++ [⟨((4 : Nat) : Int), 0, ⟨#[]⟩, (m : Int)⟩]) p2 n2 true) := ⟨HD.out k ys p2 n2 true HL.out hk (.inr rfl)⟩
            have htt : p + 1 + totalA ys ≤ p2 := hDr.le
            have hD2 := hDr
            clear HL HD HI1
            go_upto_region 34 with fail
            clear a3 c2 hDr
            obtain ⟨a, ha⟩ : ∃ a : At, a = ⟨((4 : Nat) : Int), 0, ⟨#[]⟩, (m : Int)⟩ := ⟨_, rfl⟩
            have HA : RKeep (-9223372036854775808 ≤ a.n ∧ a.n < 9223372036854775808) := ⟨by rw [ha]; show (-9223372036854775808 : Int) ≤ 0 ∧ (0 : Int) < 9223372036854775808; omega⟩
            have HT : RKeep (p + 1 + totalA ys + a.text.size ≤ p2) := ⟨by rw [ha]; show p + 1 + totalA ys + 0 ≤ p2; omega⟩
            have HB : RKeep (true = false → n2 ≤ 300) := ⟨hle3⟩
            have hD : DM b W s (p + 1) (n + 1) ab a (wr) (.slice ad ys.length cp) ys p2 n2 true := by rw [ha]; exact hD2
            have HV : RKeep (VF s p n f (ys ++ [a]) p2 n2 true) := by rw [ha]; exact HV0
            clear ha hD2 HV0 
            have t0 := hD.a0
            have t1 := hD.a1
            have t2 := hD.a2
            have t3 := hD.a3
            have hab : ab + 1 ≤ wr.heap.size := lt_of_cellR t0
            have hyl : ys.length ≤ 302 := by have h1 := hD.nn; have h2 := hD.n2; omega
            have hbw : Below wr.heap.size wr (wr.alloc (.cells #[.int .i64 a.kind, .int .i64 a.n, .string a.text, .int .i64 a.kids] 66)) := (Below.refl _ _).alloc (Nat.le_refl _) _
            have hrow := owns_below hD.row hbw
            have HD : RKeep (DM b W s (p + 1) (n + 1) ab a wr (.slice ad ys.length cp) ys p2 n2 true) := ⟨hD⟩
            clear hD
            go_wp2_with (first | (at_builtin; refine wpList_append_lies _ rfl _ _ 22 rfl (ab + 1) 66 i0 _ 4 40 Tryd.underlying22 hi hz0 hz1 hzb rfl (by decide) (.slice ad ys.length cp) ys.length (acells ys) rfl hrow ⟨wr.heap.size, 0, none⟩ 1 1 a.cells rfl rfl (by exact news_4 wr a _ _ rfl) (by exact one_4 a) (by omega) (by unfold maxLen; omega) (by omega) (by simp; omega) _ rfl ?_; intro g3 cap3 w3 hown3 hgrow3 hat3 hlt3))
            have HP : RKeep (DPost b W s p n f false (.returned (.slice (some ⟨g3, 0, none⟩) (ys.length + 1) cap3)) w3) := ⟨HD.out.post hbw hgrow3 (by exact hown3) HA.out HT.out HB.out HV.out⟩
            clear hrow hown3 hgrow3 hat3 hlt3 hbw HD
            go_ret
            exact HP.out
          | false =>
            have hcall := HI1.out wr s p2 n2 false hDr.dk hDr.ps hs (by have := hle3 rfl; omega)
            go_wp2_with fail
            refine hcall.mono ?_
            rintro e w2 ⟨g', cap', zs, p3, n3, bad3, rfl, hg2, hd2, hown2, ht2, hp3, hn3, hn302, hn300, hin2, hb2, HK2⟩
            clear hcall
            have hDs := hDr.call hg2 hd2 (by omega) hp3 (by omega) hn302 (fun h => by have := hn300 h; omega)
            have hrow := hDs.row
            have hlen := acells_len zs
            have hnw := dk_news hown2
            have hone := acells_one zs
            have hyl : ys.length + zs.length ≤ 302 := by have h1 := hDr.nn; omega
            have hab : ab + 1 ≤ w2.heap.size := lt_of_cellR hDs.a0
            have HN : RKeep (LI s p1 (n + 1) bad1 m f0 (k + 1) (ys ++ zs) p3 n3 bad3) := ⟨HL.out.step hlt (HK2.out rfl)⟩
            have HDs : RKeep (∀ v3 w3, w2.ownsRow (ab + 1) 66 4 (.slice ad ys.length cp) ys.length (acells ys) → w2.grownBy w3 (Value.slice ad ys.length cp).ownBlock → w3.ownsRow (ab + 1) 66 4 v3 (ys.length + zs.length) (acells ys ++ acells zs) → DM b W s (p + 1) (n + 1) ab ⟨((4 : Nat) : Int), 0, ⟨#[]⟩, (m : Int)⟩ w3 v3 (ys ++ zs) p3 n3 bad3) := ⟨fun v3 w3 _ hg3 ho3 => hDr.app hDs hg3 ho3 hin2 ht2 hn3⟩
            clear HL HK2 hDr hDs hg2 hd2 hown2 hin2 hb2 a3 c2
            go_wp2_with (first | (at_builtin; refine wpList_append_own _ rfl _ _ 22 rfl (ab + 1) 66 i0 _ 4 40 Tryd.underlying22 hi hz0 hz1 hzb rfl (by decide) (.slice ad ys.length cp) ys.length (acells ys) rfl hrow ⟨g', 0, none⟩ zs.length cap' (acells zs) rfl hlen hnw hone (by unfold maxLen; omega) (by omega) (by omega) ?_; intro v3 w3 hown3 hgrow3 hnn3))
            have HF : RKeep (DM b W s (p + 1) (n + 1) ab ⟨((4 : Nat) : Int), 0, ⟨#[]⟩, (m : Int)⟩ w3 v3 (ys ++ zs) p3 n3 bad3) := ⟨HDs.out v3 w3 hrow hgrow3 hown3⟩
            clear HDs hrow hown3 hgrow3 hnn3 hnw hone
            go_roundw
            case rel => exact ⟨k + 1, ys ++ zs, p3, n3, bad3, by omega, by go_num, HF.out, hn300, HN⟩
            case measure => simp [intOf]; omega
        · have hlt1 : ¬ (k : Int) < m := by omega
          have HV0 : RKeep (VF s p n f (ys ++ [⟨((4 : Nat) : Int), 0, ⟨#[]⟩, (m : Int)⟩]) p2 n2 bad2) := ⟨HD.out k ys p2 n2 bad2 HL.out hk (.inl (by omega))⟩
          have htt : p + 1 + totalA ys ≤ p2 := hDr.le
          have hD2 := hDr
          clear HL HD HI1
          go_upto_region 34 with fail
          clear a3 c2 hDr
          obtain ⟨a, ha⟩ : ∃ a : At, a = ⟨((4 : Nat) : Int), 0, ⟨#[]⟩, (m : Int)⟩ := ⟨_, rfl⟩
          have HA : RKeep (-9223372036854775808 ≤ a.n ∧ a.n < 9223372036854775808) := ⟨by rw [ha]; show (-9223372036854775808 : Int) ≤ 0 ∧ (0 : Int) < 9223372036854775808; omega⟩
          have HT : RKeep (p + 1 + totalA ys + a.text.size ≤ p2) := ⟨by rw [ha]; show p + 1 + totalA ys + 0 ≤ p2; omega⟩
          have HB : RKeep (bad2 = false → n2 ≤ 300) := ⟨hle3⟩
          have hD : DM b W s (p + 1) (n + 1) ab a (wr) (.slice ad ys.length cp) ys p2 n2 bad2 := by rw [ha]; exact hD2
          have HV : RKeep (VF s p n f (ys ++ [a]) p2 n2 bad2) := by rw [ha]; exact HV0
          clear ha hD2 HV0 
          have t0 := hD.a0
          have t1 := hD.a1
          have t2 := hD.a2
          have t3 := hD.a3
          have hab : ab + 1 ≤ wr.heap.size := lt_of_cellR t0
          have hyl : ys.length ≤ 302 := by have h1 := hD.nn; have h2 := hD.n2; omega
          have hbw : Below wr.heap.size wr (wr.alloc (.cells #[.int .i64 a.kind, .int .i64 a.n, .string a.text, .int .i64 a.kids] 66)) := (Below.refl _ _).alloc (Nat.le_refl _) _
          have hrow := owns_below hD.row hbw
          have HD : RKeep (DM b W s (p + 1) (n + 1) ab a wr (.slice ad ys.length cp) ys p2 n2 bad2) := ⟨hD⟩
          clear hD
          go_wp2_with (first | (at_builtin; refine wpList_append_lies _ rfl _ _ 22 rfl (ab + 1) 66 i0 _ 4 40 Tryd.underlying22 hi hz0 hz1 hzb rfl (by decide) (.slice ad ys.length cp) ys.length (acells ys) rfl hrow ⟨wr.heap.size, 0, none⟩ 1 1 a.cells rfl rfl (by exact news_4 wr a _ _ rfl) (by exact one_4 a) (by omega) (by unfold maxLen; omega) (by omega) (by simp; omega) _ rfl ?_; intro g3 cap3 w3 hown3 hgrow3 hat3 hlt3))
          have HP : RKeep (DPost b W s p n f false (.returned (.slice (some ⟨g3, 0, none⟩) (ys.length + 1) cap3)) w3) := ⟨HD.out.post hbw hgrow3 (by exact hown3) HA.out HT.out HB.out HV.out⟩
          clear hrow hown3 hgrow3 hat3 hlt3 hbw HD
          go_ret
          exact HP.out
    by_cases z5 : z = 5
    · subst z5
      have HC := HCz.out 5 rfl
      have hcall := dsmall_any b W4 s (p + 1) (n + 1) false hDM.dk (by omega) hs
      go_wp2_with fail
      refine hcall.mono ?_
      rintro e w1 ⟨m, p1, bad1, rfl, hg, hd, hm, h1, h2, h3, HK⟩
      clear hcall
      have hD1 := hDM.call hg hd h1 h2 (Nat.le_refl _) (by omega) (fun _ => by omega)
      have b3 := hD1.a3
      have bf := hD1.af
      have hD2 := hD1.setK (2 * (m : Int))
      obtain ⟨f0, hf0⟩ : ∃ f0, f = f0 + 1 := ⟨f - 1, by omega⟩
      have HI1 : RKeep (ValS b f0 ((d : Int) + 1)) := ⟨by have := HI.out (by omega); rwa [show f - 1 = f0 by omega] at this⟩
      have HD : RKeep (∀ (k : Nat) (ys : List At) (p2 n2 : Nat) (bad2 : Bool), RI s p1 (n + 1) bad1 m f0 k ys p2 n2 bad2 → k ≤ m → (m ≤ k ∨ bad2 = true) → VF s p n f (ys ++ [⟨((5 : Nat) : Int), 0, ⟨#[]⟩, 2 * (m : Int)⟩]) p2 n2 bad2) := ⟨fun k ys p2 n2 bad2 hL hk he => by rw [hf0]; exact hL.done hk he HC HK.out⟩
      clear a0 a1 a2 a3 af hg hd HK HC hf0 HI HNo HCz
      have hw3 : IntKind.i64.wrap (2 * (m : Int)) = 2 * (m : Int) := by rw [IntKind.wrap_i64]; omega
      have hw2 : IntKind.i64.wrap ((d : Int) + 1) = (d : Int) + 1 := by rw [IntKind.wrap_i64]; omega
      go_wp2
      clear b3 bf hD1 hDM
      go_loopw [6, 10] (fun o i wr => ∃ (k : Nat) (ys : List At) (p2 n2 : Nat) (bad2 : Bool), k ≤ m ∧ i = .int .i64 k ∧ DM b W s (p + 1) (n + 1) ab ⟨((5 : Nat) : Int), 0, ⟨#[]⟩, 2 * (m : Int)⟩ wr o ys p2 n2 bad2 ∧ (bad2 = false → n2 ≤ 300) ∧ RKeep (RI s p1 (n + 1) bad1 m f0 k ys p2 n2 bad2)) (fun _ i _ => m - (intOf i).toNat)
      case atStart => exact ⟨0, [], p1, n + 1, bad1, Nat.zero_le _, rfl, hD2, (fun _ => by omega), ⟨RI.start _ _ _ _ _ _⟩⟩
      case round =>
        clear hD2
        obtain ⟨k, ys, p2, n2, bad2, hk, rfl, hDr, hle3, HL⟩ := hrel
        obtain ⟨ad, cp, rfl⟩ := owns_slice hDr.row
        have a3 := hDr.a3
        have c2 := hDr.dk.c2
        by_cases hlt : k < m
        · have hlt1 : (k : Int) < m := by omega
          cases bad2 with
          | true =>
            have HV0 : RKeep (VF s p n f (ys ++ [⟨((5 : Nat) : Int), 0, ⟨#[]⟩, 2 * (m : Int)⟩]) p2 n2 true) := ⟨HD.out k ys p2 n2 true HL.out hk (.inr rfl)⟩
            have htt : p + 1 + totalA ys ≤ p2 := hDr.le
            have hD2 := hDr
            clear HL HD HI1
            go_upto_region 34 with fail
            clear a3 c2 hDr
            obtain ⟨a, ha⟩ : ∃ a : At, a = ⟨((5 : Nat) : Int), 0, ⟨#[]⟩, 2 * (m : Int)⟩ := ⟨_, rfl⟩
            have HA : RKeep (-9223372036854775808 ≤ a.n ∧ a.n < 9223372036854775808) := ⟨by rw [ha]; show (-9223372036854775808 : Int) ≤ 0 ∧ (0 : Int) < 9223372036854775808; omega⟩
            have HT : RKeep (p + 1 + totalA ys + a.text.size ≤ p2) := ⟨by rw [ha]; show p + 1 + totalA ys + 0 ≤ p2; omega⟩
            have HB : RKeep (true = false → n2 ≤ 300) := ⟨hle3⟩
            have hD : DM b W s (p + 1) (n + 1) ab a (wr) (.slice ad ys.length cp) ys p2 n2 true := by rw [ha]; exact hD2
            have HV : RKeep (VF s p n f (ys ++ [a]) p2 n2 true) := by rw [ha]; exact HV0
            clear ha hD2 HV0 
            have t0 := hD.a0
            have t1 := hD.a1
            have t2 := hD.a2
            have t3 := hD.a3
            have hab : ab + 1 ≤ wr.heap.size := lt_of_cellR t0
            have hyl : ys.length ≤ 302 := by have h1 := hD.nn; have h2 := hD.n2; omega
            have hbw : Below wr.heap.size wr (wr.alloc (.cells #[.int .i64 a.kind, .int .i64 a.n, .string a.text, .int .i64 a.kids] 66)) := (Below.refl _ _).alloc (Nat.le_refl _) _
            have hrow := owns_below hD.row hbw
            have HD : RKeep (DM b W s (p + 1) (n + 1) ab a wr (.slice ad ys.length cp) ys p2 n2 true) := ⟨hD⟩
            clear hD
            go_wp2_with (first | (at_builtin; refine wpList_append_lies _ rfl _ _ 22 rfl (ab + 1) 66 i0 _ 4 40 Tryd.underlying22 hi hz0 hz1 hzb rfl (by decide) (.slice ad ys.length cp) ys.length (acells ys) rfl hrow ⟨wr.heap.size, 0, none⟩ 1 1 a.cells rfl rfl (by exact news_4 wr a _ _ rfl) (by exact one_4 a) (by omega) (by unfold maxLen; omega) (by omega) (by simp; omega) _ rfl ?_; intro g3 cap3 w3 hown3 hgrow3 hat3 hlt3))
            have HP : RKeep (DPost b W s p n f false (.returned (.slice (some ⟨g3, 0, none⟩) (ys.length + 1) cap3)) w3) := ⟨HD.out.post hbw hgrow3 (by exact hown3) HA.out HT.out HB.out HV.out⟩
            clear hrow hown3 hgrow3 hat3 hlt3 hbw HD
            go_ret
            exact HP.out
          | false =>
            have hn2 := hle3 rfl
            have c3 := hDr.dk.c3
            have fz := hDr.dk.fz
            have hdc := hDr.dk.cnt (n2 + 1)
            rw [show ((n2 + 1 : Nat) : Int) = (n2 : Int) + 1 by omega] at hdc
            have hDa := hDr.call (dk_set wr b 3 (.int .i64 ((n2 : Int) + 1))) hdc (Nat.le_refl _) hDr.ps (by omega) (by omega) (fun _ => by omega)
            have hcall := dtext_any b (wr.setCell ⟨b, 3, none⟩ (.int .i64 ((n2 : Int) + 1))) s p2 (n2 + 1) false hDa.dk hDr.ps hs
            go_wp2_with fail
            refine hcall.mono ?_
            rintro e w2 ⟨tx, p3, bad3, rfl, hg3, hd3, ht3, hp3, hb3, HK3⟩
            clear hcall hdc c3 fz
            have hDb := hDa.call hg3 hd3 (by omega) hp3 (Nat.le_refl _) (by omega) (fun _ => by omega)
            have hbA : Below w2.heap.size w2 (w2.alloc (.cells #[.int .i64 3, .int .i64 0, .string tx, .int .i64 0] 66)) := (Below.refl _ _).alloc (Nat.le_refl _) _
            have hDc := hDb.call (dk_below hbA) (hDb.dk.far (row := none) (dk_below hbA) (by simp)) (Nat.le_refl _) hp3 (Nat.le_refl _) (by omega) (fun _ => by omega)
            have hrow := hDc.row
            have hyl : ys.length ≤ 302 := by have h1 := hDr.nn; omega
            have hyn : ys.length ≤ n2 := by have h1 := hDr.nn; omega
            have hab : ab + 1 ≤ w2.heap.size := lt_of_cellR hDb.a0
            have hnw := news_4 w2 (textA tx) 66 w2.heap.size rfl
            have hone := one_4 (textA tx)
            have HDs : RKeep (∀ g5 cap5 w5, (w2.alloc (.cells #[.int .i64 3, .int .i64 0, .string tx, .int .i64 0] 66)).grownBy w5 (Value.slice ad ys.length cp).ownBlock → w5.ownsRow (ab + 1) 66 4 (.slice (some ⟨g5, 0, none⟩) (ys.length + 1) cap5) (ys.length + 1) (acells ys ++ (textA tx).cells) → DM b W s (p + 1) (n + 1) ab ⟨((5 : Nat) : Int), 0, ⟨#[]⟩, 2 * (m : Int)⟩ w5 (.slice (some ⟨g5, 0, none⟩) (ys.length + 1) cap5) (ys ++ [textA tx]) p3 (n2 + 1) bad3) := ⟨fun g5 cap5 w5 hg5 ho5 => hDr.app hDc hg5 (by simpa [acells] using ho5) (inr_one (by show (-9223372036854775808 : Int) ≤ 0 ∧ (0 : Int) < 9223372036854775808; omega)) (by rw [show totalA [textA tx] = tx.size by simp [totalA, textA]]; omega) (by simp)⟩
            clear hDa hDb hDc hDr hg3 hd3 hb3 a3 c2 hbA
            go_wp2_with (first | (at_builtin; refine wpList_append_lies _ rfl _ _ 22 rfl (ab + 1) 66 i0 _ 4 40 Tryd.underlying22 hi hz0 hz1 hzb rfl (by decide) (.slice ad ys.length cp) ys.length (acells ys) rfl hrow ⟨w2.heap.size, 0, none⟩ 1 1 (textA tx).cells rfl rfl (by exact hnw) hone (by omega) (by unfold maxLen; omega) (by omega) (by simp; omega) _ rfl ?_; intro g5 cap5 w5 hown5 hgrow5 hat5 hlt5))
            have hDe : DM b W s (p + 1) (n + 1) ab ⟨((5 : Nat) : Int), 0, ⟨#[]⟩, 2 * (m : Int)⟩ w5 (.slice (some ⟨g5, 0, none⟩) (ys.length + 1) cap5) (ys ++ [textA tx]) p3 (n2 + 1) bad3 := HDs.out g5 cap5 w5 hgrow5 hown5
            clear HDs hrow hown5 hgrow5 hat5 hlt5 hnw hone hab
            have hcall := HI1.out w5 s p3 (n2 + 1) bad3 hDe.dk hp3 hs (by omega)
            go_wp2_with fail
            refine hcall.mono ?_
            rintro e w6 ⟨g', cap', zs, p4, n4, bad4, rfl, hg2, hd2, hown2, ht2, hp4, hn4, hn302, hn300, hin2, hb2, HK2⟩
            clear hcall
            have hDs := hDe.call hg2 hd2 (by omega) hp4 (by omega) hn302 (fun h => by have := hn300 h; omega)
            have hrow := hDs.row
            rw [show (ys ++ [textA tx]).length = ys.length + 1 by simp] at hrow
            have hlen := acells_len zs
            have hnw := dk_news hown2
            have hone := acells_one zs
            have hyz : ys.length + 1 + zs.length ≤ 304 := by omega
            have hab : ab + 1 ≤ w6.heap.size := lt_of_cellR hDs.a0
            have HN : RKeep (RI s p1 (n + 1) bad1 m f0 (k + 1) (ys ++ [textA tx] ++ zs) p4 n4 bad4) := ⟨HL.out.step hlt (by first | exact HK3.out rfl | exact HK3.out trivial) HK2.out⟩
            have HDs : RKeep (∀ v7 w7, w6.grownBy w7 (Value.slice (some ⟨g5, 0, none⟩) (ys.length + 1) cap5).ownBlock → w7.ownsRow (ab + 1) 66 4 v7 (ys.length + 1 + zs.length) (acells (ys ++ [textA tx]) ++ acells zs) → DM b W s (p + 1) (n + 1) ab ⟨((5 : Nat) : Int), 0, ⟨#[]⟩, 2 * (m : Int)⟩ w7 v7 (ys ++ [textA tx] ++ zs) p4 n4 bad4) := ⟨fun v7 w7 hg7 ho7 => hDe.app hDs hg7 (by rw [show (ys ++ [textA tx]).length = ys.length + 1 by simp]; exact ho7) hin2 ht2 hn4⟩
            clear HL HK2 HK3 hDe hDs hg2 hd2 hown2 hin2 hb2
            go_wp2_with (first | (at_builtin; refine wpList_append_own _ rfl _ _ 22 rfl (ab + 1) 66 i0 _ 4 40 Tryd.underlying22 hi hz0 hz1 hzb rfl (by decide) (.slice (some ⟨g5, 0, none⟩) (ys.length + 1) cap5) (ys.length + 1) (acells (ys ++ [textA tx])) rfl hrow ⟨g', 0, none⟩ zs.length cap' (acells zs) rfl hlen hnw hone (by unfold maxLen; omega) (by omega) (by omega) ?_; intro v7 w7 hown7 hgrow7 hnn7))
            have HF : RKeep (DM b W s (p + 1) (n + 1) ab ⟨((5 : Nat) : Int), 0, ⟨#[]⟩, 2 * (m : Int)⟩ w7 v7 (ys ++ [textA tx] ++ zs) p4 n4 bad4) := ⟨HDs.out v7 w7 hgrow7 hown7⟩
            clear HDs hrow hown7 hgrow7 hnn7 hnw hone
            go_roundw
            case rel => exact ⟨k + 1, ys ++ [textA tx] ++ zs, p4, n4, bad4, by omega, by go_num, HF.out, hn300, HN⟩
            case measure => simp [intOf]; omega
        · have hlt1 : ¬ (k : Int) < m := by omega
          have HV0 : RKeep (VF s p n f (ys ++ [⟨((5 : Nat) : Int), 0, ⟨#[]⟩, 2 * (m : Int)⟩]) p2 n2 bad2) := ⟨HD.out k ys p2 n2 bad2 HL.out hk (.inl (by omega))⟩
          have htt : p + 1 + totalA ys ≤ p2 := hDr.le
          have hD2 := hDr
          clear HL HD HI1
          go_upto_region 34 with fail
          clear a3 c2 hDr
          obtain ⟨a, ha⟩ : ∃ a : At, a = ⟨((5 : Nat) : Int), 0, ⟨#[]⟩, 2 * (m : Int)⟩ := ⟨_, rfl⟩
          have HA : RKeep (-9223372036854775808 ≤ a.n ∧ a.n < 9223372036854775808) := ⟨by rw [ha]; show (-9223372036854775808 : Int) ≤ 0 ∧ (0 : Int) < 9223372036854775808; omega⟩
          have HT : RKeep (p + 1 + totalA ys + a.text.size ≤ p2) := ⟨by rw [ha]; show p + 1 + totalA ys + 0 ≤ p2; omega⟩
          have HB : RKeep (bad2 = false → n2 ≤ 300) := ⟨hle3⟩
          have hD : DM b W s (p + 1) (n + 1) ab a (wr) (.slice ad ys.length cp) ys p2 n2 bad2 := by rw [ha]; exact hD2
          have HV : RKeep (VF s p n f (ys ++ [a]) p2 n2 bad2) := by rw [ha]; exact HV0
          clear ha hD2 HV0 
          have t0 := hD.a0
          have t1 := hD.a1
          have t2 := hD.a2
          have t3 := hD.a3
          have hab : ab + 1 ≤ wr.heap.size := lt_of_cellR t0
          have hyl : ys.length ≤ 302 := by have h1 := hD.nn; have h2 := hD.n2; omega
          have hbw : Below wr.heap.size wr (wr.alloc (.cells #[.int .i64 a.kind, .int .i64 a.n, .string a.text, .int .i64 a.kids] 66)) := (Below.refl _ _).alloc (Nat.le_refl _) _
          have hrow := owns_below hD.row hbw
          have HD : RKeep (DM b W s (p + 1) (n + 1) ab a wr (.slice ad ys.length cp) ys p2 n2 bad2) := ⟨hD⟩
          clear hD
          go_wp2_with (first | (at_builtin; refine wpList_append_lies _ rfl _ _ 22 rfl (ab + 1) 66 i0 _ 4 40 Tryd.underlying22 hi hz0 hz1 hzb rfl (by decide) (.slice ad ys.length cp) ys.length (acells ys) rfl hrow ⟨wr.heap.size, 0, none⟩ 1 1 a.cells rfl rfl (by exact news_4 wr a _ _ rfl) (by exact one_4 a) (by omega) (by unfold maxLen; omega) (by omega) (by simp; omega) _ rfl ?_; intro g3 cap3 w3 hown3 hgrow3 hat3 hlt3))
          have HP : RKeep (DPost b W s p n f false (.returned (.slice (some ⟨g3, 0, none⟩) (ys.length + 1) cap3)) w3) := ⟨HD.out.post hbw hgrow3 (by exact hown3) HA.out HT.out HB.out HV.out⟩
          clear hrow hown3 hgrow3 hat3 hlt3 hbw HD
          go_ret
          exact HP.out
    have b2 := hDM.dk.c2
    have bf := hDM.dk.fz
    have hD2 := hDM.call (dk_set W4 b 2 (.bool true)) hDM.dk.spoil (Nat.le_refl _) hpl (Nat.le_refl _) (by omega) (by intro h; cases h)
    have HV0 : RKeep (VF s p n f ([] ++ [⟨(z : Int), 0, ⟨#[]⟩, 0⟩]) (p + 1) (n + 1) true) := ⟨fun t r hgd hne hr hl => absurd hr (HNo.out z1 z2 z3 z4 z5 t r)⟩
    have y1 : ((z : Int) == 1) = false := by simpa using (show ¬ (z : Int) = 1 by omega)
    have y2 : ((z : Int) == 2) = false := by simpa using (show ¬ (z : Int) = 2 by omega)
    have y3 : ((z : Int) == 3) = false := by simpa using (show ¬ (z : Int) = 3 by omega)
    have y4 : ((z : Int) == 4) = false := by simpa using (show ¬ (z : Int) = 4 by omega)
    have y5 : ((z : Int) == 5) = false := by simpa using (show ¬ (z : Int) = 5 by omega)
    clear HNo HCz
    go_upto_region 34 with fail
    clear b2 bf hDM a0 a1 a2 a3 af
    obtain ⟨a, ha⟩ : ∃ a : At, a = ⟨(z : Int), 0, ⟨#[]⟩, 0⟩ := ⟨_, rfl⟩
    have HA : RKeep (-9223372036854775808 ≤ a.n ∧ a.n < 9223372036854775808) := ⟨by rw [ha]; show (-9223372036854775808 : Int) ≤ 0 ∧ (0 : Int) < 9223372036854775808; omega⟩
    have HT : RKeep (p + 1 + totalA [] + a.text.size ≤ (p + 1)) := ⟨by rw [ha]; show p + 1 + 0 + 0 ≤ p + 1; omega⟩
    have HB : RKeep (true = false → (n + 1) ≤ 300) := ⟨fun _ => by omega⟩
    have hD : DM b W s (p + 1) (n + 1) ab a (W4.setCell ⟨b, 2, none⟩ (.bool true)) (.slice (some ⟨g0, 0, none⟩) 0 0) [] (p + 1) (n + 1) true := by rw [ha]; exact hD2
    have HV : RKeep (VF s p n f ([] ++ [a]) (p + 1) (n + 1) true) := by rw [ha]; exact HV0
    clear ha hD2 HV0 
    generalize W4.setCell ⟨b, 2, none⟩ (.bool true) = wt at *
    have t0 := hD.a0
    have t1 := hD.a1
    have t2 := hD.a2
    have t3 := hD.a3
    have hab : ab + 1 ≤ wt.heap.size := lt_of_cellR t0
    have hyl : 0 ≤ 302 := by have h1 := hD.nn; have h2 := hD.n2; simp only [List.length_nil] at h1; omega
    have hbw : Below wt.heap.size wt (wt.alloc (.cells #[.int .i64 a.kind, .int .i64 a.n, .string a.text, .int .i64 a.kids] 66)) := (Below.refl _ _).alloc (Nat.le_refl _) _
    have hrow := owns_below hD.row hbw
    have HD : RKeep (DM b W s (p + 1) (n + 1) ab a wt (.slice (some ⟨g0, 0, none⟩) 0 0) [] (p + 1) (n + 1) true) := ⟨hD⟩
    clear hD
    go_wp2_with (first | (at_builtin; refine wpList_append_lies _ rfl _ _ 22 rfl (ab + 1) 66 i0 _ 4 40 Tryd.underlying22 hi hz0 hz1 hzb rfl (by decide) (.slice (some ⟨g0, 0, none⟩) 0 0) 0 (acells []) rfl hrow ⟨wt.heap.size, 0, none⟩ 1 1 a.cells rfl rfl (by exact news_4 wt a _ _ rfl) (by exact one_4 a) (by omega) (by unfold maxLen; omega) (by omega) (by simp; omega) _ rfl ?_; intro g3 cap3 w3 hown3 hgrow3 hat3 hlt3))
    have HP : RKeep (DPost b W s p n f false (.returned (.slice (some ⟨g3, 0, none⟩) (0 + 1) cap3)) w3) := ⟨HD.out.post hbw hgrow3 (by exact hown3) HA.out HT.out HB.out HV.out⟩
    clear hrow hown3 hgrow3 hat3 hlt3 hbw HD
    go_ret
    exact HP.out
end Go.Proofs.YtamaioeikcjhoaaDoor
