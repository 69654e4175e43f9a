/-
  'FnMounts': the walk out of the contracts.
-/
import Derived.Test.YtiadabmbfpfbjaaMtsD
import Derived.Test.YtiadabmbfpfbjaaDrawOv
import Derived.Test.YtiadabmbfpfbjaaMtsM
import Derived.Test.YtiadabmbfpfbjaaMtsM
import Derived.Test.YtiadabmbfpfbjaaMtsM
import Derived.Test.YtiadabmbfpfbjaaMtsM
import Derived.Test.YtiadabmbfpfbjaaMtsM
import Derived.Test.YtiadabmbfpfbjaaMtsM
import Derived.Test.YtiadabmbfpfbjaaMtsM
import Derived.Test.YtiadabmbfpfbjaaMtsM
import Derived.Test.YtiadabmbfpfbjaaMtsD
import Derived.Deep.DeepCutAuto
import Derived.Deep.RegionWith
namespace Go.Proofs.Ytiadabmbfpfbjaa
open Go.RowKit

theorem valid_ok {us : List En} (h : ValidTs us) : ∀ e ∈ us, e.path.size ≤ 1048576 ∧ e.text.size ≤ 1048576 := fun e he => by
  have h1 := parts6 (valid_en h he)
  have h2 := enOk_parts (valid_en h he)
  omega
set_option maxRecDepth 100000 in
theorem field_tree (ad : Option Addr) (n cp : Nat) (w : World) : (Instr.field 25 (.agg #[.slice ad n cp]) 0).run Try.prog w = .ok (.slice ad n cp) w := by kernel_rfl
theorem kqB {W0 W W' : World} (h : Below W0.heap.size W0 W) (h' : Below W.heap.size W W') : Below W0.heap.size W0 W' := h.trans (h'.mono h.size)

set_option maxRecDepth 100000 in
set_option maxHeartbeats 16000000 in
theorem mounts_walk (a : Option Addr) (cap : Nat) (zs : List Int) (w : World) (hc : Code0 w a cap zs) :
    Calls Try.prog 3 #[.slice a zs.length cap] w fun e w' => e = .returned (.bool true) ∧ Below w.heap.size w w' := by
  by_cases hbig : (1048576 : Int) < zs.length
  · go_enter Try.func3, Try.ntmps3
    go_wp2
    go_ret
    exact ⟨rfl, Below.refl _ _⟩
  go_enter Try.func3, Try.ntmps3
  go_wp2_with fail
  refine (drawMount_any a cap zs w hc).mono ?_
  rintro e w1 ⟨ad, cp, ts, d, ad2, cp2, bs, rfl, hes, hes2, hn, hn2, hT, hT2, hNil, hNil2, hd, hb1⟩
  have ba1 := below_oneD w1 (.cells #[.slice ad ts.length cp] 25)
  have ba2 := below_oneD (w1.alloc (.cells #[.slice ad ts.length cp] 25)) (.cells #[.slice ad2 bs.length cp2] 25)
  have hT1 : TBx w1.heap.size ad cp ts ((w1.alloc (.cells #[.slice ad ts.length cp] 25)).alloc (.cells #[.slice ad2 bs.length cp2] 25)) := ⟨by simp [go_sem], (hes.below ba1).below ba2⟩
  have hS1 : TBx (w1.heap.size + 1) ad2 cp2 bs ((w1.alloc (.cells #[.slice ad ts.length cp] 25)).alloc (.cells #[.slice ad2 bs.length cp2] 25)) := ⟨by simp [go_sem], (hes2.below ba1).below ba2⟩
  have hbw2 : Below w.heap.size w _ := kqB (kqB hb1 ba1) ba2
  have HK : Keep (Tiny 100 1600 ts ∧ Tiny 100 1600 bs ∧ NilOk ad cp ∧ NilOk ad2 cp2) := ⟨⟨hT, hT2, hNil, hNil2⟩⟩
  clear ba1 ba2 hb1 hes hes2 hT hT2 hNil hNil2
  go_upto_region 4 with fail
  generalize (w1.alloc (.cells #[.slice ad ts.length cp] 25)).alloc (.cells #[.slice ad2 bs.length cp2] 25) = w2 at *
  generalize w1.heap.size + 1 = sb at *
  generalize w1.heap.size = tb at *
  have t0 := hT1.c
  have s0 := hS1.c
  have hm := implMnt_any ad ad2 cp cp2 ts bs d w2 hT1.es hS1.es (by omega) (by omega) (tiny_ok HK.out.1 (by omega) (by omega)) (tiny_ok HK.out.2.1 (by omega) (by omega)) (by omega)
  go_wp2_with fail
  refine hm.mono ?_
  rintro e w3 ⟨us, c, hR, ⟨ad3, cp3, rfl, hel3⟩, hb3⟩
  clear hm t0 s0
  unfold TreeV
  have ba3 := below_oneD w3 (.cells #[.slice ad3 us.length cp3] 25)
  have hX3 : TBx w3.heap.size ad3 cp3 us (w3.alloc (.cells #[.slice ad3 us.length cp3] 25)) := TBx.new hel3.es
  have hT3 := (hT1.later hb3).later ba3
  have hS3 := (hS1.later hb3).later ba3
  have hbw3 : Below w.heap.size w (w3.alloc (.cells #[.slice ad3 us.length cp3] 25)) := kqB (kqB hbw2 hb3) ba3
  clear hT1 hS1 hbw2 hb3 ba3 hel3
  go_upto_region 5 with fail
  generalize w3.alloc (.cells #[.slice ad3 us.length cp3] 25) = w3a at *
  generalize w3.heap.size = xb at *
  have t0 := hT3.c
  have s0 := hS3.c
  have hm := specMnt_any ad ad2 cp cp2 ts bs d w3a hT3.es hS3.es (by omega) (by omega) (tiny_ok HK.out.2.1 (by omega) (by omega)) (by omega)
  go_wp2_with fail
  refine hm.mono ?_
  rintro e w4 ⟨us', c', hR', ⟨ad4, cp4, rfl, hel4⟩, hb4⟩
  obtain ⟨rfl, rfl⟩ := mnt_one hR hR'
  clear hm t0 s0 hR'
  unfold TreeV
  have ba4 := below_oneD w4 (.cells #[.slice ad4 us.length cp4] 25)
  have hW4 : TBx w4.heap.size ad4 cp4 us (w4.alloc (.cells #[.slice ad4 us.length cp4] 25)) := TBx.new hel4.es
  have hT4 := (hT3.later hb4).later ba4
  have hS4 := (hS3.later hb4).later ba4
  have hX4 := (hX3.later hb4).later ba4
  have hbw4 : Below w.heap.size w (w4.alloc (.cells #[.slice ad4 us.length cp4] 25)) := kqB (kqB hbw3 hb4) ba4
  clear hT3 hS3 hX3 hbw3 hb4 ba4 hel4
  go_upto_region 6 with fail
  generalize w4.alloc (.cells #[.slice ad4 us.length cp4] 25) = w4a at *
  generalize w4.heap.size = wb at *
  have hus := mnt_few hR
  have x0 := hX4.c
  have y0 := hW4.c
  have hnc : (c != c) = false := by simp
  have hwt := wTree_any ad3 ad4 cp3 cp4 us w4a hX4.es hW4.es (by omega)
  go_wp2_with fail
  refine hwt.mono ?_
  rintro e w5 ⟨rfl, hb5⟩
  clear hwt x0 y0 hnc hW4
  have hT5 := hT4.later hb5
  have hS5 := hS4.later hb5
  have hX5 := hX4.later hb5
  have hbw5 := kqB hbw4 hb5
  clear hT4 hS4 hX4 hbw4 hb5
  go_upto_if 58 with fail
  go_cut [] (fun wx => Below w5.heap.size w5 wx)
  case first =>
    by_cases hc0 : c = 0
    · as_aux_lemma =>
        have hB : (c == 0) = true := by simp [hc0]
        rw [hc0] at hR
        clear hc0
        have hz := mnt_zero hR
        have hvU := mnt_valid hR
        have hun := mnt_under hR
        have hml := mnt_len hR
        have q0 : Below w5.heap.size w5 w5.drew := (Below.refl _ _).drew
        have hV : ∀ X, Below w5.heap.size w5 X → Calls Try.prog 8 #[.agg #[.slice ad3 us.length cp3]] X fun e w' => e = .returned (.bool true) ∧ Below X.heap.size X w' := fun X hX =>
          (implTree_any ad3 cp3 us X (hX5.es.below hX) (by omega) (fun e he => (valid_ok hvU e he).1)).mono (fun e w' ⟨bl, h1, h2, h3⟩ => ⟨by rw [h1, h2.2 hvU], h3⟩)
        have hU : ∀ X, Below w5.heap.size w5 X → Calls Try.prog 9 #[.agg #[.slice ad3 us.length cp3], .string d] X fun e w' => ∃ adU cpU, e = .returned (.agg #[.slice adU bs.length cpU]) ∧ ES w' adU bs ∧ Below X.heap.size X w' := fun X hX =>
          (implUnd_any ad3 cp3 us d X (hX5.es.below hX) (by omega) (valid_ok hvU) (by omega)).mono (fun e w' ⟨vs, h1, ⟨adU, cpU, h2, h3⟩, h4⟩ => by
            have h5 : vs = bs := by
              rcases h1 with ⟨k, _⟩ | ⟨_, k⟩
              · exact absurd ⟨hvU, hz.1.2.2⟩ k
              · rw [k, hun]
            subst h5
            exact ⟨adU, cpU, h2, h3.es, h4⟩)
        have hW : ∀ X adU cpU, Below w5.heap.size w5 X → ES X adU bs → Calls Try.prog 7 #[.agg #[.slice adU bs.length cpU], .agg #[.slice ad2 bs.length cp2]] X fun e w' => e = .returned (.bool true) ∧ Below X.heap.size X w' := fun X adU cpU hX hE => wTree_any adU ad2 cpU cp2 bs X hE (hS5.es.below hX) (by omega)
        obtain ⟨nU, hnU⟩ : ∃ nU, nU = (under ts d).length := ⟨_, rfl⟩
        have HNU : Keep (nU = (under ts d).length ∧ us.length + nU = ts.length + bs.length ∧ ValidTs ts ∧ pathOk pathB d = true) := ⟨⟨hnU, by rw [hnU]; exact hml, hz.1.1, hz.1.2.2⟩⟩
        have hnl : nU ≤ ts.length := by rw [hnU]; unfold under; rw [List.length_map]; exact List.length_filter_le _ _
        have x0 := hX5.c
        have s0 := hS5.c
        clear hz hvU hun hml hnU hR
        go_upto_region 9 with fail
        go_cut [69] (fun v wx => v = .bool false ∧ Below w5.heap.size w5 wx)
        case first =>
          go_region_with (first
            | (go_at_call 8; refine (hV _ q0).mono ?_; rintro e wA ⟨rfl, hbA⟩; have qA := kqB q0 hbA; have xA := (hX5.later qA).c; have sA := (hS5.later qA).c)
            | (go_at_call 9; refine (hU _ qA).mono ?_; rintro e wB ⟨adU, cpU, rfl, hEU, hbB⟩; have qB := kqB qA hbB; have sB := (hS5.later qB).c)
            | (go_at_call 7; refine (hW _ adU cpU qB hEU).mono ?_; rintro e wC ⟨rfl, hbC⟩; have qC := kqB qB hbC))
          all_goals
            go_wp2_with fail
            go_meet
            case rel => exact ⟨rfl, qC⟩
        case rest =>
          obtain ⟨rfl, hB9⟩ := hcut
          clear hV hU hW q0 x0 s0
          have hT9 := hT5.later hB9
          have t0 := hT9.c
          have hu := implUnd_any ad cp ts d wc hT9.es (by omega) (tiny_ok HK.out.1 (by omega) (by omega)) (by omega)
          go_wp2_with fail
          refine hu.mono ?_
          rintro e w10 ⟨vs, hUd, ⟨adV, cpV, rfl, _⟩, hb10⟩
          obtain rfl : vs = under ts d := by
            rcases hUd with ⟨k, _⟩ | ⟨_, k⟩
            · exact absurd ⟨HNU.out.2.2.1, HNU.out.2.2.2⟩ k
            · exact k
          rw [← HNU.out.1]
          have hB10 := kqB hB9 hb10
          have t1 := (hT5.later hB10).c
          have s1 := (hS5.later hB10).c
          have x1 := (hX5.later hB10).c
          have hneq : ((us.length : Int) != (ts.length : Int) - nU + bs.length) = false := by have := HNU.out.2.1; simp; omega
          clear hu hUd t0 hT9
          have hfld := field_tree adV nU cpV w10
          go_wp2_with fail
          go_meet
          case rel => exact hB10
    · have hB : (c == 0) = false := by simp [hc0]
      clear hc0
      go_wp2_with fail
      go_meet
      case rel => exact Below.refl _ _
  case rest =>
    have hbw6 := kqB hbw5 hcut
    clear hT5 hS5 hX5 hbw5 hcut hR hn hn2 HK hd hus
    -- overlays
    go_wp2_with fail
    refine (drawOverlay_any a cap zs wc (code_later hc hbw6)).mono ?_
    rintro e w11 ⟨adA, cpA, ts, adB, cpB, bs, rfl, hesA, hesB, hnA, hnB, hTA, hTB, hNA, hNB, hb11⟩
    have ba1 := below_oneD w11 (.cells #[.slice adA ts.length cpA] 25)
    have ba2 := below_oneD (w11.alloc (.cells #[.slice adA ts.length cpA] 25)) (.cells #[.slice adB bs.length cpB] 25)
    have hT1 : TBx w11.heap.size adA cpA ts ((w11.alloc (.cells #[.slice adA ts.length cpA] 25)).alloc (.cells #[.slice adB bs.length cpB] 25)) := ⟨by simp [go_sem], (hesA.below ba1).below ba2⟩
    have hS1 : TBx (w11.heap.size + 1) adB cpB bs ((w11.alloc (.cells #[.slice adA ts.length cpA] 25)).alloc (.cells #[.slice adB bs.length cpB] 25)) := ⟨by simp [go_sem], (hesB.below ba1).below ba2⟩
    have hbw12 : Below w.heap.size w _ := kqB (kqB (kqB hbw6 hb11) ba1) ba2
    have HK : Keep (Tiny 100 1620 ts ∧ Tiny 100 1620 bs ∧ NilOk adA cpA ∧ NilOk adB cpB) := ⟨⟨hTA, hTB, hNA, hNB⟩⟩
    clear ba1 ba2 hb11 hesA hesB hTA hTB hNA hNB hbw6
    go_upto_region 15 with fail
    generalize (w11.alloc (.cells #[.slice adA ts.length cpA] 25)).alloc (.cells #[.slice adB bs.length cpB] 25) = w12 at *
    generalize w11.heap.size + 1 = sb2 at *
    generalize w11.heap.size = tb2 at *
    have t0 := hT1.c
    have s0 := hS1.c
    have hm := implOver_any adA adB cpA cpB ts bs w12 hT1.es hS1.es (by omega) (by omega) (tiny_ok HK.out.1 (by omega) (by omega)) (tiny_ok HK.out.2.1 (by omega) (by omega))
    go_wp2_with fail
    refine hm.mono ?_
    rintro e w13 ⟨us, c, hR, ⟨ad3, cp3, rfl, hel3⟩, hb3⟩
    clear hm t0 s0
    unfold TreeV
    have ba3 := below_oneD w13 (.cells #[.slice ad3 us.length cp3] 25)
    have hX3 : TBx w13.heap.size ad3 cp3 us (w13.alloc (.cells #[.slice ad3 us.length cp3] 25)) := TBx.new hel3.es
    have hT3 := (hT1.later hb3).later ba3
    have hS3 := (hS1.later hb3).later ba3
    have hbw3 : Below w.heap.size w (w13.alloc (.cells #[.slice ad3 us.length cp3] 25)) := kqB (kqB hbw12 hb3) ba3
    clear hT1 hS1 hbw12 hb3 ba3 hel3
    go_upto_region 16 with fail
    generalize w13.alloc (.cells #[.slice ad3 us.length cp3] 25) = w13a at *
    generalize w13.heap.size = xb2 at *
    have t0 := hT3.c
    have s0 := hS3.c
    have hm := specOver_any adA adB cpA cpB ts bs w13a hT3.es hS3.es (by omega) (by omega) HK.out.2.2.2
    go_wp2_with fail
    refine hm.mono ?_
    rintro e w14 ⟨us', c', hR', ⟨ad4, cp4, rfl, hel4⟩, hb4⟩
    obtain ⟨rfl, rfl⟩ := over_one hR hR'
    clear hm t0 s0 hR'
    unfold TreeV
    have ba4 := below_oneD w14 (.cells #[.slice ad4 us.length cp4] 25)
    have hW4 : TBx w14.heap.size ad4 cp4 us (w14.alloc (.cells #[.slice ad4 us.length cp4] 25)) := TBx.new hel4.es
    have hT4 := (hT3.later hb4).later ba4
    have hS4 := (hS3.later hb4).later ba4
    have hX4 := (hX3.later hb4).later ba4
    have hbw4 : Below w.heap.size w (w14.alloc (.cells #[.slice ad4 us.length cp4] 25)) := kqB (kqB hbw3 hb4) ba4
    clear hT3 hS3 hX3 hbw3 hb4 ba4 hel4
    go_upto_region 17 with fail
    generalize w14.alloc (.cells #[.slice ad4 us.length cp4] 25) = w14a at *
    generalize w14.heap.size = wb2 at *
    have hus := over_few hR
    have x0 := hX4.c
    have y0 := hW4.c
    have hnc : (c != c) = false := by simp
    have hwt := wTree_any ad3 ad4 cp3 cp4 us w14a hX4.es hW4.es (by omega)
    go_wp2_with fail
    refine hwt.mono ?_
    rintro e w15 ⟨rfl, hb5⟩
    clear hwt x0 y0 hnc hW4
    have hT5 := hT4.later hb5
    have hS5 := hS4.later hb5
    have hX5 := hX4.later hb5
    have hbw5 := kqB hbw4 hb5
    clear hT4 hS4 hX4 hbw4 hb5
    by_cases hc0 : c ≠ 0
    · have hB : (c != 0) = true := by simp [hc0]
      have hun := over_none hR hc0
      subst hun
      have x0 := hX5.c
      clear hc0 hR
      go_wp2
      go_ret
      exact ⟨rfl, hbw5⟩
    replace hc0 : c = 0 := Decidable.not_not.1 hc0
    have hB : (c != 0) = false := by simp [hc0]
    rw [hc0] at hR
    clear hc0
    obtain ⟨hvT, hvB, hrel, hu100⟩ := over_zero hR
    have hvU := over_valid hR
    have HP : Keep (ValidTs ts ∧ ValidTs bs ∧ OverRel ts bs us ∧ ValidTs us) := ⟨⟨hvT, hvB, hrel, hvU⟩⟩
    clear hR hvT hvB hrel hvU
    go_wp2_with fail
    -- all of what is laid over is there
    go_loopw [17] (fun i wr => ∃ k : Nat, i = .int .i64 k ∧ k ≤ bs.length ∧ Below w15.heap.size w15 wr) (fun i _ => bs.length - (intOf i).toNat)
    case atStart => exact ⟨0, rfl, Nat.zero_le _, Below.refl _ _⟩
    case round =>
      obtain ⟨k, rfl, hk, hB7⟩ := hrel
      have hTr := hT5.later hB7
      have hSr := hS5.later hB7
      have hXr := hX5.later hB7
      have t0 := hSr.c
      by_cases hlt : k < bs.length
      · as_aux_lemma =>
          have hlt' : (k : Int) < bs.length := by omega
          obtain ⟨b1, o1, hab, hc1⟩ := hSr.es.at hlt
          obtain ⟨x0, x1, x2⟩ := hc1 k hlt
          subst hab
          have xx := hXr.c
          obtain ⟨xp, hxp⟩ : ∃ xp, xp = bs[k].path := ⟨_, rfl⟩
          have HXP : Keep (xp = bs[k].path) := ⟨hxp⟩
          have hxz : xp.size ≤ 1048576 := by rw [hxp]; exact (valid_ok HP.out.2.1 _ (List.getElem_mem hlt)).1
          have x0' := x0
          rw [← hxp] at x0'
          clear hxp hc1
          have hG : ∀ X, Below wr.heap.size wr X → Calls Try.prog 13 #[.agg #[.slice ad3 us.length cp3], .string xp] X fun e w' => GetPost us xp X e w' := fun X hX => implGet_any ad3 cp3 us xp X (hXr.es.below hX) (by omega) (valid_ok HP.out.2.2.2) (by omega)
          have q0 : Below wr.heap.size wr wr.drew := (Below.refl _ _).drew
          have qa := (below_oneD wr (.cells #[.string ⟨#[]⟩, .string ⟨#[]⟩, .bool false] 37)).drew
          have HX : Keep (wr.cell? ⟨b1, o1 + k * 3, none⟩ = some (.string bs[k].path)) := ⟨x0⟩
          clear x0
          go_upto_region 24 with fail
          go_cut [18, 19] (fun pv cc wx => CutG us xp wr pv cc wx)
          case first =>
            have xxa := fun o => (hXr.later (below_oneD wr o)).c
            have t0a := fun o => (hSr.later (below_oneD wr o)).c
            have x0a : ∀ o, (wr.alloc o).cell? ⟨b1, o1 + k * 3, none⟩ = some (.string xp) := fun o => cell_later (below_oneD wr o) x0'
            go_region_with (go_at_call 13; refine (hG _ ?_).mono ?_; (first | with_reducible exact q0 | with_reducible exact qa); rintro e wG ⟨o, hgot, rfl, hbG⟩; rw [entV_getD]; obtain ⟨f, HF⟩ : ∃ f, Keep (f = o.getD noEn) := ⟨_, ⟨rfl⟩⟩; rw [← HF.out]; (try (with_reducible have N := newE hbG; have n0 := N.c0; have n1 := N.c1; have n2 := N.c2; have nf := N.fz)))
            all_goals
              go_wp2_with fail
              go_meet
              case rel =>
                first
                  | exact cutG_mk HF.out hgot (kqB q0 hbG)
                  | exact cutG_mk' HF.out hgot (kqB qa hbG) N (Nat.le_refl _)
          case rest =>
            obtain ⟨fb, o, rfl, rfl, hgot, hF, hB8⟩ := hcut
            clear hG q0 qa xx
            have hS8 := hSr.later hB8
            have t8 := hS8.c
            have X0 := cell_later hB8 HX.out
            have X1 := cell_later hB8 x1
            have X2 := cell_later hB8 x2
            have hB78 := kqB hB7 hB8
            clear hTr hSr hXr t0 x0' x1 x2
            have hmem : bs[k] ∈ us := (HP.out.2.2.1.mem _).2 (.inl (List.getElem_mem hlt))
            rw [HXP.out] at hgot
            obtain rfl := got_mem HP.out.2.2.2 hmem hgot
            simp only [Option.getD_some, Option.isSome_some] at hF ⊢
            have f0 := hF.c0
            have f1 := hF.c1
            have f2 := hF.c2
            clear hF hgot hmem
            go_wp2
            go_quiet (fail)
            go_wp2
            go_roundw
            case rel => exact ⟨k + 1, by congr 1, hlt, below_drewN hB78 _⟩
            case measure => simp only [intOf]; omega
      · obtain rfl : k = bs.length := by omega
        clear hTr hSr hXr
        have hT7 := hT5.later hB7
        have hS7 := hS5.later hB7
        have hX7 := hX5.later hB7
        have hbw7 := kqB hbw5 hB7
        clear hT5 hS5 hX5 hbw5 hB7 hk hlt
        go_wp2_with fail
        clear t0
        generalize hwo : wr = wo at *
        clear hwo
        -- all that is there is of the one or of the other
        go_loopw [20] (fun i wq => ∃ k : Nat, i = .int .i64 k ∧ k ≤ us.length ∧ Below wo.heap.size wo wq) (fun i _ => us.length - (intOf i).toNat)
        case atStart => exact ⟨0, rfl, Nat.zero_le _, Below.refl _ _⟩
        case round =>
          obtain ⟨j, rfl, hj, hB8⟩ := hrel
          have hTr := hT7.later hB8
          have hSr := hS7.later hB8
          have hXr := hX7.later hB8
          have hbwr := kqB hbw7 hB8
          have t0 := hXr.c
          by_cases hlt : j < us.length
          · as_aux_lemma =>
              have hlt' : (j : Int) < us.length := by omega
              obtain ⟨b1, o1, hab, hc1⟩ := hXr.es.at hlt
              obtain ⟨x0, x1, x2⟩ := hc1 j hlt
              subst hab
              have ss := hSr.c
              obtain ⟨xp, hxp⟩ : ∃ xp, xp = us[j].path := ⟨_, rfl⟩
              have HXP : Keep (xp = us[j].path) := ⟨hxp⟩
              have hxz : xp.size ≤ 1048576 := by rw [hxp]; exact (valid_ok HP.out.2.2.2 _ (List.getElem_mem hlt)).1
              have x0' := x0
              rw [← hxp] at x0'
              clear hxp hc1
              have hG : ∀ X, Below wr.heap.size wr X → Calls Try.prog 13 #[.agg #[.slice adB bs.length cpB], .string xp] X fun e w' => GetPost bs xp X e w' := fun X hX => implGet_any adB cpB bs xp X (hSr.es.below hX) (by omega) (valid_ok HP.out.2.1) (by omega)
              have q0 : Below wr.heap.size wr wr.drew := (Below.refl _ _).drew
              have qa := (below_oneD wr (.cells #[.string ⟨#[]⟩, .string ⟨#[]⟩, .bool false] 37)).drew
              have HX : Keep (wr.cell? ⟨b1, o1 + j * 3, none⟩ = some (.string us[j].path) ∧ wr.cell? ⟨b1, o1 + j * 3 + 1, none⟩ = some (.string us[j].text) ∧ wr.cell? ⟨b1, o1 + j * 3 + 2, none⟩ = some (.bool us[j].runs)) := ⟨⟨x0, x1, x2⟩⟩
              clear x0 x1 x2
              go_upto_region 30 with fail
              go_cut [21, 22] (fun pv cc wx => CutG bs xp wr pv cc wx)
              case first =>
                have xxa := fun o => (hSr.later (below_oneD wr o)).c
                have t0a := fun o => (hXr.later (below_oneD wr o)).c
                have x0a : ∀ o, (wr.alloc o).cell? ⟨b1, o1 + j * 3, none⟩ = some (.string xp) := fun o => cell_later (below_oneD wr o) x0'
                go_region_with (go_at_call 13; refine (hG _ ?_).mono ?_; (first | with_reducible exact q0 | with_reducible exact qa); rintro e wG ⟨o, hgot, rfl, hbG⟩; rw [entV_getD]; obtain ⟨f, HF⟩ : ∃ f, Keep (f = o.getD noEn) := ⟨_, ⟨rfl⟩⟩; rw [← HF.out]; (try (with_reducible have N := newE hbG; have n0 := N.c0; have n1 := N.c1; have n2 := N.c2; have nf := N.fz)))
                all_goals
                  go_wp2_with fail
                  go_meet
                  case rel =>
                    first
                      | exact cutG_mk HF.out hgot (kqB q0 hbG)
                      | exact cutG_mk' HF.out hgot (kqB qa hbG) N (Nat.le_refl _)
              case rest =>
                obtain ⟨fb, o, rfl, rfl, hgot, _, hB9⟩ := hcut
                have HGB : Keep (Got bs xp o) := ⟨hgot⟩
                clear hG q0 qa ss t0 hgot
                generalize hwc : wc = wd at *
                clear hwc
                have hTd := hTr.later hB9
                have hXd := hXr.later hB9
                have tt := hTd.c
                have t9 := hXd.c
                have z0 : wd.cell? ⟨b1, o1 + j * 3, none⟩ = some (.string xp) := cell_later hB9 x0'
                have hB89 := kqB hB8 hB9
                clear x0'
                have hG : ∀ X, Below wd.heap.size wd X → Calls Try.prog 13 #[.agg #[.slice adA ts.length cpA], .string xp] X fun e w' => GetPost ts xp X e w' := fun X hX => implGet_any adA cpA ts xp X (hTd.es.below hX) (by omega) (valid_ok HP.out.1) (by omega)
                have q0 : Below wd.heap.size wd wd.drew := (Below.refl _ _).drew
                have qa := (below_oneD wd (.cells #[.string ⟨#[]⟩, .string ⟨#[]⟩, .bool false] 37)).drew
                go_upto_region 31 with fail
                go_cut [23, 24] (fun pv cc wx => CutG ts xp wd pv cc wx)
                case first =>
                  have xxa := fun o => (hTd.later (below_oneD wd o)).c
                  have t0a := fun o => (hXd.later (below_oneD wd o)).c
                  have x0a : ∀ o, (wd.alloc o).cell? ⟨b1, o1 + j * 3, none⟩ = some (.string xp) := fun o => cell_later (below_oneD wd o) z0
                  go_region_with (go_at_call 13; refine (hG _ ?_).mono ?_; (first | with_reducible exact q0 | with_reducible exact qa); rintro e wG ⟨o2, hgot, rfl, hbG⟩; rw [entV_getD]; obtain ⟨f, HF⟩ : ∃ f, Keep (f = o2.getD noEn) := ⟨_, ⟨rfl⟩⟩; rw [← HF.out]; (try (with_reducible have N := newE hbG; have n0 := N.c0; have n1 := N.c1; have n2 := N.c2; have nf := N.fz)))
                  all_goals
                    go_wp2_with fail
                    go_meet
                    case rel =>
                      first
                        | exact cutG_mk HF.out hgot (kqB q0 hbG)
                        | exact cutG_mk' HF.out hgot (kqB qa hbG) N (Nat.le_refl _)
                case rest =>
                  obtain ⟨fb2, o2, rfl, rfl, hgot, hF, hBA⟩ := hcut
                  clear hG q0 qa tt t9 z0
                  have hXe := hXd.later hBA
                  have t9 := hXe.c
                  have X0 := cell_later (kqB hB9 hBA) HX.out.1
                  have X1 := cell_later (kqB hB9 hBA) HX.out.2.1
                  have X2 := cell_later (kqB hB9 hBA) HX.out.2.2
                  have hB8A := kqB hB89 hBA
                  clear hTr hSr hXr hTd hXd hXe
                  rcases (HP.out.2.2.1.mem us[j]).1 (List.getElem_mem hlt) with hmb | ⟨hmt, _⟩
                  · have hgb := HGB.out
                    rw [HXP.out] at hgb
                    obtain rfl := got_mem HP.out.2.1 hmb hgb
                    simp only [Option.isSome_some]
                    generalize Option.isSome o2 = bo at *
                    clear hF hgot hgb hmb
                    go_wp2
                    go_quiet (fail)
                    go_wp2
                    go_roundw
                    case rel => exact ⟨j + 1, by congr 1, hlt, below_drewN hB8A _⟩
                    case measure => simp only [intOf]; omega
                  · rw [HXP.out] at hgot
                    obtain rfl := got_mem HP.out.1 hmt hgot
                    simp only [Option.getD_some, Option.isSome_some] at hF ⊢
                    have f0 := hF.c0
                    have f1 := hF.c1
                    have f2 := hF.c2
                    generalize Option.isSome o = bo at *
                    clear hF hgot hmt HGB
                    cases bo
                    all_goals
                      go_wp2
                      go_quiet (fail)
                      go_wp2
                      go_roundw
                      case rel => exact ⟨j + 1, by congr 1, hlt, below_drewN hB8A _⟩
                      case measure => simp only [intOf]; omega
          · obtain rfl : j = us.length := by omega
            have hvt := implTree_any ad3 cp3 us wr hXr.es (by omega) (fun e he => (valid_ok HP.out.2.2.2 e he).1)
            go_wp2_with fail
            refine hvt.mono ?_
            rintro e wZ ⟨bl, rfl, hbl, hbZ⟩
            obtain rfl : bl = true := hbl.2 HP.out.2.2.2
            go_wp2
            go_ret
            exact ⟨rfl, kqB hbwr hbZ⟩
end Go.Proofs.Ytiadabmbfpfbjaa
