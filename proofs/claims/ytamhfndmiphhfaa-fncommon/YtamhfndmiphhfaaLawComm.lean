/-
  'FnCommon': the walk out of the contracts; the frame.
-/
import Derived.Test.YtamhfndmiphhfaaWMax
import Derived.Test.YtamhfndmiphhfaaDrawComm
import Derived.Test.YtamhfndmiphhfaaCommS
import Derived.Test.YtamhfndmiphhfaaPairB
import Derived.ProofKit
import Derived.OpenShut
import Derived.ShutString
import Derived.ChangeOld
import Derived.Below
import Derived.SliceStrings
import Derived.ChangeSlices
namespace Go.Proofs.Ytamhfndmiphhfaa.fnCommon
open Go.ChangeShapes Go.WideShapes Go.ChangeAt Go.RowKit
open Go.ChangeMaps (open_string shut_string)
set_option linter.unusedVariables false

theorem own : ownKnob Try.prog.godebug = none := by kernel_rfl
theorem laidOut : laidOutB Try.prog = true := by kernel_rfl

set_option maxRecDepth 20000 in
set_option maxHeartbeats 4000000 in
theorem walk (a : Option Addr) (cap : Nat) (zs : List Int) (w : World) (hc : Code0 w a cap zs) :
    Calls Try.prog 4 #[.slice a zs.length cap] w fun e w' => e = .returned (.bool true) ∧ Below w.heap.size w w' := by
  by_cases hbig : (1048576 : Int) < zs.length
  · go_enter Try.func4, Try.ntmps4
    go_wp2
    go_ret
    exact ⟨rfl, Below.refl _ _⟩
  · obtain ⟨ti, hti, hz0, hz1, hz2⟩ := info_parts Try.infoPair
    go_enter Try.func4, Try.ntmps4
    go_wp2_with fail
    refine (drawC_any a cap zs w hc).mono ?_
    rintro e w1 ⟨a1, c1, ss, a2, c2, tt, rfl, hS1, hT1, hss, htt, hsl, htl, b1⟩
    obtain ⟨ps, hp⟩ := exists_commT ss tt
    go_wp2_with fail
    refine (implCommon_any a1 a2 c1 c2 ss tt ps w1 hS1 hT1 hp (fun s hs => Nat.le_trans (hss s hs) (by omega)) (fun s hs => Nat.le_trans (htt s hs) (by omega))).mono ?_
    rintro e w2 ⟨ad2, cp2, rfl, hr2, b2⟩
    have bx2 := b1.trans (b2.mono b1.size)
    have e2 : decide ((1500 : Int) < tt.length) = false := by simp; omega
    by_cases hbs : 1500 < ss.length
    · have e1 : decide ((1500 : Int) < ss.length) = true := by simp; omega
      obtain rfl : ps = [] := by
        rcases hp with ⟨h1, _⟩ | ⟨_, h⟩
        · omega
        · exact h
      clear hp
      go_wp2
      go_ret
      exact ⟨rfl, bx2⟩
    have e1 : decide ((1500 : Int) < ss.length) = false := by simp; omega
    have hcm : Comm ss.length tt.length (eqL ss tt) 0 0 ps := by
      rcases hp with ⟨_, _, h⟩ | ⟨h, _⟩
      · exact h
      · omega
    have hlen : ps.length = tab (eqL ss tt) ss.length tt.length := hcm.len.trans (tab_lcs _ _ _).symm
    have cw := wMax_any a1 a2 c1 c2 ss tt w2 (hS1.below b2) (hT1.below b2) (by omega) (by omega)
    rw [← hlen] at cw
    have hU := hcm.up
    have hpl := hp.len
    clear hlen hcm
    go_wp2_with fail
    refine cw.mono ?_
    rintro e w3 ⟨rfl, b3⟩
    clear cw
    have bx3 := bx2.trans (b3.mono bx2.size)
    have bb3 := b2.trans (b3.mono b2.size)
    go_wp2_with fail
    refine (specCommon_any a1 a2 c1 c2 ss tt ps w3 (hS1.below bb3) (hT1.below bb3) hp).mono ?_
    rintro e w4 ⟨ad4, cp4, rfl, hr4, b4⟩
    have bx4 := bx3.trans (b4.mono bx3.size)
    have bb4 := bb3.trans (b4.mono bb3.size)
    have hP2 : PS w4 ad2 ps := (ps_of_row hr2).below (b3.trans (b4.mono b3.size))
    have hP4 : PS w4 ad4 ps := ps_of_row hr4
    have hS4 := hS1.below bb4
    have hT4 := hT1.below bb4
    clear hr2 hr4 hp
    go_wp2
    go_loopw [7] (fun si wr => ∃ i : Nat, i ≤ ps.length ∧ si = .int .i64 (i : Int) ∧ Below w4.heap.size w4 wr) (fun si _ => ps.length - (intOf si).toNat)
    case atStart => exact ⟨0, Nat.zero_le _, rfl, Below.refl _ _⟩
    case round =>
      obtain ⟨i, hi, rfl, hB⟩ := hrel
      by_cases hlt : i < ps.length
      · have hlt' : (i : Int) < ps.length := by omega
        have hU1 := hU.at i hlt
        obtain ⟨g2, o2, rfl, d2⟩ := hP2.at hlt
        obtain ⟨g4, o4, rfl, d4⟩ := hP4.at hlt
        have y2 := d2 i hlt
        have y4 := d4 i hlt
        have hU2 : ∀ k (hk : i = k + 1), ps[k].1 < ps[i].1 ∧ ps[k].2 < ps[i].2 := fun k hk => by subst hk; exact hU.asc k hlt
        obtain ⟨p, hp⟩ : ∃ p, ps[i] = p := ⟨_, rfl⟩
        rw [hp] at hU1 y2 y4 hU2
        have HP : NKeep (ps[i] = p) := ⟨hp⟩
        clear hp
        obtain ⟨X, Y⟩ := p
        obtain ⟨-, x2, -, x4, x5⟩ := hU1
        simp only at x2 x4 x5 hU2
        obtain ⟨gs, os, rfl, ds⟩ := hS4.at x2
        obtain ⟨gt, ot, rfl, dt⟩ := hT4.at x4
        have hse := bs_same ((eqL_iff x2 x4).1 x5)
        have q1 : wr.cell? ⟨g2, o2 + i * 2, none⟩ = some (.int .i64 (X : Int)) := cell_later hB y2.1
        have q2 : wr.cell? ⟨g2, o2 + i * 2 + 1, none⟩ = some (.int .i64 (Y : Int)) := cell_later hB y2.2
        have hBW : Below w4.heap.size w4 (wr.alloc (.cells #[.int .i64 (X : Int), .int .i64 (Y : Int)] 34)) := hB.alloc hB.size _
        have r1 : (wr.alloc (.cells #[.int .i64 (X : Int), .int .i64 (Y : Int)] 34)).cell? ⟨g4, o4 + i * 2, none⟩ = some (.int .i64 (X : Int)) := cell_later hBW y4.1
        have r2 : (wr.alloc (.cells #[.int .i64 (X : Int), .int .i64 (Y : Int)] 34)).cell? ⟨g4, o4 + i * 2 + 1, none⟩ = some (.int .i64 (Y : Int)) := cell_later hBW y4.2
        have r3 : (wr.alloc (.cells #[.int .i64 (X : Int), .int .i64 (Y : Int)] 34)).cell? ⟨gs, os + X, none⟩ = some (.string ss[X]) := cell_later hBW (ds X x2)
        have r4 : (wr.alloc (.cells #[.int .i64 (X : Int), .int .i64 (Y : Int)] 34)).cell? ⟨gt, ot + Y, none⟩ = some (.string tt[Y]) := cell_later hBW (dt Y x4)
        have x2' : (X : Int) < ss.length := by omega
        have x4' : (Y : Int) < tt.length := by omega
        have HBX : NKeep (∀ n, Below w4.heap.size w4 ((wr.alloc (.cells #[.int .i64 (X : Int), .int .i64 (Y : Int)] 34)).drewN n)) := ⟨fun n => ⟨hBW.os, hBW.tape, hBW.output, hBW.size, hBW.block⟩⟩
        rcases Nat.eq_zero_or_pos i with h0 | h0
        · have hi0 : decide ((0 : Int) < (i : Int)) = false := by simp; omega
          have hi0n : decide (0 < i) = false := by simp; omega
          clear h0 hU2 d2 d4 ds dt y2 y4 x5 hBW
          go_wp2
          go_quiet (fail)
          go_wp2
          go_roundw
          case rel => exact ⟨i + 1, by omega, by go_num, HBX.out _⟩
          case measure => simp [intOf]; omega
        · obtain ⟨k, hik⟩ : ∃ k, i = k + 1 := ⟨i - 1, by omega⟩
          have hU3 := hU2 k hik
          have z2 := d2 k (by omega)
          obtain ⟨p', hp'⟩ : ∃ p', ps[k] = p' := ⟨_, rfl⟩
          rw [hp'] at hU3 z2
          clear hp'
          obtain ⟨A, C⟩ := p'
          obtain ⟨u1, u2⟩ := hU3
          have r5 : (wr.alloc (.cells #[.int .i64 (X : Int), .int .i64 (Y : Int)] 34)).cell? ⟨g2, o2 + k * 2, none⟩ = some (.int .i64 (A : Int)) := cell_later hBW z2.1
          have r6 : (wr.alloc (.cells #[.int .i64 (X : Int), .int .i64 (Y : Int)] 34)).cell? ⟨g2, o2 + k * 2 + 1, none⟩ = some (.int .i64 (C : Int)) := cell_later hBW z2.2
          have u1' : decide ((X : Int) ≤ (A : Int)) = false := by simp only at u1; simp; omega
          have u2' : decide ((Y : Int) ≤ (C : Int)) = false := by simp only at u2; simp; omega
          have hk1 : (k : Int) < ps.length := by omega
          have hk0 : (0 : Int) < (i : Int) := by omega
          have hsub : (i : Int) - 1 = (k : Int) := by omega
          have hkn : decide (0 < i) = true := by simp; omega
          have u1n : decide (X ≤ A) = false := by simp only at u1; simp; omega
          have u2n : decide (Y ≤ C) = false := by simp only at u2; simp; omega
          clear hik hU2 d2 d4 ds dt y2 y4 z2 x5 hBW u1 u2
          go_wp2
          go_quiet (fail)
          go_wp2
          go_roundw
          case rel => exact ⟨i + 1, by omega, by go_num, HBX.out _⟩
          case measure => simp [intOf]; omega
      · obtain rfl : i = ps.length := by omega
        go_wp2
        go_ret
        exact ⟨rfl, bx4.trans (hB.mono bx4.size)⟩

theorem open_code {H : Type} {enc : TypeId × Value → H} {W : World} {a : Option Addr} {len cap : Nat} {d : DataW H} {p : List MemPlace} (h : DataW.Trod enc Try.prog W 0 (fun _ => true) true 27 (.slice a len cap) d p) :
    ∃ zs : List Int, len = zs.length ∧ Code0 W a cap zs := by
  obtain ⟨fuel, hf⟩ := h
  rcases open_ints Try.underlying27 Try.underlying5 (by kernel_rfl) hf with ⟨hcs, _⟩ | ⟨x, l, c, zs, hcs, _, hl, hm, hz, _, hcell, hwz⟩
  · simp [Value.cells] at hcs
    obtain ⟨rfl, rfl, rfl⟩ := hcs
    exact ⟨[], rfl, .inl rfl, Nat.zero_le _, Nat.zero_le _, fun z hz => by simp at hz⟩
  · simp [Value.cells] at hcs
    obtain ⟨rfl, rfl, rfl⟩ := hcs
    have hz' : zs.length = cap := by simpa using hz
    refine ⟨zs.take len, by simp; omega, ?_, by simp; omega, hm, fun z hz => ?_⟩
    · by_cases h0 : len = 0
      · left; simp [h0]
      · right
        obtain ⟨b, off, rfl, hc⟩ := ints_at hcell (by omega)
        refine ⟨b, off, rfl, ?_, fun i hi => ?_⟩
        · have h1 := hc 0 (by omega)
          unfold World.cell? at h1
          cases hh : W.heap[b]? with
          | none => simp [hh] at h1
          | some o => exact (Array.getElem?_eq_some_iff.1 hh).1
        · have hi' : i < zs.length := by simp at hi; omega
          rw [hc i hi']
          simp [List.getD, hi']
    · have := bounds_u8 (hwz z (List.mem_of_mem_take hz))
      omega

set_option maxRecDepth 100000 in
theorem lifted (os : Os) (started : os.Started) (H : Type) (enc : TypeId × Value → H) :
    ReturnsInHanded {} Try.checked os 4 .any (Rows.fnCommonSpec.pre6 enc Try.prog Try.f4 Rows.fnCommonRow.domain false) (Rows.fnCommonSpec.post enc Try.prog Try.f4 false true false false) := by
  refine returnsInHanded_of_change (C := Try.checked) own started (by kernel_rfl) Try.func4
    (ChangeSpec.witness6 (enc := enc) (C := Try.checked) false ⟨#[], #[.slice none 0 0], []⟩ 8 (by kernel_rfl) (by kernel_rfl) (by kernel_rfl) (by kernel_rfl)) ?_
  intro W base args ds gs before hval0 hW hcnd _
  have hval : ∀ (j : Nat) t v, Try.f4.params[j]? = some t → args[j]? = some v → Value.okWide Try.prog W .any base t v := hval0
  have hW' := hW
  obtain ⟨p, q, hA0, hV, rfl, hfz, hnd⟩ := hW
  have hA : DataW.TrodAll enc Try.prog W 0 (fun _ => true) true Try.f4.params.toList args.toList ds p := hA0
  rw [Try.params4] at hA hval
  obtain ⟨v0, vs0, d0, ds0, p0, q0, hargs, rfl, rfl, h0, r0⟩ := trodAll_cons hA
  obtain ⟨rfl, rfl, rfl⟩ := trodAll_nil r0
  obtain rfl : args = #[v0] := by cases args; simp_all
  obtain ⟨rfl, rfl⟩ := trodVars_none hV
  obtain ⟨a0, len0, cap0, rfl⟩ := okWide_slice Try.underlying27 (hval 0 27 v0 rfl rfl)
  have k0 := h0
  have lt0 : ∀ x ∈ p0, x.block < W.heap.size := by obtain ⟨m, hm⟩ := k0; exact DataW.trod_lt m _ _ _ hm
  obtain ⟨zs, rfl, hc⟩ := open_code h0
  clear hA0 hval0
  refine (walk a0 cap0 zs W hc).mono fun e W' ⟨he, bel⟩ => ?_
  subst he
  exact ⟨_, rfl, _, _, _, [], _, [], hW', trodAll_mk1 (shut_bool Try.underlying4 _), (trodAll_cons_mk (Below.trod laidOut (by kernel_rfl) (of_decide_eq_true (by kernel_rfl)) k0 bel lt0) trodAll_mk0), rfl, bel.frame _, fun h => by cases h⟩

theorem over : Rows.fnCommonRow.holds Try.pinned (OpenSpec.ofChange Rows.fnCommonSpec) :=
  OpenClaim.holds_of_wide 4 Try.f4 rfl rfl rfl rfl rfl rfl rfl ⟨rfl, rfl, rfl, rfl, rfl⟩ rfl rfl rfl rfl rfl (by kernel_rfl) Try.func4 (by kernel_rfl)
    (of_decide_eq_true (by kernel_rfl)) (by unfold Func.isWrapper; first | (rw [if_pos (by decide +kernel)]; kernel_rfl) | (rw [if_neg (by decide +kernel)]; exact ⟨rfl, rfl⟩))
    (fun os started H enc _ => lifted os started H enc)

theorem proved : Rows.FnCommonSaid := over
end Go.Proofs.Ytamhfndmiphhfaa.fnCommon
