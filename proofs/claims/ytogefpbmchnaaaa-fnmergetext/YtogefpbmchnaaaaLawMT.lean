/-
  'FnMergeText': the walk out of the contracts; the frame.
-/
import Derived.Test.YtogefpbmchnaaaaMSym
import Derived.Test.YtogefpbmchnaaaaDrawMT
import Derived.ProofKit
import Derived.OpenShut
import Derived.ShutString
import Derived.ChangeOld
import Derived.Below
import Derived.SliceStrings
import Derived.ChangeSlices
namespace Go.Proofs.Ytogefpbmchnaaaa.fnMergeText
open Go.ChangeShapes Go.WideShapes Go.ChangeAt Go.RowKit
open Go.ChangeMaps (open_string shut_string)
set_option linter.unusedVariables false

theorem own : ownKnob Try.prog.godebug = none := by kernel_rfl
theorem laidOut : laidOutB Try.prog = true := by kernel_rfl

set_option maxRecDepth 20000 in
set_option maxHeartbeats 4000000 in
theorem walk (a : Option Addr) (cap : Nat) (zs : List Int) (w : World) (hc : Code0 w a cap zs) :
    Calls Try.prog 4 #[.slice a zs.length cap] w fun e w' => e = .returned (.bool true) ∧ Below w.heap.size w w' := by
  by_cases hbig : (1048576 : Int) < zs.length
  · go_enter Try.func4, Try.ntmps4
    go_wp2
    go_ret
    exact ⟨rfl, Below.refl _ _⟩
  · go_enter Try.func4, Try.ntmps4
    go_wp2_with fail
    refine (drawMT_any a cap zs w hc).mono ?_
    rintro e w1 ⟨sb, sa, sc, rfl, b1⟩
    obtain ⟨o, ho⟩ := exists_mtext sb sa sc
    obtain ⟨s, b, hv⟩ := mrgV_tuple o
    have ci := fun W => implMText_any sb sa sc o W ho
    have cj := fun W => implMText_any sb sc sa o W ho.sym
    have cs := fun W => specMText_any sb sa sc o W ho
    rw [hv] at ci cj cs
    have hss := bs_same (x := s) rfl
    go_wp2_with fail
    refine (ci _).mono ?_
    rintro e w2 ⟨rfl, b2⟩
    have bx2 := b1.trans (b2.mono b1.size)
    go_wp2_with fail
    refine (cj _).mono ?_
    rintro e w3 ⟨rfl, b3⟩
    have bx3 := bx2.trans (b3.mono bx2.size)
    go_wp2_with fail
    refine (cs _).mono ?_
    rintro e w4 ⟨rfl, b4⟩
    have bx4 := bx3.trans (b4.mono bx3.size)
    clear ci cj cs
    by_cases h1 : 1500 < sb.size
    · have e1 : decide ((1500 : Int) < sb.size) = true := by simp; omega
      have hob : b = false := by
        have := ho.big (.inl h1)
        subst this
        unfold mrgV at hv
        simp at hv
        exact hv.2
      subst hob
      clear hv ho
      go_wp2
      go_ret
      exact ⟨rfl, bx4⟩
    have e1 : decide ((1500 : Int) < sb.size) = false := by simp; omega
    by_cases h2 : 1500 < sa.size
    · have e2 : decide ((1500 : Int) < sa.size) = true := by simp; omega
      have hob : b = false := by
        have := ho.big (.inr (.inl h2))
        subst this
        unfold mrgV at hv
        simp at hv
        exact hv.2
      subst hob
      clear hv ho
      go_wp2
      go_ret
      exact ⟨rfl, bx4⟩
    have e2 : decide ((1500 : Int) < sa.size) = false := by simp; omega
    by_cases h3 : 1500 < sc.size
    · have e3 : decide ((1500 : Int) < sc.size) = true := by simp; omega
      have hob : b = false := by
        have := ho.big (.inr (.inr h3))
        subst this
        unfold mrgV at hv
        simp at hv
        exact hv.2
      subst hob
      clear hv ho
      go_wp2
      go_ret
      exact ⟨rfl, bx4⟩
    have e3 : decide ((1500 : Int) < sc.size) = false := by simp; omega
    have cx := fun W => implMText_any sb sb sc _ W (mtext_base (by omega) (by omega))
    have cy := fun W => implMText_any sb sa sa _ W (mtext_same (by omega) (by omega))
    unfold mrgV at cx cy
    simp only [lnB_data] at cx cy
    have hsc := bs_same (x := sc) rfl
    have hsa := bs_same (x := sa) rfl
    clear hv ho
    go_wp2_with fail
    refine (cx _).mono ?_
    rintro e w5 ⟨rfl, b5⟩
    have bx5 := bx4.trans (b5.mono bx4.size)
    go_wp2_with fail
    refine (cy _).mono ?_
    rintro e w6 ⟨rfl, b6⟩
    have bx6 := bx5.trans (b6.mono bx5.size)
    go_wp2
    go_ret
    exact ⟨rfl, bx6⟩

theorem open_code {H : Type} {enc : TypeId × Value → H} {W : World} {a : Option Addr} {len cap : Nat} {d : DataW H} {p : List MemPlace} (h : DataW.Trod enc Try.prog W 0 (fun _ => true) true 25 (.slice a len cap) d p) :
    ∃ zs : List Int, len = zs.length ∧ Code0 W a cap zs := by
  obtain ⟨fuel, hf⟩ := h
  rcases open_ints Try.underlying25 Try.underlying5 (by kernel_rfl) hf with ⟨hcs, _⟩ | ⟨x, l, c, zs, hcs, _, hl, hm, hz, _, hcell, hwz⟩
  · simp [Value.cells] at hcs
    obtain ⟨rfl, rfl, rfl⟩ := hcs
    exact ⟨[], rfl, .inl rfl, Nat.zero_le _, Nat.zero_le _, fun z hz => by simp at hz⟩
  · simp [Value.cells] at hcs
    obtain ⟨rfl, rfl, rfl⟩ := hcs
    have hz' : zs.length = cap := by simpa using hz
    refine ⟨zs.take len, by simp; omega, ?_, by simp; omega, hm, fun z hz => ?_⟩
    · by_cases h0 : len = 0
      · left; simp [h0]
      · right
        obtain ⟨b, off, rfl, hc⟩ := ints_at hcell (by omega)
        refine ⟨b, off, rfl, ?_, fun i hi => ?_⟩
        · have h1 := hc 0 (by omega)
          unfold World.cell? at h1
          cases hh : W.heap[b]? with
          | none => simp [hh] at h1
          | some o => exact (Array.getElem?_eq_some_iff.1 hh).1
        · have hi' : i < zs.length := by simp at hi; omega
          rw [hc i hi']
          simp [List.getD, hi']
    · have := bounds_u8 (hwz z (List.mem_of_mem_take hz))
      omega

set_option maxRecDepth 100000 in
theorem lifted (os : Os) (started : os.Started) (H : Type) (enc : TypeId × Value → H) :
    ReturnsInHanded {} Try.checked os 4 .any (Rows.fnMergeTextSpec.pre6 enc Try.prog Try.f4 Rows.fnMergeTextRow.domain false) (Rows.fnMergeTextSpec.post enc Try.prog Try.f4 false true false false) := by
  refine returnsInHanded_of_change (C := Try.checked) own started (by kernel_rfl) Try.func4
    (ChangeSpec.witness6 (enc := enc) (C := Try.checked) false ⟨#[], #[.slice none 0 0], []⟩ 8 (by kernel_rfl) (by kernel_rfl) (by kernel_rfl) (by kernel_rfl)) ?_
  intro W base args ds gs before hval0 hW hcnd _
  have hval : ∀ (j : Nat) t v, Try.f4.params[j]? = some t → args[j]? = some v → Value.okWide Try.prog W .any base t v := hval0
  have hW' := hW
  obtain ⟨p, q, hA0, hV, rfl, hfz, hnd⟩ := hW
  have hA : DataW.TrodAll enc Try.prog W 0 (fun _ => true) true Try.f4.params.toList args.toList ds p := hA0
  rw [Try.params4] at hA hval
  obtain ⟨v0, vs0, d0, ds0, p0, q0, hargs, rfl, rfl, h0, r0⟩ := trodAll_cons hA
  obtain ⟨rfl, rfl, rfl⟩ := trodAll_nil r0
  obtain rfl : args = #[v0] := by cases args; simp_all
  obtain ⟨rfl, rfl⟩ := trodVars_none hV
  obtain ⟨a0, len0, cap0, rfl⟩ := okWide_slice Try.underlying25 (hval 0 25 v0 rfl rfl)
  have k0 := h0
  have lt0 : ∀ x ∈ p0, x.block < W.heap.size := by obtain ⟨m, hm⟩ := k0; exact DataW.trod_lt m _ _ _ hm
  obtain ⟨zs, rfl, hc⟩ := open_code h0
  clear hA0 hval0
  refine (walk a0 cap0 zs W hc).mono fun e W' ⟨he, bel⟩ => ?_
  subst he
  exact ⟨_, rfl, _, _, _, [], _, [], hW', trodAll_mk1 (shut_bool Try.underlying4 _), (trodAll_cons_mk (Below.trod laidOut (by kernel_rfl) (of_decide_eq_true (by kernel_rfl)) k0 bel lt0) trodAll_mk0), rfl, bel.frame _, fun h => by cases h⟩

theorem over : Rows.fnMergeTextRow.holds Try.pinned (OpenSpec.ofChange Rows.fnMergeTextSpec) :=
  OpenClaim.holds_of_wide 4 Try.f4 rfl rfl rfl rfl rfl rfl rfl ⟨rfl, rfl, rfl, rfl, rfl⟩ rfl rfl rfl rfl rfl (by kernel_rfl) Try.func4 (by kernel_rfl)
    (of_decide_eq_true (by kernel_rfl)) (by unfold Func.isWrapper; first | (rw [if_pos (by decide +kernel)]; kernel_rfl) | (rw [if_neg (by decide +kernel)]; exact ⟨rfl, rfl⟩))
    (fun os started H enc _ => lifted os started H enc)

theorem proved : Rows.FnMergeTextSaid := over
end Go.Proofs.Ytogefpbmchnaaaa.fnMergeText
