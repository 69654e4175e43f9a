/-
  spec.l4Bytes: a part of a glob and a part of a path.
-/
import Derived.Test.YtmeodgcnnjkilaaMatchP
import Derived.Test.YtmeodgcnnjkilaaPartOk
import Derived.Deep.QuietTactic
import Derived.BigQuiet
namespace Go.Proofs.Ytmeodgcnnjkilaa
open Go.RowKit

def num (c : UInt8) : Int := (c.toNat : Int)
def nums (l : List UInt8) : List Int := l.map num
def anyB (m : Int) : Bool := m == 42
def oneB (m r : Int) : Bool := m == 63 || m == r

theorem mkB_toList (l : List UInt8) : (mkB l).toList = l := by rw [Lib.toList_data, mkB_list]
theorem mkB_tail (c : UInt8) (l : List UInt8) : (mkB (c :: l)).extract 1 (mkB (c :: l)).size = mkB l := by
  rw [extract_mkB, mkB_list, mkB_size]
  simp

def BytesPost (g p : List UInt8) (w : World) (e : Ending) (w' : World) : Prop := e = .returned (.bool (mat anyB oneB (nums g) (nums p))) ∧ ∃ n, w' = w.drewN n

theorem bAny_nil {c : UInt8} {cs : List UInt8} (h : anyB (num c) = true) : mat anyB oneB (nums (c :: cs)) (nums []) = mat anyB oneB (nums cs) (nums []) := mat_any_nil h
theorem bAny {c : UInt8} {cs : List UInt8} (h : anyB (num c) = true) (q : UInt8) (qs : List UInt8) : mat anyB oneB (nums (c :: cs)) (nums (q :: qs)) = (mat anyB oneB (nums cs) (nums (q :: qs)) || mat anyB oneB (nums (c :: cs)) (nums qs)) := mat_any h _ _
theorem bOne_nil {c : UInt8} {cs : List UInt8} (h : anyB (num c) = false) : mat anyB oneB (nums (c :: cs)) (nums []) = false := mat_one_nil h
theorem bOne {c : UInt8} {cs : List UInt8} (h : anyB (num c) = false) (q : UInt8) (qs : List UInt8) : mat anyB oneB (nums (c :: cs)) (nums (q :: qs)) = (oneB (num c) (num q) && mat anyB oneB (nums cs) (nums qs)) := mat_one h _ _

/-- A text by its first byte and the rest. -/
structure Cut1 (S : ByteArray) (c : UInt8) (cs : List UInt8) : Prop where
  full : S.toList.isEmpty = false
  pos : 0 < S.size
  head : ∀ h : 0 < S.size, ((S[0]'h).toNat : Int) = num c
  tail : S.extract 1 S.size = mkB cs
theorem cut1 (c : UInt8) (cs : List UInt8) : Cut1 (mkB (c :: cs)) c cs :=
  ⟨by rw [mkB_toList]; rfl, by rw [mkB_size]; simp, fun _ => rfl, mkB_tail c cs⟩

set_option maxRecDepth 100000 in
set_option maxHeartbeats 4000000 in
theorem l4Bytes_any : ∀ (N : Nat) (g p : List UInt8) (w : World), g.length + p.length < N →
    Calls Try.prog 68 #[.string (mkB g), .string (mkB p)] w fun e w' => BytesPost g p w e w' := by
  intro N
  induction N with
  | zero => intro g p w hN; omega
  | succ N ih =>
    intro g p w hN
    cases g with
    | nil =>
      have e1 : (mkB []).toList.isEmpty = true := by rw [mkB_toList]; rfl
      cases p with
      | nil =>
        go_enter Try.func68, Try.ntmps68
        go_wp2
        go_ret
        exact ⟨rfl, 0, rfl⟩
      | cons q qs =>
        have e2 : (mkB (q :: qs)).toList.isEmpty = false := by rw [mkB_toList]; rfl
        go_enter Try.func68, Try.ntmps68
        go_wp2
        go_ret
        exact ⟨rfl, 0, rfl⟩
    | cons c cs =>
      have h1 := fun w => ih cs p w (by simp at hN; omega)
      have hC := cut1 c cs
      have h2 : ∀ q qs, p = q :: qs → ∀ w, Calls Try.prog 68 #[.string (mkB (c :: cs)), .string (mkB qs)] w fun e w' => BytesPost (c :: cs) qs w e w' := fun q qs e w => ih (c :: cs) qs w (by rw [e] at hN; simp at hN ⊢; omega)
      have h3 : ∀ q qs, p = q :: qs → ∀ w, Calls Try.prog 68 #[.string (mkB cs), .string (mkB qs)] w fun e w' => BytesPost cs qs w e w' := fun q qs e w => ih cs qs w (by rw [e] at hN; simp at hN ⊢; omega)
      clear ih hN
      rw [← hC.tail] at h1 h3
      generalize mkB (c :: cs) = S at *
      have s0 := hC.pos
      have iS := hC.full
      have s0' : (0 : Int) < S.size := by omega
      have s1' : (1 : Int) ≤ S.size := by omega
      have hd := hC.head s0
      by_cases h42 : num c = 42
      · have b42 : (((S[0]'s0).toNat : Int) == 42) = true := by rw [hd, h42]; rfl
        have hany : anyB (num c) = true := by rw [h42]; rfl
        clear h3 hd
        go_enter Try.func68, Try.ntmps68
        go_wp2_with fail
        refine (h1 w).mono ?_
        rintro e w1 ⟨rfl, k1, rfl⟩
        cases hm : mat anyB oneB (nums cs) (nums p) with
        | true =>
          go_wp2
          go_ret
          refine ⟨retB ?_, _, rfl⟩
          cases p with
          | nil => exact ((bAny_nil hany).trans hm).symm
          | cons q qs => rw [bAny hany, hm]; rfl
        | false =>
          cases p with
          | nil =>
            have e2 : (mkB []).toList.isEmpty = true := by rw [mkB_toList]; rfl
            go_wp2
            go_ret
            exact ⟨retB ((bAny_nil hany).trans hm).symm, _, rfl⟩
          | cons q qs =>
            have hP := cut1 q qs
            have h4 := h2 q qs rfl
            rw [← hP.tail] at h4
            have hres : mat anyB oneB (nums (c :: cs)) (nums (q :: qs)) = mat anyB oneB (nums (c :: cs)) (nums qs) := by rw [bAny hany, hm]; rfl
            have HR : Keep (mat anyB oneB (nums (c :: cs)) (nums (q :: qs)) = mat anyB oneB (nums (c :: cs)) (nums qs)) := ⟨hres⟩
            clear h1 h2 hm hres
            generalize mkB (q :: qs) = P at *
            have iP := hP.full
            have p0 := hP.pos
            have p1' : (1 : Int) ≤ P.size := by omega
            go_wp2_with fail
            refine (h4 _).mono ?_
            rintro e w2 ⟨rfl, k2, rfl⟩
            go_wp2
            go_ret
            exact ⟨retB HR.out.symm, _, rfl⟩
      · have b42 : (((S[0]'s0).toNat : Int) == 42) = false := by rw [hd]; simpa using h42
        have hany : anyB (num c) = false := by simpa [anyB] using h42
        clear h1 h2
        cases p with
        | nil =>
          have e2 : (mkB []).toList.isEmpty = true := by rw [mkB_toList]; rfl
          go_enter Try.func68, Try.ntmps68
          go_wp2
          go_quiet (fail)
          go_wp2
          go_ret
          exact ⟨retB (bOne_nil hany).symm, _, rfl⟩
        | cons q qs =>
          have hP := cut1 q qs
          have h4 := h3 q qs rfl
          rw [← hP.tail] at h4
          have hres := bOne (cs := cs) hany q qs
          clear h3
          generalize mkB (q :: qs) = P at *
          have iP := hP.full
          have p0 := hP.pos
          have p0' : (0 : Int) < P.size := by omega
          have p1' : (1 : Int) ≤ P.size := by omega
          have hq := hP.head p0
          by_cases h63 : num c = 63
          · have b63 : (((S[0]'s0).toNat : Int) == 63) = true := by rw [hd, h63]; rfl
            have HR : Keep (mat anyB oneB (nums (c :: cs)) (nums (q :: qs)) = mat anyB oneB (nums cs) (nums qs)) := ⟨by rw [hres, oneB, h63]; simp⟩
            clear hres hd hq h63 h42
            go_enter Try.func68, Try.ntmps68
            go_wp2
            go_quiet ((go_at_call 68; refine (h4 _).mono ?_; rintro e w2 ⟨rfl, k2, rfl⟩; exact ⟨rfl, _, World.drewN_drewN _ _ _⟩))
            go_wp2
            go_ret
            exact ⟨retB HR.out.symm, _, rfl⟩
          · have b63 : (((S[0]'s0).toNat : Int) == 63) = false := by rw [hd]; simpa using h63
            by_cases hcq : num c = num q
            · have bcq : (((S[0]'s0).toNat : Int) == ((P[0]'p0).toNat : Int)) = true := by rw [hd, hq, hcq]; simp
              have HR : Keep (mat anyB oneB (nums (c :: cs)) (nums (q :: qs)) = mat anyB oneB (nums cs) (nums qs)) := ⟨by rw [hres, oneB, hcq]; simp⟩
              clear hres hd hq h63 h42 hcq
              go_enter Try.func68, Try.ntmps68
              go_wp2
              go_quiet ((go_at_call 68; refine (h4 _).mono ?_; rintro e w2 ⟨rfl, k2, rfl⟩; exact ⟨rfl, _, World.drewN_drewN _ _ _⟩))
              go_wp2
              go_ret
              exact ⟨retB HR.out.symm, _, rfl⟩
            · have bcq : (((S[0]'s0).toNat : Int) == ((P[0]'p0).toNat : Int)) = false := by rw [hd, hq]; simpa using hcq
              have HR : Keep (mat anyB oneB (nums (c :: cs)) (nums (q :: qs)) = false) := ⟨by rw [hres, oneB]; simp [h63, hcq]⟩
              clear hres hd hq h63 h42 hcq h4
              go_enter Try.func68, Try.ntmps68
              go_wp2
              go_quiet (fail)
              go_wp2
              go_ret
              exact ⟨retB HR.out.symm, _, rfl⟩
end Go.Proofs.Ytmeodgcnnjkilaa
