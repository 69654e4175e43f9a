/-
  spec.l4Match: the parts of a glob and the parts of a path.
-/
import Derived.Test.YtmeodgcnnjkilaaSpecBytes
import Derived.Test.YtmeodgcnnjkilaaSpecPath
namespace Go.Proofs.Ytmeodgcnnjkilaa
open Go.RowKit

def anyS (x : ByteArray) : Bool := x.toList == [42, 42]
def oneS (x y : ByteArray) : Bool := mat anyB oneB (nums x.data.toList) (nums y.data.toList)

/-- A slice of texts that is read. -/
structure RdS (w : World) (v : Value) (ss : List ByteArray) : Prop where
  at_ : ∃ a cap, v = .slice a ss.length cap ∧ ss.length ≤ cap ∧ SS w a ss

theorem RdS.drewN {w : World} {v : Value} {ss : List ByteArray} (h : RdS w v ss) (n : Nat) : RdS (w.drewN n) v ss := ⟨h.at_⟩

theorem bytesS_any (x y : ByteArray) (w : World) : Calls Try.prog 68 #[.string x, .string y] w fun e w' => e = .returned (.bool (oneS x y)) ∧ ∃ n, w' = w.drewN n := by
  have := l4Bytes_any (x.data.toList.length + y.data.toList.length + 1) x.data.toList y.data.toList w (by omega)
  rw [mkB_data, mkB_data] at this
  exact this

def MatchPost (gs ps : List ByteArray) (w : World) (e : Ending) (w' : World) : Prop := e = .returned (.bool (mat anyS oneS gs ps)) ∧ ∃ n, w' = w.drewN n

set_option maxRecDepth 100000 in
/-- What is behind the first text of a slice. -/
theorem tail_at {w : World} {a : Option Addr} {cap : Nat} {x : ByteArray} {xs : List ByteArray} (hc : (x :: xs).length ≤ cap) (h : SS w a (x :: xs)) :
    ∃ v, (∀ w1, (Instr.sliceAt 44 (.slice a (x :: xs).length cap) (some (.int .i64 1)) none none).run Try.prog w1 = .ok v w1) ∧ (∀ m, RdS (w.drewN m) v xs) ∧
      ∃ b o, a = some ⟨b, o, none⟩ ∧ w.cell? ⟨b, o, none⟩ = some (.string x) := by
  obtain ⟨b, o, rfl, hcell⟩ := h.at (k := 0) (by simp)
  refine ⟨sliced (some ⟨b, o, none⟩) 1 (x :: xs).length cap 1, fun w1 => ?_, fun m => ⟨?_⟩, b, o, rfl, hcell 0 (by simp)⟩
  · rw [run_sliceAt_slice w1 _ _ _ _ _ Try.underlying44, run_slice_l w1 _ _ _ _ Try.underlying44 .i64 1 (by omega) (by simp; omega)]
    have hz : (sizeOf (Try.prog.elem 44)).run Try.prog w1 = .ok 1 w1 := by kernel_rfl
    rw [hz]
    rfl
  · refine ⟨if cap = 1 then some ⟨b, o, none⟩ else some ⟨b, o + 1, none⟩, cap - 1, ?_, by simp at hc; omega, ?_⟩
    · unfold sliced
      split <;> rfl
    · by_cases h1 : cap = 1
      · left
        have : xs.length = 0 := by simp at hc; omega
        exact List.eq_nil_of_length_eq_zero this
      · right
        refine ⟨b, o + 1, by rw [if_neg h1], fun i hi => ?_⟩
        have := hcell (i + 1) (by simp; omega)
        rw [show o + 1 + i = o + (i + 1) by omega]
        exact this

set_option maxRecDepth 100000 in
set_option maxHeartbeats 4000000 in
theorem l4Match_any : ∀ (N : Nat) (gs ps : List ByteArray) (vg vp : Value) (w : World), gs.length + ps.length < N → RdS w vg gs → RdS w vp ps →
    Calls Try.prog 56 #[vg, vp] w fun e w' => MatchPost gs ps w e w' := by
  intro N
  induction N with
  | zero => intro g p vg vp w hN; omega
  | succ N ih =>
    intro g p vg vp w hN hg hp
    obtain ⟨ap, cp, rfl, hpc, hps⟩ := hp.at_
    obtain ⟨ag, cg, rfl, hgc, hgs⟩ := hg.at_
    cases g with
    | nil =>
      cases p with
      | nil =>
        go_enter Try.func56, Try.ntmps56
        go_wp2
        go_ret
        exact ⟨rfl, 0, rfl⟩
      | cons q qs =>
        have h0 : (((q :: qs).length : Int) == 0) = false := by simp; omega
        generalize hn : (q :: qs).length = n at *
        go_enter Try.func56, Try.ntmps56
        go_wp2
        go_ret
        exact ⟨rfl, 0, rfl⟩
    | cons x xs =>
      obtain ⟨tg, hsl, htg, b, o, rfl, c0⟩ := tail_at hgc hgs
      have g0 : (0 : Int) < (x :: xs).length := by simp
      have gz : (((x :: xs).length : Int) == 0) = false := by simp; omega
      have h1 : ∀ m, Calls Try.prog 56 #[tg, .slice ap p.length cp] (w.drewN m) fun e w' => MatchPost xs p (w.drewN m) e w' := fun m => ih xs p _ _ _ (by simp at hN; omega) (htg m) (hp.drewN m)
      have h2 : ∀ tp qs, (∀ m, RdS (w.drewN m) tp qs) → qs.length + 1 ≤ p.length → ∀ m, Calls Try.prog 56 #[.slice (some ⟨b, o, none⟩) (x :: xs).length cg, tp] (w.drewN m) fun e w' => MatchPost (x :: xs) qs (w.drewN m) e w' := fun tp qs h hl m => ih (x :: xs) qs _ _ _ (by simp at hN ⊢; omega) (hg.drewN m) (h m)
      have h3 : ∀ tp qs, (∀ m, RdS (w.drewN m) tp qs) → qs.length + 1 ≤ p.length → ∀ m, Calls Try.prog 56 #[tg, tp] (w.drewN m) fun e w' => MatchPost xs qs (w.drewN m) e w' := fun tp qs h hl m => ih xs qs _ _ _ (by simp at hN; omega) (htg m) (h m)
      clear ih hN htg hgs hg
      generalize hn : (x :: xs).length = n at *
      clear hn
      cases ha : anyS x with
      | true =>
        have hb : (x.toList == [42, 42]) = true := ha
        clear h3
        go_enter Try.func56, Try.ntmps56
        go_wp2_with fail
        refine (h1 0).mono ?_
        rintro e w1 ⟨rfl, k1, rfl⟩
        cases hm : mat anyS oneS xs p with
        | true =>
          go_wp2
          go_ret
          refine ⟨retB ?_, _, rfl⟩
          cases p with
          | nil => rw [mat_any_nil ha, hm]
          | cons q qs => rw [mat_any ha, hm]; rfl
        | false =>
          cases p with
          | nil =>
            go_wp2
            go_ret
            exact ⟨retB (by rw [mat_any_nil ha, hm]), _, rfl⟩
          | cons q qs =>
            obtain ⟨tp, hslp, htp, bp, op, rfl, d0⟩ := tail_at hpc hps
            have hres : mat anyS oneS (x :: xs) (q :: qs) = mat anyS oneS (x :: xs) qs := by rw [mat_any ha, hm]; rfl
            have HR : Keep (mat anyS oneS (x :: xs) (q :: qs) = mat anyS oneS (x :: xs) qs) := ⟨hres⟩
            have h4 := h2 tp qs htp (by simp)
            have p0 : (0 : Int) < (q :: qs).length := by simp
            clear h1 h2 hm hres htp hps hp
            generalize hn : (q :: qs).length = np at *
            clear hn
            go_wp2_with fail
            refine (h4 k1).mono ?_
            rintro e w2 ⟨rfl, k2, rfl⟩
            go_wp2
            go_ret
            exact ⟨retB HR.out.symm, _, rfl⟩
      | false =>
        have hb : (x.toList == [42, 42]) = false := ha
        clear h1 h2
        cases p with
        | nil =>
          go_enter Try.func56, Try.ntmps56
          go_wp2
          go_quiet (fail)
          go_wp2
          go_ret
          exact ⟨retB (mat_one_nil ha).symm, _, rfl⟩
        | cons q qs =>
          obtain ⟨tp, hslp, htp, bp, op, rfl, d0⟩ := tail_at hpc hps
          have hres := mat_one (any := anyS) (one := oneS) (ms := xs) ha q qs
          have h4 := h3 tp qs htp (by simp)
          have p0 : (0 : Int) < (q :: qs).length := by simp
          have pd : decide (0 < (q :: qs).length) = true := by simp
          have hby := fun m => bytesS_any x q (w.drewN m)
          clear h3 htp hps hp
          generalize hn : (q :: qs).length = np at *
          clear hn
          cases ho : oneS x q with
          | true =>
            have HR : Keep (mat anyS oneS (x :: xs) (q :: qs) = mat anyS oneS xs qs) := ⟨by rw [hres, ho]; rfl⟩
            rw [ho] at hby
            clear hres
            go_enter Try.func56, Try.ntmps56
            go_wp2
            go_quiet ((first | (go_at_call 68; refine (hby _).mono ?_; rintro e w2 ⟨rfl, k2, rfl⟩; exact ⟨rfl, _, World.drewN_drewN _ _ _⟩) | (go_at_call 56; refine (h4 _).mono ?_; rintro e w2 ⟨rfl, k2, rfl⟩; exact ⟨rfl, _, World.drewN_drewN _ _ _⟩)))
            go_wp2
            go_ret
            exact ⟨retB HR.out.symm, _, rfl⟩
          | false =>
            have HR : Keep (mat anyS oneS (x :: xs) (q :: qs) = false) := ⟨by rw [hres, ho]; rfl⟩
            rw [ho] at hby
            clear hres h4
            go_enter Try.func56, Try.ntmps56
            go_wp2
            go_quiet ((go_at_call 68; refine (hby _).mono ?_; rintro e w2 ⟨rfl, k2, rfl⟩; exact ⟨rfl, _, World.drewN_drewN _ _ _⟩))
            go_wp2
            go_ret
            exact ⟨retB HR.out.symm, _, rfl⟩
end Go.Proofs.Ytmeodgcnnjkilaa
