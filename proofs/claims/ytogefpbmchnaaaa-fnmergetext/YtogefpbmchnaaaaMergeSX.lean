/-
  spec.MergeText: the walk.
-/
import Derived.Test.YtogefpbmchnaaaaMergeSW
namespace Go.Proofs.Ytogefpbmchnaaaa
open Go.RowKit

theorem lnB_append (x y : List UInt8) : lnB x ++ lnB y = lnB (x ++ y) := by
  apply ByteArray.ext
  simp [lnB]
theorem lnB_app (x : List UInt8) (y : ByteArray) : lnB x ++ y = lnB (x ++ y.data.toList) := by rw [← lnB_append, lnB_data]

set_option maxRecDepth 20000 in
set_option maxHeartbeats 8000000 in
theorem specMerge_small (sb sa sc : ByteArray) (pa pb : List (Nat × Nat)) (w : World) (h1 : sb.size ≤ 1500) (h2 : sa.size ≤ 1500) (h3 : sc.size ≤ 1500) (hpa : CommT (linesB sb) (linesB sa) pa) (hpb : CommT (linesB sb) (linesB sc) pb) :
    Calls Try.prog 5 #[.string sb, .string sa, .string sc] w fun e w' => e = .returned (mrgV (mergeL (linesB sb) (linesB sa) (linesB sc) pa pb)) ∧ Below w.heap.size w w' := by
  have e1 : decide ((1500 : Int) < sb.size) = false := by simp; omega
  have e2 : decide ((1500 : Int) < sa.size) = false := by simp; omega
  have e3 : decide ((1500 : Int) < sc.size) = false := by simp; omega
  rw [mergeL_spec hpa hpb]
  have cLb := fun W => specLines_any sb W
  have cLa := fun W => specLines_any sa W
  have cLc := fun W => specLines_any sc W
  unfold linesT at cLb cLa cLc
  rw [if_pos h1] at cLb
  rw [if_pos h2] at cLa
  rw [if_pos h3] at cLc
  have nb := linesB_le sb
  have na := linesB_le sa
  have nc := linesB_le sc
  have gb := seg_lines sb
  have ga := seg_lines sa
  have gc := seg_lines sc
  have hlb : ∀ x ∈ linesB sb, x.size ≤ sb.size := fun x hx => line_size hx
  generalize linesB sb = lb at *
  generalize linesB sa = la at *
  generalize linesB sc = lc at *
  have hla := hpa.len
  have hlc := hpb.len
  have hAa := hpa.asc
  have hAb := hpb.asc
  obtain ⟨Z, hZ⟩ : ∃ Z, runS lb la lc (0, 0, 0) (placesP pa pb) (lb.length, la.length, lc.length) = Z := ⟨_, rfl⟩
  rw [hZ]
  have HZ : NKeep (runS lb la lc (0, 0, 0) (placesP pa pb) (lb.length, la.length, lc.length) = Z) := ⟨hZ⟩
  clear hZ
  go_enter Try.func5, Try.ntmps5
  go_wp2_with fail
  refine (cLb _).mono ?_
  rintro e w1 ⟨a1, c1, rfl, o1, b1⟩
  go_wp2_with fail
  refine (cLa _).mono ?_
  rintro e w2 ⟨a2, c2, rfl, o2, b2⟩
  have bx2 := b1.trans (b2.mono b1.size)
  replace o1 := owns_below o1 b2
  go_wp2_with fail
  refine (cLc _).mono ?_
  rintro e w3 ⟨a3, c3, rfl, o3, b3⟩
  have bx3 := bx2.trans (b3.mono bx2.size)
  replace o1 := owns_below o1 b3
  replace o2 := owns_below o2 b3
  clear cLb cLa cLc
  go_wp2_with fail
  refine (specCommon_any a1 a2 c1 c2 lb la pa w3 (rdl_of_row o1).2 (rdl_of_row o2).2 hpa).mono ?_
  rintro e w4 ⟨a4, c4, rfl, o4, b4⟩
  have bx4 := bx3.trans (b4.mono bx3.size)
  replace o1 := owns_below o1 b4
  replace o2 := owns_below o2 b4
  replace o3 := owns_below o3 b4
  go_wp2_with fail
  refine (specCommon_any a1 a3 c1 c3 lb lc pb w4 (rdl_of_row o1).2 (rdl_of_row o3).2 hpb).mono ?_
  rintro e w5 ⟨a5, c5, rfl, o5, b5⟩
  have bx5 := bx4.trans (b5.mono bx4.size)
  obtain ⟨k1, s1⟩ := rdl_of_row (owns_below o1 b5)
  obtain ⟨k2, s2⟩ := rdl_of_row (owns_below o2 b5)
  obtain ⟨k3, s3⟩ := rdl_of_row (owns_below o3 b5)
  have p4 := ps_of_row (owns_below o4 b5)
  have p5 := ps_of_row o5
  clear o1 o2 o3 o4 o5 b1 b2 b3 b4 b5 bx2 bx3 bx4 hpa hpb
  have HAb : NKeep (Asc2 lb lc 0 0 pb) := ⟨hAb⟩
  have hAt0 := At.start (lc := lc) (pb := pb) hAa
  clear hAa hAb
  go_wp2
  go_loopg [13, 14, 15, 16, 17] (lb.length + 2) (fun gk so si sj sk sn wr => ∃ (n i j k j1 : Nat) (out : List UInt8) (R : List (Nat × Nat)), n + gk = lb.length + 2 ∧ so = .string (lnB out) ∧ si = .int .i64 (i : Int) ∧ sj = .int .i64 (j : Int) ∧ sk = .int .i64 (k : Int) ∧ sn = .int .i64 (n : Int) ∧ out.length ≤ 3000 * n ∧
    NKeep ((n ≤ lb.length ∧ At lb la lc pa pb n i j k out R j1) ∨ (n = lb.length + 1 ∧ Z = some out)) ∧ Below w5.heap.size w5 wr)
  case atStart => exact ⟨0, 0, 0, 0, 0, [], pa, by omega, rfl, rfl, rfl, rfl, rfl, Nat.zero_le _, ⟨.inl ⟨Nat.zero_le _, hAt0⟩⟩, Below.refl _ _⟩
  case round =>
    obtain ⟨n, i, j, k, j1, out, R, hgn, rfl, rfl, rfl, rfl, rfl, hol, HA, hB⟩ := hrel
    have hbw : Below w.heap.size w wr := bx5.trans (hB.mono bx5.size)
    rcases HA.out with ⟨hn, hAt⟩ | ⟨hn, hz⟩
    · have s1' := s1.below hB
      have s2' := s2.below hB
      have s3' := s3.below hB
      have p4' := p4.below hB
      have p5' := p5.below hB
      have hin := hAt.i_n
      have cA := fun W h => l7With_any a4 c4 pa n W h hla
      have cB := fun W h => l7With_any a5 c5 pb n W h hlc
      by_cases hlt : n < lb.length
      · have hlt' : (n : Int) < lb.length := by omega
        have hle' : (n : Int) ≤ lb.length := by omega
        cases hwa : withP pa n with
        | none =>
          rw [hwa] at cA
          unfold withV at cA
          have HD : NKeep (At lb la lc pa pb (n + 1) i j k out R j1) := ⟨hAt.skipA hwa⟩
          clear hAt HA
          go_wp2_with fail
          refine (cA _ p4').mono ?_
          rintro e w6 ⟨rfl, rfl⟩
          go_wp2_with fail
          refine (cB _ p5').mono ?_
          rintro e w7 ⟨rfl, rfl⟩
          obtain ⟨yv, hyv⟩ : ∃ yv : Int, withV (withP pb n) = .int .i64 yv := by cases withP pb n <;> exact ⟨_, rfl⟩
          rw [hyv]
          go_wp2
          go_roundg (gk - 1)
          case measure => omega
          case rel => exact ⟨n + 1, i, j, k, j1, out, R, by omega, rfl, rfl, rfl, rfl, by go_num, by omega, ⟨.inl ⟨by omega, HD.out⟩⟩, hB⟩
        | some x =>
          rw [hwa] at cA
          unfold withV at cA
          cases hwb : withP pb n with
          | none =>
            rw [hwb] at cB
            unfold withV at cB
            obtain ⟨R', hD⟩ := hAt.skipB hwa hwb
            have HD : NKeep (At lb la lc pa pb (n + 1) i j k out R' (x + 1)) := ⟨hD⟩
            clear hAt HA hD
            go_wp2_with fail
            refine (cA _ p4').mono ?_
            rintro e w6 ⟨rfl, rfl⟩
            go_wp2_with fail
            refine (cB _ p5').mono ?_
            rintro e w7 ⟨rfl, rfl⟩
            have hx0 : decide ((x : Int) < 0) = false := by simp <;> omega
            go_wp2
            go_roundg (gk - 1)
            case measure => omega
            case rel => exact ⟨n + 1, i, j, k, x + 1, out, R', by omega, rfl, rfl, rfl, rfl, by go_num, by omega, ⟨.inl ⟨by omega, HD.out⟩⟩, hB⟩
          | some y =>
            rw [hwb] at cB
            unfold withV at cB
            obtain ⟨hjx, hxa, hky, hyc, hno, hyes⟩ := hAt.takes HAb.out hwa hwb
            obtain ⟨v1, hsl1, hr1⟩ := mid_at k1 s1' hin (by omega : n ≤ lb.length)
            obtain ⟨v2, hsl2, hr2⟩ := mid_at k2 s2' hjx hxa
            obtain ⟨v3, hsl3, hr3⟩ := mid_at k3 s3' hky hyc
            have HC3 := fun (xl : Later wr) => xl.call (l7Three_any v1 v2 v3 _ _ _ xl.world (hr1.below xl.kept) (hr2.below xl.kept) (hr3.below xl.kept) (by simp; omega) (by simp; omega) (by simp; omega) (Nat.le_trans (gb i n) (by omega)) (Nat.le_trans (ga j x) (by omega)) (Nat.le_trans (gc k y) (by omega)))
            rw [show catL ((lb.take n).drop i) = seg lb i n from rfl, show catL ((la.take x).drop j) = seg la j x from rfl, show catL ((lc.take y).drop k) = seg lc k y from rfl] at HC3
            clear hr1 hr2 hr3
            have hx0 : decide ((x : Int) < 0) = false := by simp <;> omega
            have hy0 : decide ((y : Int) < 0) = false := by simp <;> omega
            have hx0' : ¬ (x : Int) < 0 := by omega
            have hy0' : ¬ (y : Int) < 0 := by omega
            have l2 := ga j x
            have l3 := gc k y
            clear hAt HA
            cases h3v : three (seg lb i n) (seg la j x) (seg lc k y) with
            | none =>
              rw [h3v] at HC3
              have HC : NKeep (∀ x : Later wr, Calls Try.prog 11 #[v1, v2, v3] x.world fun e w'' => e = .returned (.tuple #[.string ⟨#[]⟩, .bool false]) ∧ ∃ y : Later wr, w'' = y.world) := ⟨HC3⟩
              have HF : NKeep (Z = none) := ⟨by rw [← HZ.out]; exact hno h3v⟩
              clear HC3 hno hyes h3v
              go_wp2_with fail
              refine (cA _ p4').mono ?_
              rintro e w6 ⟨rfl, rfl⟩
              go_wp2_with fail
              refine (cB _ p5').mono ?_
              rintro e w7 ⟨rfl, rfl⟩
              go_wp2
              (haveI := later_any; refine wp_region_later (by kernel_rfl) (by kernel_rfl) ?_; (repeat (go_big_quiet_step (exact HC.out _))); refine wpQuiet_nil ?_; intro _ hwq; obtain ⟨xq, hwq2⟩ := hwq; subst hwq2)
              go_wp2
              go_ret2
              rw [HF.out]
              exact ⟨rfl, hbw.trans (xq.kept.mono hbw.size)⟩
            | some s =>
              rw [h3v] at HC3
              have HC : NKeep (∀ x : Later wr, Calls Try.prog 11 #[v1, v2, v3] x.world fun e w'' => e = .returned (.tuple #[.string (lnB s), .bool true]) ∧ ∃ y : Later wr, w'' = y.world) := ⟨HC3⟩
              have hsl := three_le h3v (Nat.le_trans l2 h2) (Nat.le_trans l3 h3)
              obtain ⟨R', hD⟩ := hyes s h3v
              have hlb' := hlb lb[n] (List.getElem_mem hlt)
              rw [List.getElem?_eq_getElem hlt] at hD
              simp only [Option.getD_some] at hD
              have HD : NKeep (At lb la lc pa pb (n + 1) (n + 1) (x + 1) (y + 1) (out ++ (s ++ lb[n].data.toList)) R' (x + 1)) := ⟨hD⟩
              have hz1 : ¬ 9223372036854775807 < (lnB out).size + (lnB s).size := by rw [lnB_size, lnB_size]; omega
              have hz2 : ¬ 9223372036854775807 < (lnB out).size + (lnB s).size + lb[n].size := by rw [lnB_size, lnB_size]; omega
              obtain ⟨bq, oq, rfl, dq⟩ := s1'.at hlt
              have hcn := fun (x : Later wr) => cell_later x.kept (dq n hlt)
              have HO : NKeep (lnB out ++ lnB s ++ lb[n] = lnB (out ++ (s ++ lb[n].data.toList)) ∧ (out ++ (s ++ lb[n].data.toList)).length ≤ 3000 * (n + 1)) := ⟨by rw [lnB_append, lnB_app, List.append_assoc], by simp only [List.length_append, ← Lib.size_eq]; omega⟩
              clear HC3 hno hyes h3v hD dq
              go_wp2_with fail
              refine (cA _ p4').mono ?_
              rintro e w6 ⟨rfl, rfl⟩
              go_wp2_with fail
              refine (cB _ p5').mono ?_
              rintro e w7 ⟨rfl, rfl⟩
              go_wp2
              (haveI := later_any; refine wp_region_later (by kernel_rfl) (by kernel_rfl) ?_; (repeat (go_big_quiet_step (exact HC.out _))); refine wpQuiet_nil ?_; intro _ hwq; obtain ⟨xq, hwq2⟩ := hwq; subst hwq2)
              have hcq := hcn xq
              go_wp2
              go_roundg (gk - 1)
              case measure => omega
              case rel => exact ⟨n + 1, n + 1, x + 1, y + 1, x + 1, out ++ (s ++ lb[n].data.toList), R', by omega, by rw [← HO.out.1], by go_num, by go_num, by go_num, by go_num, HO.out.2, ⟨.inl ⟨by omega, HD.out⟩⟩, hB.trans (xq.kept.mono hB.size)⟩
      · obtain rfl : n = lb.length := by omega
        have hend := hAt.ends
        have hjx := hAt.j_a
        have hky := hAt.k_c
        have hxa : la.length ≤ la.length := Nat.le_refl _
        have hyc : lc.length ≤ lc.length := Nat.le_refl _
        obtain ⟨v1, hsl1, hr1⟩ := mid_at k1 s1' hin (by omega : lb.length ≤ lb.length)
        obtain ⟨v2, hsl2, hr2⟩ := mid_at k2 s2' hjx hxa
        obtain ⟨v3, hsl3, hr3⟩ := mid_at k3 s3' hky hyc
        have HC3 := fun (xl : Later wr) => xl.call (l7Three_any v1 v2 v3 _ _ _ xl.world (hr1.below xl.kept) (hr2.below xl.kept) (hr3.below xl.kept) (by simp; omega) (by simp; omega) (by simp; omega) (Nat.le_trans (gb i lb.length) (by omega)) (Nat.le_trans (ga j la.length) (by omega)) (Nat.le_trans (gc k lc.length) (by omega)))
        rw [show catL ((lb.take lb.length).drop i) = seg lb i lb.length from rfl, show catL ((la.take la.length).drop j) = seg la j la.length from rfl, show catL ((lc.take lc.length).drop k) = seg lc k lc.length from rfl] at HC3
        clear hr1 hr2 hr3
        have hx0 : decide ((la.length : Int) < 0) = false := by simp <;> omega
        have hy0 : decide ((lc.length : Int) < 0) = false := by simp <;> omega
        have l2 := ga j la.length
        have l3 := gc k lc.length
        clear hAt HA cA cB
        cases h3v : three (seg lb i lb.length) (seg la j la.length) (seg lc k lc.length) with
        | none =>
          rw [h3v] at HC3 hend
          have HC : NKeep (∀ x : Later wr, Calls Try.prog 11 #[v1, v2, v3] x.world fun e w'' => e = .returned (.tuple #[.string ⟨#[]⟩, .bool false]) ∧ ∃ y : Later wr, w'' = y.world) := ⟨HC3⟩
          have HF : NKeep (Z = none) := ⟨by rw [← HZ.out, hend]; rfl⟩
          clear HC3 hend h3v
          go_wp2
          (haveI := later_any; refine wp_region_later (by kernel_rfl) (by kernel_rfl) ?_; (repeat (go_big_quiet_step (exact HC.out _))); refine wpQuiet_nil ?_; intro _ hwq; obtain ⟨xq, hwq2⟩ := hwq; subst hwq2)
          go_wp2
          go_ret2
          rw [HF.out]
          exact ⟨rfl, hbw.trans (xq.kept.mono hbw.size)⟩
        | some s =>
          rw [h3v] at HC3 hend
          have HC : NKeep (∀ x : Later wr, Calls Try.prog 11 #[v1, v2, v3] x.world fun e w'' => e = .returned (.tuple #[.string (lnB s), .bool true]) ∧ ∃ y : Later wr, w'' = y.world) := ⟨HC3⟩
          have hsl := three_le h3v (Nat.le_trans l2 h2) (Nat.le_trans l3 h3)
          have HF : NKeep (Z = some (out ++ s)) := ⟨by rw [← HZ.out, hend]; rfl⟩
          have hz1 : ¬ 9223372036854775807 < (lnB out).size + (lnB s).size := by rw [lnB_size, lnB_size]; omega
          have HO : NKeep (lnB out ++ lnB s = lnB (out ++ s) ∧ (out ++ s).length ≤ 3000 * (lb.length + 1)) := ⟨lnB_append _ _, by simp only [List.length_append]; omega⟩
          clear HC3 hend h3v
          go_wp2
          (haveI := later_any; refine wp_region_later (by kernel_rfl) (by kernel_rfl) ?_; (repeat (go_big_quiet_step (exact HC.out _))); refine wpQuiet_nil ?_; intro _ hwq; obtain ⟨xq, hwq2⟩ := hwq; subst hwq2)
          go_wp2
          go_roundg (gk - 1)
          case measure => omega
          case rel => exact ⟨lb.length + 1, lb.length + 1, la.length + 1, lc.length + 1, 0, out ++ s, R, by omega, by rw [← HO.out.1], by go_num, by go_num, by go_num, by go_num, HO.out.2, ⟨.inr ⟨rfl, HF.out⟩⟩, hB.trans (xq.kept.mono hB.size)⟩
    · subst hn
      have HZ2 : NKeep (Z = some out) := ⟨hz⟩
      clear hz
      go_wp2
      go_ret2
      rw [HZ2.out]
      exact ⟨rfl, hbw⟩
end Go.Proofs.Ytogefpbmchnaaaa
