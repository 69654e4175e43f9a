/-
  MergeSX, StandI, JoinB, LinesIt, LinesI, MergeI, MText, MSym, WTr, WTx, WMg: laid as one text.
-/
import Derived.Test.YtjiafjdjocmodaaGreatZbc
import Derived.Deep.RegionLaw
import Derived.Test.YtjiafjdjocmodaaGreatRows
import Derived.Shelf.Strings.OnBuilder
import Derived.Shelf.Strings.BuilderK
import Derived.WalkKit
import Derived.RangeFuncNested
import Derived.RangeFuncBound
import Derived.RangeFuncCalls
import Derived.RangeFuncLeaves
import Derived.RangeFuncFrom
import Derived.Shelf.Abstract
import Derived.Shelf.RegionOpen
import Derived.OwnWalkIn
import Derived.TacticsInMore
import Derived.LoopNIn
import Derived.LoopIn
import Derived.Lib.Bytealg
import Derived.Laws.Externs
import Derived.RangeFuncBox
import Derived.Maps.AppendAt
import Derived.Test.YtjiafjdjocmodaaGreatBase
import Derived.Test.YtjiafjdjocmodaaGreatStrsB
import Derived.Test.YtjiafjdjocmodaaGreatZbe
import Derived.Test.YtjiafjdjocmodaaGreatDrawPth
import Derived.Test.YtjiafjdjocmodaaGreatEntB
import Derived.Test.YtjiafjdjocmodaaGreatLaterQ
import Derived.Deep.DeepCutAuto
import Derived.WalkSpells
import Derived.Deep.QuietTactic
import Derived.BigQuiet
import Derived.Test.YtjiafjdjocmodaaGreatMgS
namespace Go.Proofs.YtjiafjdjocmodaaGreat
open Go.RowKit

theorem lnB_append (x y : List UInt8) : lnB x ++ lnB y = lnB (x ++ y) := by
  apply ByteArray.ext
  simp [lnB]
theorem lnB_app (x : List UInt8) (y : ByteArray) : lnB x ++ y = lnB (x ++ y.data.toList) := by rw [← lnB_append, lnB_data]

set_option maxRecDepth 20000 in
set_option maxHeartbeats 8000000 in
theorem specMerge_small (sb sa sc : ByteArray) (pa pb : List (Nat × Nat)) (w : World) (h1 : sb.size ≤ 1500) (h2 : sa.size ≤ 1500) (h3 : sc.size ≤ 1500) (hpa : CommT (linesB sb) (linesB sa) pa) (hpb : CommT (linesB sb) (linesB sc) pb) :
    Calls Tryz.prog 68 #[.string sb, .string sa, .string sc] w fun e w' => e = .returned (mrgV (mergeL (linesB sb) (linesB sa) (linesB sc) pa pb)) ∧ Below w.heap.size w w' := by
  have e1 : decide ((1500 : Int) < sb.size) = false := by simp; omega
  have e2 : decide ((1500 : Int) < sa.size) = false := by simp; omega
  have e3 : decide ((1500 : Int) < sc.size) = false := by simp; omega
  rw [mergeL_spec hpa hpb]
  have cLb := fun W => specLines_any sb W
  have cLa := fun W => specLines_any sa W
  have cLc := fun W => specLines_any sc W
  unfold linesT at cLb cLa cLc
  rw [if_pos h1] at cLb
  rw [if_pos h2] at cLa
  rw [if_pos h3] at cLc
  have nb := linesB_le sb
  have na := linesB_le sa
  have nc := linesB_le sc
  have gb := seg_lines sb
  have ga := seg_lines sa
  have gc := seg_lines sc
  have hlb : ∀ x ∈ linesB sb, x.size ≤ sb.size := fun x hx => line_size hx
  generalize linesB sb = lb at *
  generalize linesB sa = la at *
  generalize linesB sc = lc at *
  have hla := hpa.len
  have hlc := hpb.len
  have hAa := hpa.asc
  have hAb := hpb.asc
  obtain ⟨Z, hZ⟩ : ∃ Z, runS lb la lc (0, 0, 0) (placesP pa pb) (lb.length, la.length, lc.length) = Z := ⟨_, rfl⟩
  rw [hZ]
  have HZ : NKeep (runS lb la lc (0, 0, 0) (placesP pa pb) (lb.length, la.length, lc.length) = Z) := ⟨hZ⟩
  clear hZ
  go_enter Tryz.func68, Tryz.ntmps68
  go_wp2_with fail
  refine (cLb _).mono ?_
  rintro e w1 ⟨a1, c1, rfl, o1, b1⟩
  go_wp2_with fail
  refine (cLa _).mono ?_
  rintro e w2 ⟨a2, c2, rfl, o2, b2⟩
  have bx2 := b1.trans (b2.mono b1.size)
  replace o1 := owns_below o1 b2
  go_wp2_with fail
  refine (cLc _).mono ?_
  rintro e w3 ⟨a3, c3, rfl, o3, b3⟩
  have bx3 := bx2.trans (b3.mono bx2.size)
  replace o1 := owns_below o1 b3
  replace o2 := owns_below o2 b3
  clear cLb cLa cLc
  go_wp2_with fail
  refine (specCommon_any a1 a2 c1 c2 lb la pa w3 (rdl_of_row o1).2 (rdl_of_row o2).2 hpa).mono ?_
  rintro e w4 ⟨a4, c4, rfl, o4, b4⟩
  have bx4 := bx3.trans (b4.mono bx3.size)
  replace o1 := owns_below o1 b4
  replace o2 := owns_below o2 b4
  replace o3 := owns_below o3 b4
  go_wp2_with fail
  refine (specCommon_any a1 a3 c1 c3 lb lc pb w4 (rdl_of_row o1).2 (rdl_of_row o3).2 hpb).mono ?_
  rintro e w5 ⟨a5, c5, rfl, o5, b5⟩
  have bx5 := bx4.trans (b5.mono bx4.size)
  obtain ⟨k1, s1⟩ := rdl_of_row (owns_below o1 b5)
  obtain ⟨k2, s2⟩ := rdl_of_row (owns_below o2 b5)
  obtain ⟨k3, s3⟩ := rdl_of_row (owns_below o3 b5)
  have p4 := ps_of_row (owns_below o4 b5)
  have p5 := ps_of_row o5
  clear o1 o2 o3 o4 o5 b1 b2 b3 b4 b5 bx2 bx3 bx4 hpa hpb
  have HAb : NKeep (Asc2 lb lc 0 0 pb) := ⟨hAb⟩
  have hAt0 := At.start (lc := lc) (pb := pb) hAa
  clear hAa hAb
  go_wp2
  go_loopg [13, 14, 15, 16, 17] (lb.length + 2) (fun gk so si sj sk sn wr => ∃ (n i j k j1 : Nat) (out : List UInt8) (R : List (Nat × Nat)), n + gk = lb.length + 2 ∧ so = .string (lnB out) ∧ si = .int .i64 (i : Int) ∧ sj = .int .i64 (j : Int) ∧ sk = .int .i64 (k : Int) ∧ sn = .int .i64 (n : Int) ∧ out.length ≤ 3000 * n ∧
    NKeep ((n ≤ lb.length ∧ At lb la lc pa pb n i j k out R j1) ∨ (n = lb.length + 1 ∧ Z = some out)) ∧ Below w5.heap.size w5 wr)
  case atStart => exact ⟨0, 0, 0, 0, 0, [], pa, by omega, rfl, rfl, rfl, rfl, rfl, Nat.zero_le _, ⟨.inl ⟨Nat.zero_le _, hAt0⟩⟩, Below.refl _ _⟩
  case round =>
    obtain ⟨n, i, j, k, j1, out, R, hgn, rfl, rfl, rfl, rfl, rfl, hol, HA, hB⟩ := hrel
    have hbw : Below w.heap.size w wr := bx5.trans (hB.mono bx5.size)
    rcases HA.out with ⟨hn, hAt⟩ | ⟨hn, hz⟩
    · have s1' := s1.below hB
      have s2' := s2.below hB
      have s3' := s3.below hB
      have p4' := p4.below hB
      have p5' := p5.below hB
      have hin := hAt.i_n
      have cA := fun W h => l7With_any a4 c4 pa n W h hla
      have cB := fun W h => l7With_any a5 c5 pb n W h hlc
      by_cases hlt : n < lb.length
      · have hlt' : (n : Int) < lb.length := by omega
        have hle' : (n : Int) ≤ lb.length := by omega
        cases hwa : withP pa n with
        | none =>
          rw [hwa] at cA
          unfold withV at cA
          have HD : NKeep (At lb la lc pa pb (n + 1) i j k out R j1) := ⟨hAt.skipA hwa⟩
          clear hAt HA
          go_wp2_with fail
          refine (cA _ p4').mono ?_
          rintro e w6 ⟨rfl, rfl⟩
          go_wp2_with fail
          refine (cB _ p5').mono ?_
          rintro e w7 ⟨rfl, rfl⟩
          obtain ⟨yv, hyv⟩ : ∃ yv : Int, withV (withP pb n) = .int .i64 yv := by cases withP pb n <;> exact ⟨_, rfl⟩
          rw [hyv]
          go_wp2
          go_roundg (gk - 1)
          case measure => omega
          case rel => exact ⟨n + 1, i, j, k, j1, out, R, by omega, rfl, rfl, rfl, rfl, by go_num, by omega, ⟨.inl ⟨by omega, HD.out⟩⟩, hB⟩
        | some x =>
          rw [hwa] at cA
          unfold withV at cA
          cases hwb : withP pb n with
          | none =>
            rw [hwb] at cB
            unfold withV at cB
            obtain ⟨R', hD⟩ := hAt.skipB hwa hwb
            have HD : NKeep (At lb la lc pa pb (n + 1) i j k out R' (x + 1)) := ⟨hD⟩
            clear hAt HA hD
            go_wp2_with fail
            refine (cA _ p4').mono ?_
            rintro e w6 ⟨rfl, rfl⟩
            go_wp2_with fail
            refine (cB _ p5').mono ?_
            rintro e w7 ⟨rfl, rfl⟩
            have hx0 : decide ((x : Int) < 0) = false := by simp <;> omega
            go_wp2
            go_roundg (gk - 1)
            case measure => omega
            case rel => exact ⟨n + 1, i, j, k, x + 1, out, R', by omega, rfl, rfl, rfl, rfl, by go_num, by omega, ⟨.inl ⟨by omega, HD.out⟩⟩, hB⟩
          | some y =>
            rw [hwb] at cB
            unfold withV at cB
            obtain ⟨hjx, hxa, hky, hyc, hno, hyes⟩ := hAt.takes HAb.out hwa hwb
            obtain ⟨v1, hsl1, hr1⟩ := mid_at k1 s1' hin (by omega : n ≤ lb.length)
            obtain ⟨v2, hsl2, hr2⟩ := mid_at k2 s2' hjx hxa
            obtain ⟨v3, hsl3, hr3⟩ := mid_at k3 s3' hky hyc
            have HC3 := fun (xl : Later wr) => xl.call (l7Three_any v1 v2 v3 _ _ _ xl.world (hr1.below xl.kept) (hr2.below xl.kept) (hr3.below xl.kept) (by simp; omega) (by simp; omega) (by simp; omega) (Nat.le_trans (gb i n) (by omega)) (Nat.le_trans (ga j x) (by omega)) (Nat.le_trans (gc k y) (by omega)))
            rw [show catL ((lb.take n).drop i) = seg lb i n from rfl, show catL ((la.take x).drop j) = seg la j x from rfl, show catL ((lc.take y).drop k) = seg lc k y from rfl] at HC3
            clear hr1 hr2 hr3
            have hx0 : decide ((x : Int) < 0) = false := by simp <;> omega
            have hy0 : decide ((y : Int) < 0) = false := by simp <;> omega
            have hx0' : ¬ (x : Int) < 0 := by omega
            have hy0' : ¬ (y : Int) < 0 := by omega
            have l2 := ga j x
            have l3 := gc k y
            clear hAt HA
            cases h3v : three (seg lb i n) (seg la j x) (seg lc k y) with
            | none =>
              rw [h3v] at HC3
              have HC : NKeep (∀ x : Later wr, Calls Tryz.prog 91 #[v1, v2, v3] x.world fun e w'' => e = .returned (.tuple #[.string ⟨#[]⟩, .bool false]) ∧ ∃ y : Later wr, w'' = y.world) := ⟨HC3⟩
              have HF : NKeep (Z = none) := ⟨by rw [← HZ.out]; exact hno h3v⟩
              clear HC3 hno hyes h3v
              go_wp2_with fail
              refine (cA _ p4').mono ?_
              rintro e w6 ⟨rfl, rfl⟩
              go_wp2_with fail
              refine (cB _ p5').mono ?_
              rintro e w7 ⟨rfl, rfl⟩
              go_wp2
              (haveI := later_any; refine wp_region_later (by kernel_rfl) (by kernel_rfl) ?_; (repeat (go_big_quiet_step (exact HC.out _))); refine wpQuiet_nil ?_; intro _ hwq; obtain ⟨xq, hwq2⟩ := hwq; subst hwq2)
              go_wp2
              go_ret2
              rw [HF.out]
              exact ⟨rfl, hbw.trans (xq.kept.mono hbw.size)⟩
            | some s =>
              rw [h3v] at HC3
              have HC : NKeep (∀ x : Later wr, Calls Tryz.prog 91 #[v1, v2, v3] x.world fun e w'' => e = .returned (.tuple #[.string (lnB s), .bool true]) ∧ ∃ y : Later wr, w'' = y.world) := ⟨HC3⟩
              have hsl := three_le h3v (Nat.le_trans l2 h2) (Nat.le_trans l3 h3)
              obtain ⟨R', hD⟩ := hyes s h3v
              have hlb' := hlb lb[n] (List.getElem_mem hlt)
              rw [List.getElem?_eq_getElem hlt] at hD
              simp only [Option.getD_some] at hD
              have HD : NKeep (At lb la lc pa pb (n + 1) (n + 1) (x + 1) (y + 1) (out ++ (s ++ lb[n].data.toList)) R' (x + 1)) := ⟨hD⟩
              have hz1 : ¬ 9223372036854775807 < (lnB out).size + (lnB s).size := by rw [lnB_size, lnB_size]; omega
              have hz2 : ¬ 9223372036854775807 < (lnB out).size + (lnB s).size + lb[n].size := by rw [lnB_size, lnB_size]; omega
              obtain ⟨bq, oq, rfl, dq⟩ := s1'.at hlt
              have hcn := fun (x : Later wr) => cell_later x.kept (dq n hlt)
              have HO : NKeep (lnB out ++ lnB s ++ lb[n] = lnB (out ++ (s ++ lb[n].data.toList)) ∧ (out ++ (s ++ lb[n].data.toList)).length ≤ 3000 * (n + 1)) := ⟨by rw [lnB_append, lnB_app, List.append_assoc], by simp only [List.length_append, ← Lib.size_eq]; omega⟩
              clear HC3 hno hyes h3v hD dq
              go_wp2_with fail
              refine (cA _ p4').mono ?_
              rintro e w6 ⟨rfl, rfl⟩
              go_wp2_with fail
              refine (cB _ p5').mono ?_
              rintro e w7 ⟨rfl, rfl⟩
              go_wp2
              (haveI := later_any; refine wp_region_later (by kernel_rfl) (by kernel_rfl) ?_; (repeat (go_big_quiet_step (exact HC.out _))); refine wpQuiet_nil ?_; intro _ hwq; obtain ⟨xq, hwq2⟩ := hwq; subst hwq2)
              have hcq := hcn xq
              go_wp2
              go_roundg (gk - 1)
              case measure => omega
              case rel => exact ⟨n + 1, n + 1, x + 1, y + 1, x + 1, out ++ (s ++ lb[n].data.toList), R', by omega, by rw [← HO.out.1], by go_num, by go_num, by go_num, by go_num, HO.out.2, ⟨.inl ⟨by omega, HD.out⟩⟩, hB.trans (xq.kept.mono hB.size)⟩
      · obtain rfl : n = lb.length := by omega
        have hend := hAt.ends
        have hjx := hAt.j_a
        have hky := hAt.k_c
        have hxa : la.length ≤ la.length := Nat.le_refl _
        have hyc : lc.length ≤ lc.length := Nat.le_refl _
        obtain ⟨v1, hsl1, hr1⟩ := mid_at k1 s1' hin (by omega : lb.length ≤ lb.length)
        obtain ⟨v2, hsl2, hr2⟩ := mid_at k2 s2' hjx hxa
        obtain ⟨v3, hsl3, hr3⟩ := mid_at k3 s3' hky hyc
        have HC3 := fun (xl : Later wr) => xl.call (l7Three_any v1 v2 v3 _ _ _ xl.world (hr1.below xl.kept) (hr2.below xl.kept) (hr3.below xl.kept) (by simp; omega) (by simp; omega) (by simp; omega) (Nat.le_trans (gb i lb.length) (by omega)) (Nat.le_trans (ga j la.length) (by omega)) (Nat.le_trans (gc k lc.length) (by omega)))
        rw [show catL ((lb.take lb.length).drop i) = seg lb i lb.length from rfl, show catL ((la.take la.length).drop j) = seg la j la.length from rfl, show catL ((lc.take lc.length).drop k) = seg lc k lc.length from rfl] at HC3
        clear hr1 hr2 hr3
        have hx0 : decide ((la.length : Int) < 0) = false := by simp <;> omega
        have hy0 : decide ((lc.length : Int) < 0) = false := by simp <;> omega
        have l2 := ga j la.length
        have l3 := gc k lc.length
        clear hAt HA cA cB
        cases h3v : three (seg lb i lb.length) (seg la j la.length) (seg lc k lc.length) with
        | none =>
          rw [h3v] at HC3 hend
          have HC : NKeep (∀ x : Later wr, Calls Tryz.prog 91 #[v1, v2, v3] x.world fun e w'' => e = .returned (.tuple #[.string ⟨#[]⟩, .bool false]) ∧ ∃ y : Later wr, w'' = y.world) := ⟨HC3⟩
          have HF : NKeep (Z = none) := ⟨by rw [← HZ.out, hend]; rfl⟩
          clear HC3 hend h3v
          go_wp2
          (haveI := later_any; refine wp_region_later (by kernel_rfl) (by kernel_rfl) ?_; (repeat (go_big_quiet_step (exact HC.out _))); refine wpQuiet_nil ?_; intro _ hwq; obtain ⟨xq, hwq2⟩ := hwq; subst hwq2)
          go_wp2
          go_ret2
          rw [HF.out]
          exact ⟨rfl, hbw.trans (xq.kept.mono hbw.size)⟩
        | some s =>
          rw [h3v] at HC3 hend
          have HC : NKeep (∀ x : Later wr, Calls Tryz.prog 91 #[v1, v2, v3] x.world fun e w'' => e = .returned (.tuple #[.string (lnB s), .bool true]) ∧ ∃ y : Later wr, w'' = y.world) := ⟨HC3⟩
          have hsl := three_le h3v (Nat.le_trans l2 h2) (Nat.le_trans l3 h3)
          have HF : NKeep (Z = some (out ++ s)) := ⟨by rw [← HZ.out, hend]; rfl⟩
          have hz1 : ¬ 9223372036854775807 < (lnB out).size + (lnB s).size := by rw [lnB_size, lnB_size]; omega
          have HO : NKeep (lnB out ++ lnB s = lnB (out ++ s) ∧ (out ++ s).length ≤ 3000 * (lb.length + 1)) := ⟨lnB_append _ _, by simp only [List.length_append]; omega⟩
          clear HC3 hend h3v
          go_wp2
          (haveI := later_any; refine wp_region_later (by kernel_rfl) (by kernel_rfl) ?_; (repeat (go_big_quiet_step (exact HC.out _))); refine wpQuiet_nil ?_; intro _ hwq; obtain ⟨xq, hwq2⟩ := hwq; subst hwq2)
          go_wp2
          go_roundg (gk - 1)
          case measure => omega
          case rel => exact ⟨lb.length + 1, lb.length + 1, la.length + 1, lc.length + 1, 0, out ++ s, R, by omega, by rw [← HO.out.1], by go_num, by go_num, by go_num, by go_num, HO.out.2, ⟨.inr ⟨rfl, HF.out⟩⟩, hB.trans (xq.kept.mono hB.size)⟩
    · subst hn
      have HZ2 : NKeep (Z = some out) := ⟨hz⟩
      clear hz
      go_wp2
      go_ret2
      rw [HZ2.out]
      exact ⟨rfl, hbw⟩
end Go.Proofs.YtjiafjdjocmodaaGreat

namespace Go.Proofs.YtjiafjdjocmodaaGreat
open Go.RowKit

/-- Places as cells. -/
def plC (ts : List Pl) : List Value := ts.flatMap fun t => [Value.int .i64 (t.1 : Int), Value.int .i64 (t.2.1 : Int), Value.int .i64 (t.2.2 : Int)]
theorem plC_snoc (ts : List Pl) (x y z : Nat) : plC (ts ++ [(x, y, z)]) = plC ts ++ [Value.int .i64 (x : Int), Value.int .i64 (y : Int), Value.int .i64 (z : Int)] := by simp [plC]
theorem Tryz.infoPlace : (Tryz.prog.info? 112).map (fun i => (i.zero, i.size, i.bytes)) = some (some (.agg #[.int .i64 0, .int .i64 0, .int .i64 0]), 3, 24) := by kernel_rfl

set_option maxHeartbeats 1000000 in
theorem choose_any (x y z : ByteArray) (w : World) :
    Calls Tryz.prog 83 #[.string x, .string y, .string z] w fun e w' => e = .returned (match three x.data.toList y.data.toList z.data.toList with
      | none => .tuple #[.string ⟨#[]⟩, .bool false]
      | some s => .tuple #[.string (lnB s), .bool true]) ∧ w' = w := by
  have hne : ∀ {a b : ByteArray}, ¬ a.data.toList = b.data.toList → (a.toList == b.toList) = false := fun h => bs_diff (fun e => h (by rw [e]))
  have hqe : ∀ {a b : ByteArray}, a.data.toList = b.data.toList → (a.toList == b.toList) = true := fun {a b} h => bs_same (by rw [← lnB_data a, h, lnB_data])
  unfold three
  by_cases h1 : y.data.toList = x.data.toList
  · have e1 := hqe h1
    rw [if_pos h1]
    simp only [lnB_data]
    clear h1 hne hqe
    go_enter Tryz.func83, Tryz.ntmps83
    go_wp2
    go_ret2
    exact ⟨rfl, rfl⟩
  · have e1 := hne h1
    rw [if_neg h1]
    by_cases h2 : z.data.toList = x.data.toList
    · have e2 := hqe h2
      rw [if_pos (.inl h2)]
      simp only [lnB_data]
      clear h1 h2 hne hqe
      go_enter Tryz.func83, Tryz.ntmps83
      go_wp2
      go_ret2
      exact ⟨rfl, rfl⟩
    · have e2 := hne h2
      by_cases h3 : z.data.toList = y.data.toList
      · have e3 := hqe h3
        rw [if_pos (.inr h3)]
        simp only [lnB_data]
        clear h1 h2 h3 hne hqe
        go_enter Tryz.func83, Tryz.ntmps83
        go_wp2
        go_ret2
        exact ⟨rfl, rfl⟩
      · have e3 := hne h3
        rw [if_neg (by rintro (h | h) <;> contradiction)]
        clear h1 h2 h3 hne hqe
        go_enter Tryz.func83, Tryz.ntmps83
        go_wp2
        go_ret2
        exact ⟨rfl, rfl⟩
/-- A slice of pairs that is read. -/
structure RdP (w : World) (v : Value) (ps : List (Nat × Nat)) : Prop where
  at_ : ∃ a cap, v = .slice a ps.length cap ∧ ps.length ≤ cap ∧ PS w a ps
theorem RdP.below {w w' : World} {v : Value} {ps : List (Nat × Nat)} (h : RdP w v ps) (hb : Below w.heap.size w w') : RdP w' v ps := by
  obtain ⟨a, cap, e, hc, hp⟩ := h.at_
  exact ⟨a, cap, e, hc, hp.below hb⟩

set_option maxRecDepth 100000 in
/-- What is behind the first pair of a slice. -/
theorem tailP_at {w : World} {a : Option Addr} {cap : Nat} {x : Nat × Nat} {xs : List (Nat × Nat)} (hc : (x :: xs).length ≤ cap) (h : PS w a (x :: xs)) :
    ∃ v, (∀ w1, (Instr.sliceAt 109 (.slice a (x :: xs).length cap) (some (.int .i64 1)) none none).run Tryz.prog w1 = .ok v w1) ∧ RdP w v xs ∧
      ∃ b o, a = some ⟨b, o, none⟩ ∧ PAt w b o x := by
  obtain ⟨b, o, rfl, hcell⟩ := h.at (k := 0) (by simp)
  refine ⟨sliced (some ⟨b, o, none⟩) 1 (x :: xs).length cap 2, fun w1 => ?_, ⟨?_⟩, b, o, rfl, by have := hcell 0 (by simp); simpa using this⟩
  · rw [run_sliceAt_slice w1 _ _ _ _ _ Tryz.underlying109, run_slice_l w1 _ _ _ _ Tryz.underlying109 .i64 1 (by omega) (by simp; omega)]
    have hz : (sizeOf (Tryz.prog.elem 109)).run Tryz.prog w1 = .ok 2 w1 := by kernel_rfl
    rw [hz]
    rfl
  · refine ⟨if cap = 1 then some ⟨b, o, none⟩ else some ⟨b, o + 2, none⟩, cap - 1, ?_, by simp at hc; omega, ?_⟩
    · unfold sliced
      split <;> rfl
    · by_cases h1 : cap = 1
      · left
        have : xs.length = 0 := by simp at hc; omega
        exact List.eq_nil_of_length_eq_zero this
      · right
        refine ⟨b, o + 2, by rw [if_neg h1], fun i hi => ?_⟩
        have := hcell (i + 1) (by simp; omega)
        rw [show o + 2 + i * 2 = o + (i + 1) * 2 by omega]
        exact this

theorem placesP_take {pa pb : List (Nat × Nat)} {k : Nat} (h : k < pa.length) : placesP (pa.take (k + 1)) pb = placesP (pa.take k) pb ++ (match withP pb pa[k].1 with
    | none => []
    | some y => [(pa[k].1, pa[k].2, y)]) := by
  unfold placesP
  rw [List.take_succ_eq_append_getElem h, List.filterMap_append]
  congr 1
  cases hw : withP pb pa[k].1 <;> simp [hw]

def PlacesPost (ts : List Pl) (w : World) (e : Ending) (w' : World) : Prop :=
  ∃ ad cp, e = .returned (.slice ad ts.length cp) ∧ w'.ownsRow w.heap.size 112 3 (.slice ad ts.length cp) ts.length (plC ts) ∧ Below w.heap.size w w'

set_option maxRecDepth 20000 in
set_option maxHeartbeats 8000000 in
theorem standing_any (lb la lc : List ByteArray) (pa pb : List (Nat × Nat)) (a1 : Option Addr) (c1 : Nat) (v2 : Value) (w : World) (h1 : PS w a1 pa) (h2 : RdP w v2 pb) (hA : Asc2 lb la 0 0 pa) (hB : Asc2 lb lc 0 0 pb) (hm : pa.length ≤ 1500) (hn : pb.length ≤ 1500) :
    Calls Tryz.prog 81 #[.slice a1 pa.length c1, v2] w fun e w' => PlacesPost (placesP pa pb) w e w' := by
  obtain ⟨ti, hti, hz0, hz1, hz2⟩ := info_parts Tryz.infoPlace
  go_enter Tryz.func81, Tryz.ntmps81
  go_wp2
  go_loopw [5, 6, 12] (fun v rs ix wr => ∃ (k i j ii jj : Nat) (R : List (Nat × Nat)), k ≤ pa.length ∧ ix = .int .i64 (k : Int) ∧ NKeep (Asc2 lb la i j (pa.drop k) ∧ Asc2 lb lc ii jj R ∧ (∀ n, i ≤ n → withP pb n = withP R n)) ∧ R.length ≤ 1500 ∧ RdP w rs R ∧
    wr.ownsRow w.heap.size 112 3 v (placesP (pa.take k) pb).length (plC (placesP (pa.take k) pb)) ∧ Below w.heap.size w wr) (fun _ _ ix _ => pa.length - (intOf ix).toNat)
  case atStart => exact ⟨0, 0, 0, 0, 0, pb, Nat.zero_le _, rfl, ⟨hA, hB, fun _ _ => rfl⟩, hn, h2, by rw [List.take_zero]; exact World.ownsRow_nil _ _ _ _, Below.refl _ _⟩
  case round =>
    obtain ⟨k, i, j, ii, jj, R, hk, rfl, HK, hRl, hR, hrow, hb⟩ := hrel
    by_cases hlt : k < pa.length
    · obtain ⟨b, off, rfl, hc⟩ := (h1.below hb).at hlt
      obtain ⟨x0, x1⟩ := hc k hlt
      have HT : NKeep (placesP (pa.take (k + 1)) pb = placesP (pa.take k) pb ++ (match withP pb pa[k].1 with
        | none => []
        | some y => [(pa[k].1, pa[k].2, y)])) := ⟨placesP_take hlt⟩
      have hpl := placesP_len (pa.take k) pb
      have hpl2 : (placesP (pa.take k) pb).length ≤ 1500 := by simp at hpl; omega
      have HA : NKeep (i ≤ pa[k].1 ∧ Asc2 lb la (pa[k].1 + 1) (pa[k].2 + 1) (pa.drop (k + 1))) := ⟨by
        have h := HK.out.1
        rw [List.drop_eq_getElem_cons hlt] at h
        exact ⟨h.1, h.2.2.2.2.2⟩⟩
      have HB : NKeep (Asc2 lb lc ii jj R ∧ (∀ n, pa[k].1 ≤ n → withP pb n = withP R n)) := ⟨HK.out.2.1, fun n hn => HK.out.2.2 n (Nat.le_trans HA.out.1 hn)⟩
      clear hc hpl HK h1 h2
      obtain ⟨pi, hpi⟩ : ∃ pi, pa[k].1 = pi := ⟨_, rfl⟩
      obtain ⟨pj, hpj⟩ : ∃ pj, pa[k].2 = pj := ⟨_, rfl⟩
      rw [hpi, hpj] at HT HA
      rw [hpi] at HB x0
      rw [hpj] at x1
      obtain ⟨ts, hts⟩ : ∃ ts, placesP (pa.take k) pb = ts := ⟨_, rfl⟩
      rw [hts] at HT hpl2 hrow
      go_wp2
      obtain ⟨q8, hq8⟩ : ∃ q8, wr.heap.size = q8 := ⟨_, rfl⟩
      obtain ⟨W1, hW1⟩ : ∃ W1, wr.alloc (.cells #[.int .i64 (pi : Int), .int .i64 (pj : Int)] 146) = W1 := ⟨_, rfl⟩
      have hb1 : Below wr.heap.size wr W1 := by rw [← hW1]; exact (Below.refl _ _).alloc (Nat.le_refl _) _
      have hp8 : W1.heap[q8]? = some (.cells #[.int .i64 (pi : Int), .int .i64 (pj : Int)] 146) := by rw [← hW1, ← hq8]; exact heap_alloc_new wr _
      have hrow1 := owns_below hrow hb1
      have hbw1 : Below w.heap.size w W1 := hb.trans (hb1.mono hb.size)
      have hs8 : q8 < W1.heap.size := (Array.getElem?_eq_some_iff.1 hp8).1
      rw [hq8, hW1]
      clear hrow hb hb1 hW1 hq8 x0 x1
      go_loopg [6] R.length (fun g2 rs wr => ∃ (ii jj : Nat) (R2 : List (Nat × Nat)), R2.length = g2 ∧ R2.length ≤ 1500 ∧ NKeep (Asc2 lb lc ii jj R2 ∧ (∀ n, pi ≤ n → withP pb n = withP R2 n)) ∧ RdP w rs R2 ∧ Below W1.heap.size W1 wr)
      case atStart => exact ⟨ii, jj, R, rfl, hRl, HB, hR, Below.refl _ _⟩
      case round =>
        obtain ⟨i2, j2, R2, hgl, hRl2, HB2, hR2, hBi⟩ := hrel
        have hp8r := (hBi.block q8 hs8).trans hp8
        have z0 : wr.cell? ⟨q8, 0, none⟩ = some (.int .i64 (pi : Int)) := by simp [World.cell?, hp8r]
        have z1 : wr.cell? ⟨q8, 1, none⟩ = some (.int .i64 (pj : Int)) := by simp [World.cell?, hp8r]
        have hbwi : Below w.heap.size w wr := hbw1.trans (hBi.mono hbw1.size)
        have hrowi := owns_below hrow1 hBi
        obtain ⟨a2, c2, rfl, hc2, hp2⟩ := hR2.at_
        cases R2 with
        | nil =>
          have HW : NKeep (placesP (pa.take (k + 1)) pb = ts) := ⟨by rw [HT.out, HB2.out.2 pi (Nat.le_refl _)]; simp [withP]⟩
          rw [show (([] : List (Nat × Nat)).length) = 0 from rfl]
          have e0 : decide ((0 : Int) < ((0 : Nat) : Int)) = false := by decide
          go_wp2
          go_region
          all_goals (try go_wp2)
          go_region
          all_goals (try go_wp2)
          go_roundw
          case rel =>
            refine ⟨k + 1, pi + 1, pj + 1, i2, j2, [], by omega, by go_num, ⟨HA.out.2, HB2.out.1, fun n hn => HB2.out.2 n (by omega)⟩, by simp, ⟨a2, c2, rfl, hc2, .inl rfl⟩, ?_, hbwi.drew.drew⟩
            rw [HW.out]; exact hrowi
          case measure => simp [intOf]; omega
        | cons q R3 =>
          obtain ⟨vt, hsl, hRt, b2, o2, rfl, y0', y1'⟩ := tailP_at hc2 hp2
          have y0 := cell_later hbwi y0'
          have y1 := cell_later hbwi y1'
          clear y0' y1'
          obtain ⟨qi, hqi⟩ : ∃ qi, q.1 = qi := ⟨_, rfl⟩
          obtain ⟨qj, hqj⟩ : ∃ qj, q.2 = qj := ⟨_, rfl⟩
          rw [hqi] at y0
          rw [hqj] at y1
          have hlen : (q :: R3).length = R3.length + 1 := rfl
          rw [hlen] at hsl hc2 hRl2 hgl ⊢
          obtain ⟨n2, hn2⟩ : ∃ n2, n2 = R3.length + 1 := ⟨_, rfl⟩
          rw [← hn2] at hsl hc2 hRl2 hgl ⊢
          have HN2 : NKeep (n2 = R3.length + 1) := ⟨hn2⟩
          have hn0 : 0 < n2 := by omega
          have e0 : decide (0 < n2) = true := by simp; omega
          have HGL : NKeep (n2 = gk) := ⟨hgl⟩
          clear hn2 hlen hgl
          have hr3 := HB2.out.1.2.2.2.2.2
          by_cases hqp : qi < pi
          · have HB3 : NKeep (Asc2 lb lc (qi + 1) (qj + 1) R3 ∧ (∀ n, pi ≤ n → withP pb n = withP R3 n)) := ⟨by rw [← hqi, ← hqj]; exact hr3, fun n hn => by rw [HB2.out.2 n hn, withP, if_neg (by omega)]⟩
            clear hr3
            go_wp2
            go_region
            all_goals (try go_wp2)
            go_roundg R3.length
            case measure => have := HN2.out; have := HGL.out; omega
            case rel => exact ⟨qi + 1, qj + 1, R3, rfl, by have := HN2.out; omega, HB3, ⟨hRt.at_⟩, hBi.drew⟩
          · have hbs := owns_base hrowi
            have hszi := hbwi.size
            by_cases hqe : qi = pi
            · have HW : NKeep (placesP (pa.take (k + 1)) pb = ts ++ [(pi, pj, qj)]) := ⟨by rw [HT.out, HB2.out.2 pi (Nat.le_refl _), withP, if_pos (by omega), hqj]⟩
              have hqeI : (qi : Int) = (pi : Int) := by omega
              clear hr3
              go_wp2
              go_region
              all_goals (try go_wp2)
              go_region
              all_goals (try go_wp2)
              go_region_law ((refine step_append_lies _ (by rfl) _ _ 107 (by rfl) w.heap.size 112 ti _ 3 24 Tryz.underlying107 hti hz0 hz1 hz2 rfl (by decide) u5 ts.length (plC ts) (by rfl) (by exact hrowi.alloc _) ⟨wr.heap.size, 0, none⟩ 1 1 [.int .i64 (pi : Int), .int .i64 (pj : Int), .int .i64 (qj : Int)] (by rfl) (by rfl) (by exact fun j' u h => World.news_of_block (w := wr.alloc _) (heap_alloc_new _ _) j' u h) (by simp [Value.oneCell']) (by omega) (by unfold maxLen; omega) (by omega) (by simp; omega) (wr.heap.size + 1) (by simp) ?_; intro g4 cap4 w4 ho4 hg4 hl4 hlt4))
              all_goals go_wp2
              all_goals
                refine ⟨⟨k + 1, pi + 1, pj + 1, i2, j2, q :: R3, by omega, by go_num, ⟨HA.out.2, HB2.out.1, fun n hn => HB2.out.2 n (by omega)⟩, by have := HN2.out; simp; omega, ?_, ?_, ?_⟩, ?_⟩
                · exact ⟨some ⟨b2, o2, none⟩, c2, by rw [HN2.out]; rfl, by rw [HN2.out] at hc2; exact hc2, hp2⟩
                · rw [HW.out, List.length_append, plC_snoc]; exact ho4
                · exact ((hbwi.alloc (by omega) _).drew.drew.drew.grown hg4 (by simp; omega) hbs)
                · simp [intOf]; omega
            · have HW : NKeep (placesP (pa.take (k + 1)) pb = ts) := ⟨by
                rw [HT.out, HB2.out.2 pi (Nat.le_refl _), withP, if_neg (by omega), withP_lt hr3 (by omega)]
                simp⟩
              have hqeB : ((qi : Int) == (pi : Int)) = false := by simp; omega
              clear hr3
              go_wp2
              go_region
              all_goals (try go_wp2)
              go_region
              all_goals (try go_wp2)
              go_roundw
              case rel =>
                refine ⟨k + 1, pi + 1, pj + 1, i2, j2, q :: R3, by omega, by go_num, ⟨HA.out.2, HB2.out.1, fun n hn => HB2.out.2 n (by omega)⟩, by have := HN2.out; simp; omega, ⟨some ⟨b2, o2, none⟩, c2, by rw [HN2.out]; rfl, by rw [HN2.out] at hc2; exact hc2, hp2⟩, ?_, hbwi.drew.drew⟩
                rw [HW.out]; exact hrowi
              case measure => simp [intOf]; omega
    · obtain rfl : k = pa.length := by omega
      rw [List.take_length] at hrow
      obtain ⟨ad, cp, rfl⟩ := owns_slice hrow
      go_wp2
      go_ret
      exact ⟨ad, cp, rfl, hrow, hb⟩
end Go.Proofs.YtjiafjdjocmodaaGreat

namespace Go.Proofs.YtjiafjdjocmodaaGreat
open Go.RowKit Go.Shelf

def renJ : Ren := ⟨fun n => if n = 156 then 84 else if n = 165 then 111 else if n = 166 then 85 else if n = 169 then 86 else if n = 240 then 112 else if n = 241 then 128 else if n = 276 then 129 else if n = 277 then 136 else n, fun n => if n = 0 then 0 else if n = 3 then 3 else if n = 4 then 4 else if n = 5 then 5 else if n = 9 then 9 else if n = 20 then 20 else if n = 31 then 28 else if n = 37 then 22 else if n = 70 then 113 else if n = 72 then 115 else if n = 75 then 118 else if n = 76 then 119 else if n = 80 then 121 else if n = 127 then 122 else if n = 164 then 171 else n, fun n => n⟩

theorem laysJ156 : Lays.n156 Tryz.prog renJ where
  mixed := by kernel_rfl
  f156 := by kernel_rfl
  f165 := by kernel_rfl
  f166 := by kernel_rfl
  f169 := by kernel_rfl
  f240 := by kernel_rfl
  f241 := by kernel_rfl
  f276 := by kernel_rfl
  f277 := by kernel_rfl
  t0 := by kernel_rfl
  a0 := fun _ => by kernel_rfl
  z0 := fun _ => by kernel_rfl
  v0 := fun _ => by kernel_rfl
  t3 := by kernel_rfl
  a3 := fun _ => by kernel_rfl
  z3 := fun _ => by kernel_rfl
  v3 := fun _ => by kernel_rfl
  t4 := by kernel_rfl
  a4 := fun _ => by kernel_rfl
  z4 := fun _ => by kernel_rfl
  v4 := fun _ => by kernel_rfl
  t9 := by kernel_rfl
  a9 := fun _ => by kernel_rfl
  z9 := fun _ => by kernel_rfl
  v9 := fun _ => by kernel_rfl
  t20 := by kernel_rfl
  a20 := fun _ => by kernel_rfl
  z20 := fun _ => by kernel_rfl
  v20 := fun _ => by kernel_rfl
  t31 := by kernel_rfl
  a31 := fun _ => by kernel_rfl
  z31 := fun _ => by kernel_rfl
  v31 := fun _ => by kernel_rfl
  t37 := by kernel_rfl
  a37 := fun _ => by kernel_rfl
  z37 := fun _ => by kernel_rfl
  v37 := fun _ => by kernel_rfl
  t70 := by kernel_rfl
  a70 := fun _ => by kernel_rfl
  z70 := fun _ => by kernel_rfl
  v70 := fun _ => by kernel_rfl
  t72 := by kernel_rfl
  a72 := fun _ => by kernel_rfl
  z72 := fun _ => by kernel_rfl
  v72 := fun _ => by kernel_rfl
  t75 := by kernel_rfl
  a75 := fun _ => by kernel_rfl
  z75 := fun _ => by kernel_rfl
  v75 := fun _ => by kernel_rfl
  t76 := by kernel_rfl
  a76 := fun _ => by kernel_rfl
  z76 := fun _ => by kernel_rfl
  v76 := fun _ => by kernel_rfl
  t127 := by kernel_rfl
  a127 := fun _ => by kernel_rfl
  z127 := fun _ => by kernel_rfl
  v127 := fun _ => by kernel_rfl
  t164 := by kernel_rfl
  a164 := fun _ => by kernel_rfl
  z164 := fun _ => by kernel_rfl
  v164 := fun _ => by kernel_rfl

theorem laysJ166 : Lays.n166 Tryz.prog renJ where
  mixed := by kernel_rfl
  f166 := by kernel_rfl
  f240 := by kernel_rfl
  f276 := by kernel_rfl
  t0 := by kernel_rfl
  a0 := fun _ => by kernel_rfl
  z0 := fun _ => by kernel_rfl
  v0 := fun _ => by kernel_rfl
  t3 := by kernel_rfl
  a3 := fun _ => by kernel_rfl
  z3 := fun _ => by kernel_rfl
  v3 := fun _ => by kernel_rfl
  t4 := by kernel_rfl
  a4 := fun _ => by kernel_rfl
  z4 := fun _ => by kernel_rfl
  v4 := fun _ => by kernel_rfl
  t9 := by kernel_rfl
  a9 := fun _ => by kernel_rfl
  z9 := fun _ => by kernel_rfl
  v9 := fun _ => by kernel_rfl
  t20 := by kernel_rfl
  a20 := fun _ => by kernel_rfl
  z20 := fun _ => by kernel_rfl
  v20 := fun _ => by kernel_rfl
  t37 := by kernel_rfl
  a37 := fun _ => by kernel_rfl
  z37 := fun _ => by kernel_rfl
  v37 := fun _ => by kernel_rfl
  t70 := by kernel_rfl
  a70 := fun _ => by kernel_rfl
  z70 := fun _ => by kernel_rfl
  v70 := fun _ => by kernel_rfl
  t72 := by kernel_rfl
  a72 := fun _ => by kernel_rfl
  z72 := fun _ => by kernel_rfl
  v72 := fun _ => by kernel_rfl
  t75 := by kernel_rfl
  a75 := fun _ => by kernel_rfl
  z75 := fun _ => by kernel_rfl
  v75 := fun _ => by kernel_rfl
  t164 := by kernel_rfl
  a164 := fun _ => by kernel_rfl
  z164 := fun _ => by kernel_rfl
  v164 := fun _ => by kernel_rfl

theorem laysJ169 : Lays.n169 Tryz.prog renJ where
  mixed := by kernel_rfl
  f169 := by kernel_rfl
  t0 := by kernel_rfl
  a0 := fun _ => by kernel_rfl
  z0 := fun _ => by kernel_rfl
  v0 := fun _ => by kernel_rfl
  t3 := by kernel_rfl
  a3 := fun _ => by kernel_rfl
  z3 := fun _ => by kernel_rfl
  v3 := fun _ => by kernel_rfl
  t9 := by kernel_rfl
  a9 := fun _ => by kernel_rfl
  z9 := fun _ => by kernel_rfl
  v9 := fun _ => by kernel_rfl
  t37 := by kernel_rfl
  a37 := fun _ => by kernel_rfl
  z37 := fun _ => by kernel_rfl
  v37 := fun _ => by kernel_rfl
  t70 := by kernel_rfl
  a70 := fun _ => by kernel_rfl
  z70 := fun _ => by kernel_rfl
  v70 := fun _ => by kernel_rfl
  t72 := by kernel_rfl
  a72 := fun _ => by kernel_rfl
  z72 := fun _ => by kernel_rfl
  v72 := fun _ => by kernel_rfl
  t127 := by kernel_rfl
  a127 := fun _ => by kernel_rfl
  z127 := fun _ => by kernel_rfl
  v127 := fun _ => by kernel_rfl

theorem extraJ : Builder.Extra Tryz.prog renJ where
  sizeBuilder := by kernel_rfl
  liesBuilder := by kernel_rfl
  t5 := by kernel_rfl
  a5 := fun _ => by kernel_rfl
  z5 := fun _ => by kernel_rfl
  v5 := fun _ => by kernel_rfl
  infoByte := by kernel_rfl
  cellsByte := by kernel_rfl
  sizeByte := by kernel_rfl
  neB5 := by decide

theorem join_empty (xs : List (List UInt8)) : Lib.join xs [] = xs.flatten := by
  cases xs with
  | nil => rfl
  | cons x r => rw [Lib.join_cons]; simp [Lib.joinTail]

theorem join_any (v : Value) (ls : List ByteArray) (w : World) (h : RdL w v ls) (hl : ls.length ≤ 100000) (hs : (catL ls).length ≤ 1000000) :
    Calls Tryz.prog 84 #[v, .string ⟨#[]⟩] w fun e w' => e = .returned (.string (lnB (catL ls))) ∧ Below w.heap.size w w' := by
  obtain ⟨a, cap, rfl, hc, hss⟩ := h.at_
  by_cases h0 : ls = []
  · subst h0
    exact (Any.strings_Join_none (ρ := renJ) laysJ156 extraJ a cap ⟨#[]⟩ w).mono fun e w' ⟨he, hw⟩ => ⟨he, hw ▸ Below.refl _ _⟩
  · have hpos : 0 < ls.length := List.length_pos_iff.2 h0
    obtain ⟨b, o, rfl, hcell⟩ := hss.at hpos
    have e : Lib.join (ls.map (·.data.toList)) (⟨#[]⟩ : ByteArray).data.toList = catL ls := join_empty _
    have hj := Any.strings_Join (ρ := renJ) laysJ156 extraJ b o cap ls ⟨#[]⟩ w (fun j x hx => by
      obtain ⟨hj, rfl⟩ := List.getElem?_eq_some_iff.1 hx
      exact hcell j hj) (blk_lt (hcell 0 hpos)) (by omega) hc (by rw [e]; omega)
    rw [e] at hj
    exact hj

/-- A Builder in memory that holds some bytes. -/
def BldM (B b : Nat) (l : List UInt8) (w : World) : Prop := Lib.IsBuilderF 115 5 B b (Lib.byteCells l) w

theorem bldAt_on {T e : TypeId} {B b : Nat} {p : Value} {bs : List Value} {w w' : World} (h : Lib.BuilderAtF T e B b p bs w) (hb : w'.heap[b]? = w.heap[b]?) (hk : ∀ (g : Nat) (c : Array Value) (fz : Nat × Nat), w.heap[g]? = some (Obj.cells c e fz) → w'.heap[g]? = w.heap[g]?) : Lib.BuilderAtF T e B b p bs w' := by
  obtain ⟨hB, v, h1, h2, h3⟩ := h
  refine ⟨hB, v, hb.trans h1, ⟨h2.1, ?_⟩, h3⟩
  rcases h2.2 with h' | ⟨g, cap, cur, fz, hv, k1, k2, k3⟩
  · exact .inl h'
  · exact .inr ⟨g, cap, cur, fz, hv, k1, (hk g cur fz k2).trans k2, k3⟩
theorem BldM.on {B b : Nat} {l : List UInt8} {w w' : World} (h : BldM B b l w) (hb : w'.heap[b]? = w.heap[b]?) (hk : ∀ (g : Nat) (c : Array Value) (fz : Nat × Nat), w.heap[g]? = some (Obj.cells c 5 fz) → w'.heap[g]? = w.heap[g]?) : BldM B b l w' :=
  h.elim (fun x => .inl (bldAt_on x hb hk)) (fun x => .inr (bldAt_on x hb hk))
theorem BldM.lt {B b : Nat} {l : List UInt8} {w : World} (h : BldM B b l w) : b < w.heap.size := h.elim (fun x => x.lt) (fun x => x.lt)
theorem BldM.below {B b : Nat} {l : List UInt8} {w w' : World} (h : BldM B b l w) (hb : Below w.heap.size w w') : BldM B b l w' :=
  h.on (hb.block b h.lt) (fun g _ _ hg => hb.block g (Array.getElem?_eq_some_iff.1 hg).1)
theorem BldM.set {B b : Nat} {l : List UInt8} {w : World} {q : Nat} {c : Array Value} {t : TypeId} {fz : Nat × Nat} (h : BldM B b l w) (hq : w.heap[q]? = some (.cells c t fz)) (ht : t ≠ 5) (hne : q ≠ b) (i : Nat) (u : Value) : BldM B b l (w.setCell ⟨q, i, none⟩ u) :=
  h.on (Below.heap_setCell w ⟨q, i, none⟩ u b (by simp; omega)) (fun g c' fz' hg => Below.heap_setCell w ⟨q, i, none⟩ u g (by
    simp
    intro e
    subst e
    rw [hq] at hg
    cases hg
    exact ht rfl))

theorem writeS_any (B b : Nat) (l : List UInt8) (s : ByteArray) (w : World) (h : BldM B b l w) (hl : l.length + s.size ≤ 140737488355328) (hB : B ≤ w.heap.size) :
    Calls Tryz.prog 85 #[.pointer (some ⟨b, 0, none⟩), .string s] w fun e w' => e = .returned (.tuple #[.int .i64 s.size, .nilIface]) ∧ BldM B b (l ++ s.data.toList) w' ∧ Below B w w' ∧ Lib.OthersKept 5 (some b) w w' := by
  have hlen : (Lib.byteCells l).length + s.size ≤ 140737488355328 := by unfold Lib.byteCells; rw [List.length_map]; exact hl
  refine (Any.Builder_WriteString_k (ρ := renJ) laysJ166 extraJ B b (Lib.byteCells l) s w h hlen hB).mono fun e w' ⟨he, hA, hb, ho⟩ => ⟨he, .inr ?_, hb, ho⟩
  have e1 : Lib.byteCells (l ++ s.data.toList) = Lib.byteCells l ++ Lib.strCells s := by unfold Lib.byteCells Lib.strCells; rw [List.map_append]
  rw [e1]
  exact hA

theorem stringB_any (B b : Nat) (l : List UInt8) (w : World) (h : BldM B b l w) (hB : B ≤ w.heap.size) :
    Calls Tryz.prog 86 #[.pointer (some ⟨b, 0, none⟩)] w fun e w' => e = .returned (.string (lnB l)) ∧ Below B w w' :=
  (Any.Builder_String_any_k (ρ := renJ) laysJ169 extraJ B b l w h hB).mono fun _ _ ⟨he, _, hb, _⟩ => ⟨he, hb⟩
end Go.Proofs.YtjiafjdjocmodaaGreat

namespace Go.Proofs.YtjiafjdjocmodaaGreat
open Go.RowKit Go.Shelf

attribute [local go_sem] Oper.semAt_some

set_option maxHeartbeats 1000000 in
set_option maxRecDepth 100000 in
theorem nlByte_any (s : ByteArray) (w : World) :
    Calls Tryz.prog 135 #[.string s, .int .u8 10] w fun e w' => e = .returned (.int .i64 (Lib.indexByte s.data.toList 10)) ∧ w' = w := by
  go_enter Tryz.func135, Tryz.ntmps135
  go_wp2
  rw [run_callFunc_extern Tryz.func138 (by kernel_rfl) (by kernel_rfl) (by kernel_rfl) (e := Extern.BytealgIndexByte.indexByte) (by kernel_rfl), Lib.run_indexByteString]
  simp only [Result.andThen]
  rw [Oper.upon_value]
  go_wp2
  go_ret
  exact ⟨rfl, rfl⟩

set_option maxHeartbeats 1000000 in
theorem nlIndex_any (s : ByteArray) (w : World) :
    Calls Tryz.prog 126 #[.string s, .int .u8 10] w fun e w' => e = .returned (.int .i64 (Lib.indexByte s.data.toList 10)) ∧ w' = w := by
  go_enter Tryz.func126, Tryz.ntmps126
  go_wp2_with (go_at_call 135; refine (nlByte_any _ _).mono ?_; rintro e w' ⟨rfl, rfl⟩)
  go_ret
  exact ⟨rfl, rfl⟩

def boxFar (Bs : Nat) (w : World) : Nat := match w.cell? ⟨Bs, 0, none⟩ with
  | some (.string r) => r.size
  | _ => 0
theorem boxFar_of {Bs : Nat} {w : World} {r : ByteArray} (h : w.cell? ⟨Bs, 0, none⟩ = some (.string r)) : boxFar Bs w = r.size := by simp [boxFar, h]

theorem frozen_block {w w' : World} {b i : Nat} (h : w'.heap[b]? = w.heap[b]?) : w'.frozen? ⟨b, i, none⟩ = w.frozen? ⟨b, i, none⟩ := by simp [World.frozen?, h]

set_option maxRecDepth 100000 in
set_option maxHeartbeats 2000000 in
theorem lines1_in (n l Bs : Nat) (s : ByteArray) (hs : s.size ≤ 1099511627776) (J : List ByteArray → World → Prop) (W : World)
    (hJd : ∀ pre W1, J pre W1 → J pre (World.drew W1)) (hJs : ∀ pre W1 v, J pre W1 → J pre (World.setCell W1 ⟨Bs, 0, none⟩ v))
    (hY : ∀ pre x W1, J pre W1 → (∃ r, linesB s = (pre ++ [x]) ++ r) → YieldAt Fence.wide (n - 1) Tryz.prog l #[.string x] W1 fun e W' =>
      e = .returned (.bool true) ∧ J (pre ++ [x]) W' ∧ W'.heap[Bs]? = W1.heap[Bs]?)
    (hBs : W.cell? ⟨Bs, 0, none⟩ = some (.string s)) (hBf : W.frozen? ⟨Bs, 0, none⟩ = false) (h0 : J [] W) :
    CallsIn Fence.wide n Tryz.prog 125 #[.func (.yield l) #[] #[], .pointer (some ⟨Bs, 0, none⟩)] W fun e W' => (∃ v, e = .returned v) ∧ J (linesB s) W' := by
  refine callsIn_of_wp Tryz.func125 rfl trivial ?_ rfl
  simp only [Tryz.ntmps125, List.size_toArray, List.length_cons, List.length_nil, Nat.reduceAdd, Nat.reduceSub, Array.replicate_succ, Array.replicate_zero, List.push_toArray, List.append_toArray, List.nil_append, List.cons_append]
  gi_wp2
  gi_loopw [3, 4] (fun _ _ wr => ∃ (pre : List ByteArray) (rs : ByteArray), wr.cell? ⟨Bs, 0, none⟩ = some (.string rs) ∧ wr.frozen? ⟨Bs, 0, none⟩ = false ∧ rs.size ≤ 1099511627776 ∧ LKeep (linesB s = pre ++ linesB rs) ∧ J pre wr)
    (fun _ _ wr => boxFar Bs wr)
  case atStart => exact ⟨[], s, hBs, hBf, hs, ⟨by simp⟩, h0⟩
  case round =>
    obtain ⟨pre, rs, hc, hf, hrs, HP, hJr⟩ := hrel
    have HF : LKeep (boxFar Bs wr = rs.size) := ⟨boxFar_of hc⟩
    by_cases hz : 0 < rs.size
    · rcases nl_cases rs with hix | ⟨i, hix, hroom⟩
      · have hl := linesB_last hix hz
        have HL : LKeep (linesB s = (pre ++ [rs]) ++ linesB ⟨#[]⟩) := ⟨by rw [HP.out, hl, linesB_none]; simp⟩
        obtain ⟨fn, tmps, assign, body, hy, hR⟩ := hY pre rs (wr.setCell ⟨Bs, 0, none⟩ (.string ⟨#[]⟩)) (hJs _ _ _ hJr) ⟨_, HL.out⟩
        have hcs : (wr.setCell ⟨Bs, 0, none⟩ (.string ⟨#[]⟩)).cell? ⟨Bs, 0, none⟩ = some (.string ⟨#[]⟩) := World.cell?_setCell_same' _ _ _ (by rw [hc]; rfl)
        have hfs : (wr.setCell ⟨Bs, 0, none⟩ (.string ⟨#[]⟩)).frozen? ⟨Bs, 0, none⟩ = false := by rw [World.frozen?_setCell]; exact hf
        clear hl HP
        gi_wp2_with (refine ⟨trivial, fun h => Bool.noConfusion h, ?_⟩; gi_at_call 126; refine (callsIn_wide.2 (nlIndex_any rs wr)).mono ?_; rintro e w1 ⟨rfl, rfl⟩; rw [hix])
        refine ⟨fun h => Bool.noConfusion h, hR.mono ?_⟩
        rintro e W3 ⟨rfl, hJ3, hk3⟩
        gi_wp2
        have hc3 := (World.cell?_of_block hk3 : W3.cell? ⟨Bs, 0, none⟩ = _).trans hcs
        go_roundw
        case rel => exact ⟨pre ++ [rs], ⟨#[]⟩, hc3, (frozen_block hk3).trans hfs, by decide, HL, hJ3⟩
        case measure =>
          rw [boxFar_of hc3, HF.out]
          exact hz
      · have hl := linesB_cut hix
        have HL : LKeep (linesB s = (pre ++ [rs.extract 0 (i + 1)]) ++ linesB (rs.extract (i + 1) rs.size)) := ⟨by rw [HP.out, hl]; simp⟩
        obtain ⟨fn, tmps, assign, body, hy, hR⟩ := hY pre (rs.extract 0 (i + 1)) (wr.setCell ⟨Bs, 0, none⟩ (.string (rs.extract (i + 1) rs.size))).drew (hJd _ _ (hJs _ _ _ hJr)) ⟨_, HL.out⟩
        have hcs : (wr.setCell ⟨Bs, 0, none⟩ (.string (rs.extract (i + 1) rs.size))).drew.cell? ⟨Bs, 0, none⟩ = some (.string (rs.extract (i + 1) rs.size)) := (World.cell?_setCell_same' wr ⟨Bs, 0, none⟩ _ (by rw [hc]; rfl) : (wr.setCell ⟨Bs, 0, none⟩ _).cell? _ = _)
        have hfs : (wr.setCell ⟨Bs, 0, none⟩ (.string (rs.extract (i + 1) rs.size))).drew.frozen? ⟨Bs, 0, none⟩ = false := (World.frozen?_setCell wr _ _ _).trans hf
        have HZ : LKeep ((rs.extract (i + 1) rs.size).size < rs.size) := ⟨by simp; omega⟩
        have c1 : (0 : Int) ≤ ↑i := by omega
        have c2 : (↑i : Int) ≤ ↑rs.size := by omega
        have c3 : (0 : Int) ≤ ↑i + 1 := by omega
        have c4 : (↑i + 1 : Int) ≤ ↑rs.size := by omega
        have hw1 : IntKind.i64.wrap ((i : Int) + 1) = (i : Int) + 1 := by rw [IntKind.wrap_i64]; omega
        clear hl HP
        gi_wp2_with (refine ⟨trivial, fun h => Bool.noConfusion h, ?_⟩; gi_at_call 126; refine (callsIn_wide.2 (nlIndex_any rs wr)).mono ?_; rintro e w1 ⟨rfl, rfl⟩; rw [hix])
        gi_region
        all_goals (try gi_wp2)
        refine ⟨fun h => Bool.noConfusion h, hR.mono ?_⟩
        rintro e W3 ⟨rfl, hJ3, hk3⟩
        gi_wp2
        have hc3 := (World.cell?_of_block hk3 : W3.cell? ⟨Bs, 0, none⟩ = _).trans hcs
        have := HZ.out
        go_roundw
        case rel => exact ⟨pre ++ [rs.extract 0 (i + 1)], _, hc3, (frozen_block hk3).trans hfs, by omega, HL, hJ3⟩
        case measure =>
          rw [boxFar_of hc3, HF.out]
          exact this
    · have hz0 : rs.size = 0 := by omega
      have he : rs = ⟨#[]⟩ := by
        cases rs with
        | mk d => simp [ByteArray.size] at hz0; simp [hz0]
      subst he
      have HE : LKeep (linesB s = pre) := ⟨by rw [HP.out, linesB_none]; simp⟩
      clear HP hz0
      gi_wp2
      go_end0
      exact ⟨⟨_, rfl⟩, by rw [HE.out]; exact hJr⟩

set_option maxHeartbeats 400000 in
theorem linesSeq_any (s : ByteArray) (w : World) :
    Calls Tryz.prog 107 #[.string s] w fun e w' => e = .returned (.func (.func 125) #[] #[.pointer (some ⟨w.heap.size, 0, none⟩)]) ∧ w' = w.alloc (.cells #[.string s] 9) := by
  go_enter Tryz.func107, Tryz.ntmps107
  go_wp2
  go_ret
  exact ⟨rfl, rfl⟩
end Go.Proofs.YtjiafjdjocmodaaGreat

namespace Go.Proofs.YtjiafjdjocmodaaGreat
open Go.RowKit Go.Shelf

attribute [local go_sem] Oper.semAt_some

/-- How the body of a round is left: it goes on; the loop's two blocks and the iterator's box are kept. -/
def lnPost (B Bs : Nat) (I : List ByteArray → World → Prop) (xs : List ByteArray) (W : World) : Exit → Act → World → Prop
  | .normal, _, W' => (W'.heap[B]? = W.heap[B]? ∧ W'.heap[B + 1]? = W.heap[B + 1]? ∧ W'.heap[Bs]? = W.heap[Bs]?) ∧ I xs W'
  | .ret, _, _ => False
  | .exit _, _, _ => False
  | .goto _, _, _ => False
  | .panic _, _, _ => False
  | .outgrown, _, _ => False

theorem range_lines {g : Operand} {ps : Array Tmp} {assign body : Code} {Q : Exit → Act → World → Prop} {a : Act} {w : World} {n : Nat} (h1 : 1 ≤ n)
    (Bs : Nat) (s : ByteArray) (hs : s.size ≤ 1099511627776) (hlt : Bs < w.heap.size) (hBs : w.cell? ⟨Bs, 0, none⟩ = some (.string s)) (hBf : w.frozen? ⟨Bs, 0, none⟩ = false)
    (hg : a.eval g = .func (.func 125) #[] #[.pointer (some ⟨Bs, 0, none⟩)]) (hps : ps.size = 1)
    (I : List ByteArray → World → Prop) (hIa : ∀ pre W o, I pre W → I pre (W.alloc o)) (hId : ∀ pre W, I pre W → I pre (W.drew)) (hIs : ∀ pre W v, I pre W → I pre (W.setCell ⟨Bs, 0, none⟩ v))
    (hIp : ∀ pre W l o, (l = w.heap.size ∨ l = w.heap.size + 1) → I pre W → I pre (W.putObj l o))
    (h0 : I [] w) (a₁ : ByteArray → Act)
    (hassign : ∀ (l : Nat) (x : ByteArray) (W : World) (K : Act → World → Prop), K (a₁ x) W →
      assign.wpIn (Fence.wide.inRound l) (n - 1 - 1) Tryz.prog (Exit.then K (fun _ _ _ => False)) { tmps := (ps.zip #[.string x]).foldl (fun t (p, v) => t.setIfInBounds p v) a.tmps, defers := [] } W)
    (hbody : ∀ (l : Nat) (pre : List ByteArray) (x : ByteArray) (W : World), I pre W → (∃ r, linesB s = pre ++ [x] ++ r) → w.heap.size + 1 < W.heap.size → body.wpIn (Fence.wide.inRound l) (n - 1 - 1) Tryz.prog (lnPost w.heap.size Bs I (pre ++ [x]) W) (a₁ x) W)
    (hdone : ∀ (W : World), I (linesB s) W → W.heap[w.heap.size]? = some (.deferred (some [])) → Q .normal { a with defers := { target := .collected w.heap.size, args := #[] } :: a.defers } W) :
    (Code.rangeFunc g ps assign body).wpIn Fence.wide n Tryz.prog Q a w := by
  refine wpIn_rangeFunc ?_
  intro fn hfn
  rw [show Fence.wide.round = none from rfl]
  have heg : ∀ args w, (callFunc 125 args).run Tryz.prog w = .ok (.enter 125 args) w := enters_of Tryz.func125 (by kernel_rfl) rfl
  obtain ⟨rc, hrc⟩ : ∃ rc : LoopState → Option Code → Loop, rc = fun st pe => { state := st, pending := pe, fn, tmps := a.tmps, params := ps, assign, body, defers := w.heap.size } := ⟨_, rfl⟩
  obtain ⟨W1, hW1⟩ : ∃ W1, (w.alloc (.deferred (some []))).alloc (.loop (rc .ready none)) = W1 := ⟨_, rfl⟩
  have hL1 : W1.heap[w.heap.size + 1]? = some (.loop (rc .ready none)) := by
    rw [← hW1]
    have := World.alloc_heap_new (w.alloc (.deferred (some []))) (.loop (rc .ready none))
    rwa [World.size_alloc] at this
  have hK1 : W1.heap[w.heap.size]? = some (.deferred (some [])) := by
    rw [← hW1]; exact (Below.heap_alloc _ _ _ (by simp)).trans (World.alloc_heap_new w _)
  have hI1 : I [] W1 := by rw [← hW1]; exact hIa _ _ _ (hIa _ _ _ h0)
  have hb1 : Below w.heap.size w W1 := by rw [← hW1]; exact ((Below.refl _ w).alloc (Nat.le_refl _) _).alloc (by simp) _
  have hB1 : W1.heap[Bs]? = w.heap[Bs]? := hb1.block Bs hlt
  refine ⟨w.heap.size + 1, [{ target := .collected w.heap.size, args := #[] }], W1, { target := .fn (.func 125) #[.pointer (some ⟨Bs, 0, none⟩)], args := #[.func (.yield (w.heap.size + 1)) #[] #[]] }, W1, 125,
    #[.func (.yield (w.heap.size + 1)) #[] #[]] ++ #[.pointer (some ⟨Bs, 0, none⟩)], W1, ?_, ?_, ?_, ?_, fun _ => h1, ?_⟩
  · rw [← hW1, hrc]; exact run_enterLoop_outer _ _ _ _ _
  · simp only [resolve, hg]
    simp [go_sem]
  · intro f' hf'; trivial
  · simp [invoke, go_sem, heg]
  · refine (lines1_in (n - 1) (w.heap.size + 1) Bs s hs
      (fun pre W => I pre W ∧ W.heap[w.heap.size + 1]? = some (.loop (rc .ready none)) ∧ W.heap[w.heap.size]? = some (.deferred (some [])))
      W1 (fun pre W hJ => ⟨hId _ _ hJ.1, hJ.2.1, hJ.2.2⟩)
      (fun pre W v hJ => ⟨hIs _ _ _ hJ.1, (Below.heap_setCell W ⟨Bs, 0, none⟩ v _ (by simp; omega)).trans hJ.2.1, (Below.heap_setCell W ⟨Bs, 0, none⟩ v _ (by simp; omega)).trans hJ.2.2⟩)
      ?_ ((hb1.cell (p := ⟨Bs, 0, none⟩) hlt).trans hBs) ((frozen_block hB1).trans hBf) ⟨hI1, hL1, hK1⟩).mono ?_
    · rintro pre x W ⟨hi, hl, hk⟩ hr
      have hlt1 : w.heap.size + 1 < W.heap.size := (Array.getElem?_eq_some_iff.1 hl).1
      have hy := run_yield (P := Tryz.prog) (args := #[.string x]) hl (by rw [hrc]; exact hps.symm)
      rw [hrc] at hy
      refine ⟨fn, _, assign, body, hy, roundIn_of_wpIn hfn (hassign _ x W _ ⟨_, run_beginRound hl (by rw [hrc]), ?_⟩)⟩
      have hl2 : (W.putObj (w.heap.size + 1) (.loop { rc .ready none with state := .busy })).heap[w.heap.size + 1]? = some (.loop { rc .ready none with state := .busy }) := World.putObj_heap_same hlt1
      have hk2 : (W.putObj (w.heap.size + 1) (.loop { rc .ready none with state := .busy })).heap[w.heap.size]? = some (.deferred (some [])) := (World.putObj_heap_other (by omega)).trans hk
      have hb2 : (W.putObj (w.heap.size + 1) (.loop { rc .ready none with state := .busy })).heap[Bs]? = W.heap[Bs]? := World.putObj_heap_other (by omega)
      refine wpIn_mono (hbody _ pre x _ (hIp _ _ _ _ (.inr rfl) hi) hr (by simpa using hlt1)) ?_
      rintro e a3 W3 hp
      cases e with
      | normal =>
        obtain ⟨⟨h31, h32, h33⟩, hi3⟩ := hp
        have hl3 := h32.trans hl2
        have hr3 := run_endRound (P := Tryz.prog) none hl3
        rw [hrc] at hr3 hl3
        refine ⟨_, _, hr3, rfl, ⟨hIp _ _ _ _ (.inr rfl) hi3, ?_, (World.putObj_heap_other (by omega)).trans (h31.trans hk2)⟩, (World.putObj_heap_other (by omega)).trans (h33.trans hb2)⟩
        rw [hrc]
        exact World.putObj_heap_same (Array.getElem?_eq_some_iff.1 hl3).1
      | ret => exact hp.elim
      | exit id => exact hp.elim
      | goto t => exact hp.elim
      | panic ch => exact hp.elim
      | outgrown => exact hp.elim
    · rintro e W2 ⟨⟨v, rfl⟩, hi, hl, hk⟩
      exact ⟨none, _, by have := run_endLoop (P := Tryz.prog) hl (by rw [hrc]; simp); rw [hrc] at this; exact this, hdone _ (hIp _ _ _ _ (.inr rfl) hi) ((World.putObj_heap_other (by omega)).trans hk)⟩

theorem grown_drewL (w : World) : w.grownBy w.drew none := ⟨rfl, rfl, rfl, Nat.le_refl _, fun _ _ _ => rfl⟩
/-- A slice of strings of a call's own in a box. -/
def BoxRow (w : World) (ss : List ByteArray) (W : World) : Prop :=
  ∃ v, Boxed W w.heap.size 28 v ∧ W.ownsRow (w.heap.size + 4) 9 1 v ss.length (ss.map .string) ∧ Below w.heap.size w W ∧ w.heap.size + 2 ≤ W.heap.size

theorem BoxRow.grown {w : World} {ss : List ByteArray} {W W' : World} (h : BoxRow w ss W) {row : Option Nat} (hg : W.grownBy W' row) (hr : ∀ r, row = some r → w.heap.size < r ∧ r < w.heap.size + 4) : BoxRow w ss W' := by
  obtain ⟨v, h1, h2, h4, h5⟩ := h
  refine ⟨v, h1.kept hg (fun e => ?_), ?_, h4.grown hg (by omega) (fun k e => by have := (hr k e).1; omega), Nat.le_trans h5 hg.size⟩
  · have := hr w.heap.size e.symm; omega
  · refine ⟨h2.1, ?_⟩
    rcases h2.2 with h' | ⟨g, cap, cur, hv, k1, k2, k3⟩
    · exact .inl h'
    · refine .inr ⟨g, cap, cur, hv, k1, ?_, k3⟩
      rw [hg.block g (Array.getElem?_eq_some_iff.1 k2).1 (fun e => by have := (hr g e.symm).2; omega)]
      exact k2

/-- An append inside a region inside a fence, its run being known. -/
theorem stepIn_append {F : Fence} {n : Nat} {P : Program} {ops : Array Oper} {o : Oper} {a : Act} {K : Act → World → Prop} {Q : Exit → Act → World → Prop} {E : Prop} (w : World) (hgd : o.guard = none) (s x : Operand) (t : TypeId)
    (hop : o.op = Op.call { callee := Callee.builtin Builtin.append, args := #[s, x], argTypes := #[t, t] }) {v xv v' : Value} {w' : World} (hs : a.eval s = v) (hx : a.eval x = xv)
    (hrun : (Builtin.append_ #[t, t] o.type #[v, xv]).run P w = .ok v' w') (h : K (a.put o.dst v') w') : if Region.wanted o (yielded ops a.tmps) = true then Oper.wpIn F n P o a w K Q else E := by
  have hw : Region.wanted o (yielded ops a.tmps) = true := by simp [Region.wanted, hgd]
  rw [if_pos hw]
  unfold Oper.wpIn
  refine ⟨?_, ?_⟩
  · simp [Oper.about, hop, resolve, Target.leads, Sem.run_pure]
  · rw [Oper.semAt_plain F _ _ (by rw [hop]; intro c hc'; cases hc')]
    simp [execOp, hop, resolve, invoke, builtin, hs, hx, hrun, Result.andThen]
    exact h

set_option maxRecDepth 100000 in
set_option maxHeartbeats 4000000 in
theorem implLines_small (s : ByteArray) (hs : s.size ≤ 1500) (w : World) :
    Calls Tryz.prog 80 #[.string s] w fun e w' => LinesPost (linesB s) w e w' := by
  obtain ⟨i0, hi, hz0, hz1, hz2⟩ := info_parts Tryz.infoStr
  have hN := linesB_le s
  have hsm : ¬ (1500 : Int) < s.size := by omega
  refine (callsIn_wide (n := 5)).1 ?_
  refine callsIn_of_wp_marks Tryz.func80 rfl trivial ?_ rfl
  simp only [Tryz.ntmps80, List.size_toArray, List.length_cons, List.length_nil, Nat.reduceAdd, Nat.reduceSub, Array.replicate_succ, Array.replicate_zero, List.push_toArray, List.append_toArray, List.nil_append, List.cons_append]
  gi_wp2_with (refine ⟨trivial, ?_⟩; gi_at_call 107; refine (callsIn_wide.2 (linesSeq_any s _)).mono ?_; rintro e w' ⟨rfl, rfl⟩)
  have bO : Boxed ((w.alloc (.cells #[.slice none 0 0] 28)).alloc (.cells #[.string s] 9)) w.heap.size 28 (.slice none 0 0) := (Boxed.new w 28 (.slice none 0 0)).alloc _
  have hB0 : Below w.heap.size w ((w.alloc (.cells #[.slice none 0 0] 28)).alloc (.cells #[.string s] 9)) := ((Below.refl _ w).alloc (Nat.le_refl _) _).alloc (by simp) _
  have hS0 : ((w.alloc (.cells #[.slice none 0 0] 28)).alloc (.cells #[.string s] 9)).heap.size = w.heap.size + 2 := by simp
  have hc0 : ((w.alloc (.cells #[.slice none 0 0] 28)).alloc (.cells #[.string s] 9)).cell? ⟨w.heap.size + 1, 0, none⟩ = some (.string s) := by simp
  have hf0 : ((w.alloc (.cells #[.slice none 0 0] 28)).alloc (.cells #[.string s] 9)).frozen? ⟨w.heap.size + 1, 0, none⟩ = false := by simp
  generalize ((w.alloc (.cells #[.slice none 0 0] 28)).alloc (.cells #[.string s] 9)) = W0 at *
  refine range_lines (n := 5) (by omega) (w.heap.size + 1) s (by omega) (by omega) hc0 hf0 rfl rfl (fun pre W => BoxRow w pre W)
    (fun pre W o h => h.grown (World.grownBy_alloc W o none) (fun r e => by cases e)) (fun pre W h => h.grown (grown_drewL W) (fun r e => by cases e)) (fun pre W v h => h.grown (grownBy_setCell' W (w.heap.size + 1) v) (fun r e => by cases e; omega))
    (fun pre W l o hl h => h.grown (grownBy_putObj' W l o) (fun r e => by cases e; omega)) ⟨_, bO, World.ownsRow_nil _ _ _ _, hB0, by omega⟩
    (fun x => { tmps := #[.string s, undef, .slice none 0 0, .pointer (some ⟨w.heap.size, 0, none⟩), .string x, .string s, .int .i64 s.size, .bool false, .string s, .func (.func 125) #[] #[.pointer (some ⟨w.heap.size + 1, 0, none⟩)], .string x, undef, undef, undef, undef, undef, undef], defers := [] }) ?assign ?body ?done
  case assign =>
    intro l x W K hK
    gi_wp2
    exact hK
  case body =>
    rintro l pre x W ⟨v, hv, hrow, hB, hge⟩ ⟨r, hr⟩ hl2
    rw [hS0] at hl2 ⊢
    have hcv := hv.cell
    have hlen : pre.length + 1 ≤ 1500 := by
      have := congrArg List.length hr
      simp at this; omega
    have hx : x.size ≤ 281474976710656 := by
      have := line_size (s := s) (x := x) (by rw [hr]; simp)
      omega
    have hcl : CallsIn (Fence.wide.inRound l) 2 Tryz.prog 31 #[.string x] W.drew fun e w' => e = .returned (.string x) ∧ Below W.drew.heap.size W.drew w' :=
      CallsIn.inRound l (callsIn_wide.2 (clone_any x _ hx))
    have hrowd : W.drew.ownsRow (w.heap.size + 4) 9 1 v pre.length (pre.map .string) := hrow
    have hcd : W.drew.cell? ⟨w.heap.size, 0, none⟩ = some v := hcv
    have hvb : ∀ k, v.ownBlock = some k → w.heap.size + 4 ≤ k := owns_base hrow
    have hafter : ∀ w1, Below W.drew.heap.size W.drew w1 → ∃ g cap w2, (Builtin.append_ #[28, 28] 28 #[v, .slice (some ⟨w1.heap.size, 0, none⟩) 1 1]).run Tryz.prog (w1.alloc (.cells #[.string x] 9)) = .ok (.slice (some ⟨g, 0, none⟩) (pre.length + 1) cap) w2 ∧
        (((w2.setCell ⟨w.heap.size, 0, none⟩ (.slice (some ⟨g, 0, none⟩) (pre.length + 1) cap)).heap[w.heap.size + 2]? = W.heap[w.heap.size + 2]? ∧ (w2.setCell ⟨w.heap.size, 0, none⟩ (.slice (some ⟨g, 0, none⟩) (pre.length + 1) cap)).heap[w.heap.size + 2 + 1]? = W.heap[w.heap.size + 2 + 1]? ∧ (w2.setCell ⟨w.heap.size, 0, none⟩ (.slice (some ⟨g, 0, none⟩) (pre.length + 1) cap)).heap[w.heap.size + 1]? = W.heap[w.heap.size + 1]?) ∧ BoxRow w (pre ++ [x]) (w2.setCell ⟨w.heap.size, 0, none⟩ (.slice (some ⟨g, 0, none⟩) (pre.length + 1) cap))) ∧
        w2.cell? ⟨w.heap.size, 0, none⟩ = some v ∧ w2.frozen? ⟨w.heap.size, 0, none⟩ = false := by
      intro w1 hb1
      have ho1 := owns_below hrowd hb1
      have hs1 := hb1.size
      have hbd : Boxed w1 w.heap.size 28 v := (hb1.block w.heap.size (by simp; omega)).trans hv
      obtain ⟨v', w2, hrun, hown', hgrow, _⟩ := run_append_own (P := Tryz.prog) (w := w1.alloc (.cells #[.string x] 9)) (w.heap.size + 4) 28 28 9 i0 _ 1 16 Tryz.underlying28 hi hz0 hz1 hz2 rfl (by decide) _ _ _ (ho1.alloc _) ⟨w1.heap.size, 0, none⟩ 1 1 [.string x] rfl (cell_one_new _ _ _) (by simp [Value.oneCell']) (by unfold maxLen; omega) (by omega) (by simp at hs1 ⊢; omega)
      have hbd2 : Boxed w2 w.heap.size 28 v := (hbd.alloc _).kept hgrow (fun e => by have := hvb _ e.symm; omega)
      have hkeep : ∀ k, w.heap.size < k → k < w.heap.size + 4 → (w2.setCell ⟨w.heap.size, 0, none⟩ v').heap[k]? = W.heap[k]? := fun k hk1 hk2 => by
        rw [Below.heap_setCell w2 ⟨w.heap.size, 0, none⟩ v' k (by simp; omega), hgrow.block k (by simp at hs1 ⊢; omega) (fun e => by have := hvb _ e.symm; omega)]
        rw [Below.heap_alloc _ _ _ (by simp at hs1; omega)]
        exact hb1.block k (by simp; omega)
      obtain ⟨g', cap', rfl⟩ := ownsRow_succ hown'
      refine ⟨g', cap', w2, hrun, ⟨⟨hkeep _ (by omega) (by omega), hkeep _ (by omega) (by omega), hkeep _ (by omega) (by omega)⟩, _, hbd2.set _, ?_, ?_, ?_⟩, hbd2.cell, hbd2.frozen⟩
      · have := hown'.kept (grownBy_setCell' w2 w.heap.size (.slice (some ⟨g', 0, none⟩) (pre.length + 1) cap')) (.inr (fun e => by have := owns_base hown' _ e; omega))
        simpa using this
      · exact ((hB.drew.trans (hb1.mono hB.size)).alloc (by have := hB.size; simp at hs1; omega) _).grown hgrow (by simp at hs1 ⊢; omega) (fun k e => by have := hvb _ e; omega) |>.setCell (p := ⟨w.heap.size, 0, none⟩) (Nat.le_refl _) _
      · have := hgrow.size
        simp at hs1 this ⊢
        omega
    gi_wp2
    refine wpIn_region_any (by kernel_rfl) ?_
    change wpAnyIn _ _ _ _ _ _ _ _ _ (World.drew _)
    refine wpAnyIn_ready (rs := [0, 1]) (by kernel_rfl) (by simp) ?_
    refine AllReadyIn.cons rfl (fun K hK => ?_) ?_
    · go_simp
      refine hK _ _ ?_
      clear hK K
      refine wpAnyIn_ready (rs := [1]) (by kernel_rfl) (by simp) ?_
      refine AllReadyIn.cons rfl (fun K hK => ?_) AllReadyIn.nil
      go_simp
      refine hK _ _ ?_
      clear hK K
      refine wpAnyIn_ready (rs := [2]) (by kernel_rfl) (by simp) ?_
      refine AllReadyIn.cons rfl (fun K hK => ?_) AllReadyIn.nil
      go_simp
      refine ⟨trivial, hcl.mono ?_⟩
      rintro e w1 ⟨rfl, hb1⟩
      refine hK _ _ ?_
      clear hK K
      obtain ⟨g', cap', w2, hrun, hfin, hc2, hf2⟩ := hafter w1 hb1
      have hcv1 := cell_later hb1 hcd
      have hc1a : (w1.alloc (.cells #[.string x] 9)).cell? ⟨w.heap.size, 0, none⟩ = some v := cell_kept hcv1 (World.grownBy_alloc w1 _ none) (fun r e => by cases e)
      refine wpAnyIn_ready (rs := [3]) (by kernel_rfl) (by simp) ?_
      refine AllReadyIn.cons rfl (fun K hK => ?_) AllReadyIn.nil
      go_simp
      refine hK _ _ ?_
      clear hK K
      refine wpAnyIn_ready (rs := [4]) (by kernel_rfl) (by simp) ?_
      refine AllReadyIn.cons rfl (fun K hK => ?_) AllReadyIn.nil
      refine stepIn_append _ (by rfl) _ _ 28 (by rfl) (by rfl) (by rfl) hrun ?_
      refine hK _ _ ?_
      clear hK K hrun
      refine wpAnyIn_ready (rs := [5]) (by kernel_rfl) (by simp) ?_
      refine AllReadyIn.cons rfl (fun K hK => ?_) AllReadyIn.nil
      go_simp
      refine hK _ _ ?_
      clear hK K
      refine wpAnyIn_done (by kernel_rfl) ?_ _
      gi_wp2
      exact hfin
    · refine AllReadyIn.cons rfl (fun K hK => ?_) AllReadyIn.nil
      go_simp
      refine hK _ _ ?_
      clear hK K
      refine wpAnyIn_ready (rs := [0, 2]) (by kernel_rfl) (by simp) ?_
      refine AllReadyIn.cons rfl (fun K hK => ?_) ?_
      · go_simp
        refine hK _ _ ?_
        clear hK K
        refine wpAnyIn_ready (rs := [2]) (by kernel_rfl) (by simp) ?_
        refine AllReadyIn.cons rfl (fun K hK => ?_) AllReadyIn.nil
        go_simp
        refine ⟨trivial, hcl.mono ?_⟩
        rintro e w1 ⟨rfl, hb1⟩
        refine hK _ _ ?_
        clear hK K
        obtain ⟨g', cap', w2, hrun, hfin, hc2, hf2⟩ := hafter w1 hb1
        have hcv1 := cell_later hb1 hcd
        have hc1a : (w1.alloc (.cells #[.string x] 9)).cell? ⟨w.heap.size, 0, none⟩ = some v := cell_kept hcv1 (World.grownBy_alloc w1 _ none) (fun r e => by cases e)
        refine wpAnyIn_ready (rs := [3]) (by kernel_rfl) (by simp) ?_
        refine AllReadyIn.cons rfl (fun K hK => ?_) AllReadyIn.nil
        go_simp
        refine hK _ _ ?_
        clear hK K
        refine wpAnyIn_ready (rs := [4]) (by kernel_rfl) (by simp) ?_
        refine AllReadyIn.cons rfl (fun K hK => ?_) AllReadyIn.nil
        refine stepIn_append _ (by rfl) _ _ 28 (by rfl) (by rfl) (by rfl) hrun ?_
        refine hK _ _ ?_
        clear hK K hrun
        refine wpAnyIn_ready (rs := [5]) (by kernel_rfl) (by simp) ?_
        refine AllReadyIn.cons rfl (fun K hK => ?_) AllReadyIn.nil
        go_simp
        refine hK _ _ ?_
        clear hK K
        refine wpAnyIn_done (by kernel_rfl) ?_ _
        gi_wp2
        exact hfin
      · refine AllReadyIn.cons rfl (fun K hK => ?_) AllReadyIn.nil
        go_simp
        refine ⟨trivial, hcl.mono ?_⟩
        rintro e w1 ⟨rfl, hb1⟩
        refine hK _ _ ?_
        clear hK K
        obtain ⟨g', cap', w2, hrun, hfin, hc2, hf2⟩ := hafter w1 hb1
        have hcv1 := cell_later hb1 hcd
        have hc1a : (w1.alloc (.cells #[.string x] 9)).cell? ⟨w.heap.size, 0, none⟩ = some v := cell_kept hcv1 (World.grownBy_alloc w1 _ none) (fun r e => by cases e)
        refine wpAnyIn_ready (rs := [0, 3]) (by kernel_rfl) (by simp) ?_
        refine AllReadyIn.cons rfl (fun K hK => ?_) ?_
        · go_simp
          refine hK _ _ ?_
          clear hK K
          refine wpAnyIn_ready (rs := [3]) (by kernel_rfl) (by simp) ?_
          refine AllReadyIn.cons rfl (fun K hK => ?_) AllReadyIn.nil
          go_simp
          refine hK _ _ ?_
          clear hK K
          refine wpAnyIn_ready (rs := [4]) (by kernel_rfl) (by simp) ?_
          refine AllReadyIn.cons rfl (fun K hK => ?_) AllReadyIn.nil
          refine stepIn_append _ (by rfl) _ _ 28 (by rfl) (by rfl) (by rfl) hrun ?_
          refine hK _ _ ?_
          clear hK K hrun
          refine wpAnyIn_ready (rs := [5]) (by kernel_rfl) (by simp) ?_
          refine AllReadyIn.cons rfl (fun K hK => ?_) AllReadyIn.nil
          go_simp
          refine hK _ _ ?_
          clear hK K
          refine wpAnyIn_done (by kernel_rfl) ?_ _
          gi_wp2
          exact hfin
        · refine AllReadyIn.cons rfl (fun K hK => ?_) AllReadyIn.nil
          go_simp
          refine hK _ _ ?_
          clear hK K
          refine wpAnyIn_ready (rs := [0]) (by kernel_rfl) (by simp) ?_
          refine AllReadyIn.cons rfl (fun K hK => ?_) AllReadyIn.nil
          go_simp
          refine hK _ _ ?_
          clear hK K
          refine wpAnyIn_ready (rs := [4]) (by kernel_rfl) (by simp) ?_
          refine AllReadyIn.cons rfl (fun K hK => ?_) AllReadyIn.nil
          refine stepIn_append _ (by rfl) _ _ 28 (by rfl) (by rfl) (by rfl) hrun ?_
          refine hK _ _ ?_
          clear hK K hrun
          refine wpAnyIn_ready (rs := [5]) (by kernel_rfl) (by simp) ?_
          refine AllReadyIn.cons rfl (fun K hK => ?_) AllReadyIn.nil
          go_simp
          refine hK _ _ ?_
          clear hK K
          refine wpAnyIn_done (by kernel_rfl) ?_ _
          gi_wp2
          exact hfin
  case done =>
    rintro W ⟨v, hv, hrow, hB, hge⟩ hK
    have hcv := hv.cell
    rw [hS0] at hK ⊢
    obtain ⟨ad, cp, rfl⟩ := owns_slice hrow
    gi_wp2
    refine ⟨by simp, .inl ⟨_, _, rfl, run_takeDeferred hK, ?_⟩⟩
    exact ⟨_, results_tmp rfl _ _ _, ad, cp, rfl, owns_low (ownsRow_putObj hrow _ hK rfl) (by omega), hB.trans (belowK_b (w := w) (Nat.le_refl _) W _ _ _ (by omega) hK rfl rfl)⟩
set_option maxHeartbeats 1000000 in
theorem implLines_big (s : ByteArray) (hs : 1500 < s.size) (w : World) :
    Calls Tryz.prog 80 #[.string s] w fun e w' => LinesPost [] w e w' := by
  have hsm : (1500 : Int) < s.size := by omega
  refine (callsIn_wide (n := 5)).1 ?_
  refine callsIn_of_wp_marks Tryz.func80 rfl trivial ?_ rfl
  simp only [Tryz.ntmps80, List.size_toArray, List.length_cons, List.length_nil, Nat.reduceAdd, Nat.reduceSub, Array.replicate_succ, Array.replicate_zero, List.push_toArray, List.append_toArray, List.nil_append, List.cons_append]
  gi_wp2
  exact ⟨_, results_tmp rfl _ _ _, none, 0, rfl, World.ownsRow_nil _ _ _ _, Below.refl _ _⟩

/-- The lines of a text; none if it has more than 1500 bytes. -/
theorem implLines_any (s : ByteArray) (w : World) :
    Calls Tryz.prog 80 #[.string s] w fun e w' => LinesPost (linesT s) w e w' := by
  by_cases h : s.size ≤ 1500
  · rw [linesT, if_pos h]; exact implLines_small s h w
  · rw [linesT, if_neg h]; exact implLines_big s (by omega) w
end Go.Proofs.YtjiafjdjocmodaaGreat

namespace Go.Proofs.YtjiafjdjocmodaaGreat
open Go.RowKit

/-- Places, each behind the one before, in bounds. -/
def Chain (lb la lc : List ByteArray) : Pl → List Pl → Prop
  | _, [] => True
  | f, t :: ts => f.1 ≤ t.1 ∧ f.2.1 ≤ t.2.1 ∧ f.2.2 ≤ t.2.2 ∧ t.1 ≤ lb.length ∧ t.2.1 ≤ la.length ∧ t.2.2 ≤ lc.length ∧ Chain lb la lc t ts
theorem chain_of {lb la lc : List ByteArray} : ∀ {ts : List Pl} {f : Pl}, Stands lb la lc f ts → f.1 ≤ lb.length → f.2.1 ≤ la.length → f.2.2 ≤ lc.length → Chain lb la lc f (ts ++ [(lb.length, la.length, lc.length)])
  | [], f, _, h1, h2, h3 => ⟨h1, h2, h3, Nat.le_refl _, Nat.le_refl _, Nat.le_refl _, trivial⟩
  | t :: ts, f, h, h1, h2, h3 => by
    obtain ⟨a1, a2, a3, a4, a5, a6, _, _, hr⟩ := h
    exact ⟨a1, a2, a3, by omega, by omega, by omega, chain_of (hr.mono (by simp) (by simp) (by simp)) (by omega) (by omega) (by omega)⟩

theorem plC_get : ∀ (ts : List Pl) (i : Nat) (h : i < ts.length), (plC ts)[i * 3]? = some (.int .i64 (ts[i].1 : Int)) ∧ (plC ts)[i * 3 + 1]? = some (.int .i64 (ts[i].2.1 : Int)) ∧ (plC ts)[i * 3 + 2]? = some (.int .i64 (ts[i].2.2 : Int))
  | [], i, h => by simp at h
  | p :: ps, 0, h => by simp [plC]
  | p :: ps, i + 1, h => by
    have ih := plC_get ps i (by simpa using h)
    have e : plC (p :: ps) = .int .i64 (p.1 : Int) :: .int .i64 (p.2.1 : Int) :: .int .i64 (p.2.2 : Int) :: plC ps := by simp [plC]
    rw [e, show (i + 1) * 3 = i * 3 + 1 + 1 + 1 by omega]
    simpa using ih

theorem rdp_of_row {w : World} {base : Nat} {ad : Option Addr} {cp : Nat} {ps : List (Nat × Nat)} (h : w.ownsRow base 146 2 (.slice ad ps.length cp) ps.length (pairC ps)) : RdP w (.slice ad ps.length cp) ps := by
  refine ⟨ad, cp, rfl, ?_, ps_of_row h⟩
  rcases h.2 with ⟨hv, h0⟩ | ⟨g, c, cur, hv, _, _, h4, _⟩
  · omega
  · cases hv; exact h4

theorem row_ne {v : Value} {row : Option Nat} (h : ∀ k, v.ownBlock = some k → row = some k → False) : v.ownBlock = none ∨ v.ownBlock ≠ row := by
  cases hv : v.ownBlock with
  | none => exact .inl rfl
  | some k => exact .inr (fun e => h k hv e.symm)

set_option maxRecDepth 20000 in
set_option maxHeartbeats 8000000 in
theorem implMerge_small (sb sa sc : ByteArray) (pa pb : List (Nat × Nat)) (w : World) (h1 : sb.size ≤ 1500) (h2 : sa.size ≤ 1500) (h3 : sc.size ≤ 1500) (hpa : CommT (linesB sb) (linesB sa) pa) (hpb : CommT (linesB sb) (linesB sc) pb) :
    Calls Tryz.prog 61 #[.string sb, .string sa, .string sc] w fun e w' => e = .returned (mrgV (mergeL (linesB sb) (linesB sa) (linesB sc) pa pb)) ∧ Below w.heap.size w w' := by
  obtain ⟨ti, hti, hz0, hz1, hz2⟩ := info_parts Tryz.infoPlace
  have e1 : decide ((1500 : Int) < sb.size) = false := by simp; omega
  have e2 : decide ((1500 : Int) < sa.size) = false := by simp; omega
  have e3 : decide ((1500 : Int) < sc.size) = false := by simp; omega
  have cLb := fun W => implLines_any sb W
  have cLa := fun W => implLines_any sa W
  have cLc := fun W => implLines_any sc W
  unfold linesT at cLb cLa cLc
  rw [if_pos h1] at cLb
  rw [if_pos h2] at cLa
  rw [if_pos h3] at cLc
  have nb := linesB_le sb
  have na := linesB_le sa
  have nc := linesB_le sc
  have gb := seg_lines sb
  have ga := seg_lines sa
  have gc := seg_lines sc
  have zb : ∀ x ∈ linesB sb, x.size ≤ 1099511627776 := fun x hx => by have := line_size hx; omega
  have za : ∀ x ∈ linesB sa, x.size ≤ 1099511627776 := fun x hx => by have := line_size hx; omega
  have zc : ∀ x ∈ linesB sc, x.size ≤ 1099511627776 := fun x hx => by have := line_size hx; omega
  generalize linesB sb = lb at *
  generalize linesB sa = la at *
  generalize linesB sc = lc at *
  have hla := hpa.len
  have hlc := hpb.len
  have hAa := hpa.asc
  have hAb := hpb.asc
  have hch := chain_of (stands_all hpa hpb) (Nat.zero_le _) (Nat.zero_le _) (Nat.zero_le _)
  have hpl := placesP_len pa pb
  obtain ⟨Z, hZ⟩ : ∃ Z, mergeL lb la lc pa pb = Z := ⟨_, rfl⟩
  rw [hZ]
  have HZ : NKeep (runI lb la lc (0, 0, 0) (placesP pa pb ++ [(lb.length, la.length, lc.length)]) = Z) := ⟨hZ⟩
  clear hZ
  have cSt := fun a1 c1 v2 W k1 k2 => standing_any lb la lc pa pb a1 c1 v2 W k1 k2 hAa hAb hla hlc
  generalize placesP pa pb = ts at *
  go_enter Tryz.func61, Tryz.ntmps61
  go_wp2_with fail
  refine (cLb _).mono ?_
  rintro e w1 ⟨a1, c1, rfl, o1, b1⟩
  have hl1 : ∀ k, (Value.slice a1 lb.length c1).ownBlock = some k → k < w1.heap.size := fun k hk => own_lt o1 hk
  go_wp2_with fail
  refine (cLa _).mono ?_
  rintro e w2 ⟨a2, c2, rfl, o2, b2⟩
  have hl2 : ∀ k, (Value.slice a2 la.length c2).ownBlock = some k → k < w2.heap.size := fun k hk => own_lt o2 hk
  have bx2 := b1.trans (b2.mono b1.size)
  replace o1 := owns_below o1 b2
  go_wp2_with fail
  refine (cLc _).mono ?_
  rintro e w3 ⟨a3, c3, rfl, o3, b3⟩
  have hl3 : ∀ k, (Value.slice a3 lc.length c3).ownBlock = some k → k < w3.heap.size := fun k hk => own_lt o3 hk
  have bx3 := bx2.trans (b3.mono bx2.size)
  replace o1 := owns_below o1 b3
  replace o2 := owns_below o2 b3
  clear cLb cLa cLc
  go_wp2_with fail
  refine (implCommon_any a1 a2 c1 c2 lb la pa w3 (rdl_of_row o1).2 (rdl_of_row o2).2 hpa zb za).mono ?_
  rintro e w4 ⟨a4, c4, rfl, o4, b4⟩
  have bx4 := bx3.trans (b4.mono bx3.size)
  replace o1 := owns_below o1 b4
  replace o2 := owns_below o2 b4
  replace o3 := owns_below o3 b4
  go_wp2_with fail
  refine (implCommon_any a1 a3 c1 c3 lb lc pb w4 (rdl_of_row o1).2 (rdl_of_row o3).2 hpb zb zc).mono ?_
  rintro e w5 ⟨a5, c5, rfl, o5, b5⟩
  have bx5 := bx4.trans (b5.mono bx4.size)
  replace o1 := owns_below o1 b5
  replace o2 := owns_below o2 b5
  replace o3 := owns_below o3 b5
  replace o4 := owns_below o4 b5
  go_wp2_with fail
  refine (cSt a4 c4 _ w5 (ps_of_row o4) (rdp_of_row o5)).mono ?_
  rintro e w6 ⟨a6, c6, rfl, o6, b6⟩
  have bx6 := bx5.trans (b6.mono bx5.size)
  replace o1 := owns_below o1 b6
  replace o2 := owns_below o2 b6
  replace o3 := owns_below o3 b6
  have hs56 := b6.size
  have hr1 : ∀ k, (Value.slice a1 lb.length c1).ownBlock = some k → k < w5.heap.size := fun k hk => Nat.lt_of_lt_of_le (hl1 k hk) (Nat.le_trans (Nat.le_trans (Nat.le_trans b2.size b3.size) b4.size) b5.size)
  have hr2 : ∀ k, (Value.slice a2 la.length c2).ownBlock = some k → k < w5.heap.size := fun k hk => Nat.lt_of_lt_of_le (hl2 k hk) (Nat.le_trans (Nat.le_trans b3.size b4.size) b5.size)
  have hr3 : ∀ k, (Value.slice a3 lc.length c3).ownBlock = some k → k < w5.heap.size := fun k hk => Nat.lt_of_lt_of_le (hl3 k hk) (Nat.le_trans b4.size b5.size)
  have h65 := owns_base o6
  clear o4 o5 cSt b1 b2 b3 b4 b5 b6 bx2 bx3 bx4 hpa hpb hAa hAb zb za zc hl1 hl2 hl3
  have hs6 := bx6.size
  go_wp2_with (at_builtin; refine wpList_append_own _ rfl _ _ 107 rfl w5.heap.size 112 ti _ 3 24 Tryz.underlying107 hti hz0 hz1 hz2 rfl (by decide) _ _ _ rfl (o6.alloc _) ⟨w6.heap.size, 0, none⟩ 1 1 [.int .i64 (lb.length : Int), .int .i64 (la.length : Int), .int .i64 (lc.length : Int)] rfl rfl (fun j' u h => World.news_of_block (w := w6.alloc _) (heap_alloc_new _ _) j' u h) (by simp [Value.oneCell']) (by unfold maxLen; omega) (by omega) (by simp; omega) ?_; intro v7 w7 o7 g7 _; obtain ⟨a7, c7, rfl⟩ := owns_slice o7)
  have bx7 : Below w.heap.size w w7 := (bx6.alloc hs6 _).grown g7 (by simp; omega) (fun k hk => by have := h65 k hk; have := bx5.size; omega)
  obtain ⟨q1, s1⟩ := rdl_of_row ((o1.alloc _).kept g7 (row_ne (fun k hk e => by have := hr1 k hk; have := h65 k e; omega)))
  obtain ⟨q2, s2⟩ := rdl_of_row ((o2.alloc _).kept g7 (row_ne (fun k hk e => by have := hr2 k hk; have := h65 k e; omega)))
  obtain ⟨q3, s3⟩ := rdl_of_row ((o3.alloc _).kept g7 (row_ne (fun k hk e => by have := hr3 k hk; have := h65 k e; omega)))
  rw [← plC_snoc] at o7
  have hs7 := bx7.size
  clear o1 o2 o3 o6 hr1 hr2 hr3 h65 g7 hs56 hs6 bx6 bx5
  obtain ⟨al, hal⟩ : ∃ al, al = ts ++ [(lb.length, la.length, lc.length)] := ⟨_, rfl⟩
  obtain ⟨N1, hN1⟩ : ∃ N1, N1 = ts.length + 1 := ⟨_, rfl⟩
  have hall : al.length = N1 := by rw [hal, hN1]; simp
  rw [← hal] at hch o7
  have HZ1 : NKeep (runI lb la lc (0, 0, 0) al = Z) := ⟨by rw [hal]; exact HZ.out⟩
  rw [← hN1] at o7
  rw [← hN1, show ((ts.length : Int) + 1) = (N1 : Int) by omega]
  have hN2 : N1 ≤ 1501 := by omega
  obtain ⟨g7, hg7, o7c⟩ : ∃ g7, a7 = some ⟨g7, 0, none⟩ ∧ ∀ k (hk : k < al.length), w7.cell? ⟨g7, k * 3, none⟩ = some (.int .i64 (al[k].1 : Int)) ∧ w7.cell? ⟨g7, k * 3 + 1, none⟩ = some (.int .i64 (al[k].2.1 : Int)) ∧ w7.cell? ⟨g7, k * 3 + 2, none⟩ = some (.int .i64 (al[k].2.2 : Int)) := by
    rcases o7.2 with ⟨_, h0⟩ | ⟨g, c, cur, hv, _⟩
    · omega
    · cases hv
      refine ⟨g, rfl, fun k hk => ?_⟩
      obtain ⟨x0, x1, x2⟩ := plC_get al k hk
      exact ⟨(World.ownsRow.cellAt o7 _ (by omega)).trans x0, (World.ownsRow.cellAt o7 _ (by omega)).trans x1, (World.ownsRow.cellAt o7 _ (by omega)).trans x2⟩
  rw [hg7]
  obtain ⟨W0, hW0⟩ : ∃ W0, (w7.alloc (.cells #[.pointer none, .slice none 0 0] 115)).alloc (.cells #[.int .i64 0, .int .i64 0, .int .i64 0] 112) = W0 := ⟨_, rfl⟩
  have hb0 : Below w7.heap.size w7 W0 := by rw [← hW0]; exact ((Below.refl _ _).alloc (Nat.le_refl _) _).alloc (by simp) _
  have hf0 : W0.heap[w7.heap.size + 1]? = some (.cells #[.int .i64 0, .int .i64 0, .int .i64 0] 112) := by rw [← hW0]; exact heap_alloc2 w7 _ _
  have hm0 : BldM w7.heap.size w7.heap.size [] W0 := by
    refine .inl ⟨Nat.le_refl _, .slice none 0 0, ?_, ⟨rfl, .inl ⟨rfl, rfl⟩⟩, by simp [Value.ownBlock]⟩
    rw [← hW0]
    exact (Below.heap_alloc _ _ _ (by simp)).trans (heap_alloc_new w7 _)
  rw [hW0]
  clear hW0 hal hN1 hg7 o7 HZ
  go_loopg [56] N1 (fun gk ix wr => ∃ (k : Nat) (f : Pl) (out : List UInt8), k + gk = N1 ∧ ix = .int .i64 (k : Int) ∧ NKeep (Chain lb la lc f (al.drop k) ∧ Z = (runI lb la lc f (al.drop k)).map (out ++ ·)) ∧ out.length ≤ 1500 * k ∧ NKeep (BldM w7.heap.size w7.heap.size out wr) ∧
    wr.heap[w7.heap.size + 1]? = some (.cells #[.int .i64 (f.1 : Int), .int .i64 (f.2.1 : Int), .int .i64 (f.2.2 : Int)] 112) ∧ Below w7.heap.size w7 wr)
  case atStart => exact ⟨0, (0, 0, 0), [], by omega, rfl, ⟨hch, by rw [← HZ1.out]; simp⟩, Nat.zero_le _, ⟨hm0⟩, hf0, hb0⟩
  case round =>
    obtain ⟨k, f, out, hkg, rfl, HK, hol, HM, hF, hB⟩ := hrel
    have hbw : Below w.heap.size w wr := bx7.trans (hB.mono hs7)
    have hsB := hB.size
    cases gk with
    | zero =>
      obtain rfl : k = N1 := by omega
      have HZ2 : NKeep (Z = some out) := ⟨by rw [HK.out.2, List.drop_of_length_le (by omega)]; simp [runI]⟩
      have hstr := stringB_any w7.heap.size w7.heap.size out wr HM.out hsB
      go_wp2_with (go_at_call 86; refine hstr.mono ?_; rintro e w8 ⟨rfl, hb8⟩)
      go_ret2
      rw [HZ2.out]
      exact ⟨rfl, hbw.trans (hb8.mono hs7)⟩
    | succ gq =>
      have hk : k < al.length := by omega
      have hk' : (k : Int) < N1 := by omega
      have hdr : al.drop k = al[k] :: al.drop (k + 1) := List.drop_eq_getElem_cons hk
      obtain ⟨x0', x1', x2'⟩ := o7c k hk
      have x0 := cell_later hB x0'
      have x1 := cell_later hB x1'
      have x2 := cell_later hB x2'
      clear x0' x1' x2'
      have HK2 := HK.out
      rw [hdr] at HK2
      obtain ⟨t, ht⟩ : ∃ t, al[k] = t := ⟨_, rfl⟩
      rw [ht] at HK2 x0 x1 x2
      obtain ⟨⟨y1, y2, y3, y4, y5, y6, hcn⟩, hzz⟩ := HK2
      rw [runI] at hzz
      have HCN : NKeep (Chain lb la lc t (al.drop (k + 1))) := ⟨hcn⟩
      clear hdr ht hcn HK
      obtain ⟨f1, f2, f3⟩ := f
      obtain ⟨t1, t2, t3⟩ := t
      simp only at y1 y2 y3 y4 y5 y6 hzz x0 x1 x2 hF
      go_wp2
      obtain ⟨q, hq⟩ : ∃ q, wr.heap.size = q := ⟨_, rfl⟩
      obtain ⟨W2, hW2⟩ : ∃ W2, wr.alloc (.cells #[.int .i64 (t1 : Int), .int .i64 (t2 : Int), .int .i64 (t3 : Int)] 112) = W2 := ⟨_, rfl⟩
      have hb2 : Below wr.heap.size wr W2 := by rw [← hW2]; exact (Below.refl _ _).alloc (Nat.le_refl _) _
      have hbF : w7.heap.size + 1 < wr.heap.size := (Array.getElem?_eq_some_iff.1 hF).1
      have hq2 : W2.heap[q]? = some (.cells #[.int .i64 (t1 : Int), .int .i64 (t2 : Int), .int .i64 (t3 : Int)] 112) := by rw [← hW2, ← hq]; exact heap_alloc_new wr _
      have hF2 := (hb2.block _ hbF).trans hF
      have HM2 : NKeep (BldM w7.heap.size w7.heap.size out W2) := ⟨HM.out.below hb2⟩
      have hB2 : Below w7.heap.size w7 W2 := hB.trans (hb2.mono hsB)
      have hsz2 : wr.heap.size < W2.heap.size := by rw [hq]; exact (Array.getElem?_eq_some_iff.1 hq2).1
      rw [hq, hW2]
      have hbw2 : Below w.heap.size w W2 := bx7.trans (hB2.mono hs7)
      clear hW2 HM hF hb2 hB hbw x0 x1 x2
      obtain ⟨v1, hsl1, hr1⟩ := mid_at q1 (s1.below hB2) y1 y4
      obtain ⟨v2, hsl2, hr2⟩ := mid_at q2 (s2.below hB2) y2 y5
      obtain ⟨v3, hsl3, hr3⟩ := mid_at q3 (s3.below hB2) y3 y6
      have l1 := gb f1 t1
      have l2 := ga f2 t2
      have l3 := gc f3 t3
      have J1 : NKeep (∀ x : Later W2, Calls Tryz.prog 84 #[v1, .string ⟨#[]⟩] x.world fun e w'' => e = .returned (.string (lnB (seg lb f1 t1))) ∧ ∃ y : Later W2, w'' = y.world) := ⟨fun x => x.call (join_any v1 _ x.world (hr1.below x.kept) (by simp; omega) (Nat.le_trans l1 (by omega)))⟩
      have J2 : NKeep (∀ x : Later W2, Calls Tryz.prog 84 #[v2, .string ⟨#[]⟩] x.world fun e w'' => e = .returned (.string (lnB (seg la f2 t2))) ∧ ∃ y : Later W2, w'' = y.world) := ⟨fun x => x.call (join_any v2 _ x.world (hr2.below x.kept) (by simp; omega) (Nat.le_trans l2 (by omega)))⟩
      have J3 : NKeep (∀ x : Later W2, Calls Tryz.prog 84 #[v3, .string ⟨#[]⟩] x.world fun e w'' => e = .returned (.string (lnB (seg lc f3 t3))) ∧ ∃ y : Later W2, w'' = y.world) := ⟨fun x => x.call (join_any v3 _ x.world (hr3.below x.kept) (by simp; omega) (Nat.le_trans l3 (by omega)))⟩
      have HCh := fun (x : Later W2) => x.call ((choose_any (lnB (seg lb f1 t1)) (lnB (seg la f2 t2)) (lnB (seg lc f3 t3)) x.world).mono (fun e w' h => ⟨h.1, by rw [h.2]; exact Below.refl _ _⟩))
      simp only [lnB_list] at HCh
      have hc0 : ∀ x : Later W2, x.world.cell? ⟨w7.heap.size + 1, 0, none⟩ = some (.int .i64 (f1 : Int)) := fun x => cell_later x.kept (by simp [World.cell?, hF2])
      have hc1 : ∀ x : Later W2, x.world.cell? ⟨w7.heap.size + 1, 1, none⟩ = some (.int .i64 (f2 : Int)) := fun x => cell_later x.kept (by simp [World.cell?, hF2])
      have hc2 : ∀ x : Later W2, x.world.cell? ⟨w7.heap.size + 1, 2, none⟩ = some (.int .i64 (f3 : Int)) := fun x => cell_later x.kept (by simp [World.cell?, hF2])
      have hd0 : ∀ x : Later W2, x.world.cell? ⟨q, 0, none⟩ = some (.int .i64 (t1 : Int)) := fun x => cell_later x.kept (by simp [World.cell?, hq2])
      have hd1 : ∀ x : Later W2, x.world.cell? ⟨q, 1, none⟩ = some (.int .i64 (t2 : Int)) := fun x => cell_later x.kept (by simp [World.cell?, hq2])
      have hd2 : ∀ x : Later W2, x.world.cell? ⟨q, 2, none⟩ = some (.int .i64 (t3 : Int)) := fun x => cell_later x.kept (by simp [World.cell?, hq2])
      generalize seg lb f1 t1 = X at *
      generalize seg la f2 t2 = Y at *
      generalize seg lc f3 t3 = U at *
      clear hr1 hr2 hr3
      cases h3v : three X Y U with
      | none =>
        rw [h3v] at HCh hzz
        have HC : NKeep (∀ x : Later W2, Calls Tryz.prog 83 #[.string (lnB X), .string (lnB Y), .string (lnB U)] x.world fun e w'' => e = .returned (.tuple #[.string ⟨#[]⟩, .bool false]) ∧ ∃ y : Later W2, w'' = y.world) := ⟨HCh⟩
        have HF : NKeep (Z = none) := ⟨by rw [hzz]; rfl⟩
        clear HCh hzz h3v
        generalize lnB X = X' at *
        generalize lnB Y = Y' at *
        generalize lnB U = U' at *
        (haveI := later_any; refine wp_region_later (by kernel_rfl) (by kernel_rfl) ?_; (repeat (go_big_quiet_step (first | (go_at_call_of 84 v1; exact J1.out _) | (go_at_call_of 84 v2; exact J2.out _) | (go_at_call_of 84 v3; exact J3.out _) | (go_at_call 83; exact HC.out _)))); refine wpQuiet_nil ?_; intro _ hwq; obtain ⟨xq, hwq2⟩ := hwq; subst hwq2)
        go_wp2
        go_ret2
        rw [HF.out]
        exact ⟨rfl, hbw2.trans (xq.kept.mono hbw2.size)⟩
      | some s =>
        rw [h3v] at HCh hzz
        have HC : NKeep (∀ x : Later W2, Calls Tryz.prog 83 #[.string (lnB X), .string (lnB Y), .string (lnB U)] x.world fun e w'' => e = .returned (.tuple #[.string (lnB s), .bool true]) ∧ ∃ y : Later W2, w'' = y.world) := ⟨HCh⟩
        have hsl := three_le h3v (Nat.le_trans l2 h2) (Nat.le_trans l3 h3)
        have HZ3 : NKeep (Z = (runI lb la lc (t1, t2, t3) (al.drop (k + 1))).map ((out ++ s) ++ ·)) := ⟨by
          rw [hzz]
          cases runI lb la lc (t1, t2, t3) (al.drop (k + 1)) <;> simp⟩
        have hsS : (lnB s).size = s.length := lnB_size s
        clear HCh hzz h3v
        generalize lnB X = X' at *
        generalize lnB Y = Y' at *
        generalize lnB U = U' at *
        (haveI := later_any; refine wp_region_later (by kernel_rfl) (by kernel_rfl) ?_; (repeat (go_big_quiet_step (first | (go_at_call_of 84 v1; exact J1.out _) | (go_at_call_of 84 v2; exact J2.out _) | (go_at_call_of 84 v3; exact J3.out _) | (go_at_call 83; exact HC.out _)))); refine wpQuiet_nil ?_; intro _ hwq; obtain ⟨xq, hwq2⟩ := hwq; subst hwq2)
        have hwr := writeS_any w7.heap.size w7.heap.size out (lnB s) xq.world (HM2.out.below xq.kept) (by rw [hsS]; omega) (Nat.le_trans hB2.size xq.kept.size)
        have hFx := (xq.kept.block _ (Nat.lt_trans hbF hsz2)).trans hF2
        have hqx := (xq.kept.block q (by omega)).trans hq2
        clear hsS
        go_wp2_with (go_at_call 85; refine hwr.mono ?_; rintro e w8 ⟨rfl, hm8, hb8, ho8⟩
                     have hF8 := ho8 _ _ hFx (by simp) (by simp)
                     have hq8 := ho8 _ _ hqx (by simp; omega) (by simp)
                     have z0 : w8.cell? ⟨q, 0, none⟩ = some (.int .i64 (t1 : Int)) := by simp [World.cell?, hq8]
                     have z1 : w8.cell? ⟨q, 1, none⟩ = some (.int .i64 (t2 : Int)) := by simp [World.cell?, hq8]
                     have z2 : w8.cell? ⟨q, 2, none⟩ = some (.int .i64 (t3 : Int)) := by simp [World.cell?, hq8]
                     have c80 : w8.cell? ⟨w7.heap.size + 1, 0, none⟩ = some (.int .i64 (f1 : Int)) := by simp [World.cell?, hF8]
                     have c81 : w8.cell? ⟨w7.heap.size + 1, 1, none⟩ = some (.int .i64 (f2 : Int)) := by simp [World.cell?, hF8]
                     have c82 : w8.cell? ⟨w7.heap.size + 1, 2, none⟩ = some (.int .i64 (f3 : Int)) := by simp [World.cell?, hF8]
                     have d80 : w8.frozen? ⟨w7.heap.size + 1, 0, none⟩ = false := by simp [World.frozen?, hF8]
                     have d81 : w8.frozen? ⟨w7.heap.size + 1, 1, none⟩ = false := by simp [World.frozen?, hF8]
                     have d82 : w8.frozen? ⟨w7.heap.size + 1, 2, none⟩ = false := by simp [World.frozen?, hF8])
        have hF9 := heap_setCell_same w8 (w7.heap.size + 1) 0 _ _ (.int .i64 (t1 : Int)) hF8
        have hF10 := heap_setCell_same _ (w7.heap.size + 1) 1 _ _ (.int .i64 (t2 : Int)) hF9
        have hF11 := heap_setCell_same _ (w7.heap.size + 1) 2 _ _ (.int .i64 (t3 : Int)) hF10
        go_roundg gq
        case measure => omega
        case rel =>
          refine ⟨k + 1, (t1, t2, t3), out ++ s, by omega, by go_num, ⟨HCN.out, HZ3.out⟩, by simp; omega, ⟨?_⟩, ?_, ?_⟩
          · have := ((hm8.set hF8 (by decide) (by omega) 0 (.int .i64 (t1 : Int))).set hF9 (by decide) (by omega) 1 (.int .i64 (t2 : Int))).set hF10 (by decide) (by omega) 2 (.int .i64 (t3 : Int))
            rw [lnB_list] at this
            exact this
          · exact hF11
          · exact ((((hB2.trans (xq.kept.mono hB2.size)).trans hb8).setCell (p := ⟨w7.heap.size + 1, 0, none⟩) (by simp) _).setCell (p := ⟨w7.heap.size + 1, 1, none⟩) (by simp) _).setCell (p := ⟨w7.heap.size + 1, 2, none⟩) (by simp) _
end Go.Proofs.YtjiafjdjocmodaaGreat

namespace Go.Proofs.YtjiafjdjocmodaaGreat
open Go.RowKit

/-- What merging three texts gives, and both sides give it. -/
def MText (sb sa sc : ByteArray) (o : Option (List UInt8)) : Prop :=
  (sb.size ≤ 1500 ∧ sa.size ≤ 1500 ∧ sc.size ≤ 1500 ∧ ∃ pa pb, CommT (linesB sb) (linesB sa) pa ∧ CommT (linesB sb) (linesB sc) pb ∧ o = mergeL (linesB sb) (linesB sa) (linesB sc) pa pb) ∨ ((1500 < sb.size ∨ 1500 < sa.size ∨ 1500 < sc.size) ∧ o = none)
theorem exists_mtext (sb sa sc : ByteArray) : ∃ o, MText sb sa sc o := by
  by_cases h : sb.size ≤ 1500 ∧ sa.size ≤ 1500 ∧ sc.size ≤ 1500
  · obtain ⟨pa, ha⟩ := exists_commT (linesB sb) (linesB sa)
    obtain ⟨pb, hb⟩ := exists_commT (linesB sb) (linesB sc)
    exact ⟨_, .inl ⟨h.1, h.2.1, h.2.2, pa, pb, ha, hb, rfl⟩⟩
  · exact ⟨none, .inr ⟨by omega, rfl⟩⟩

set_option maxHeartbeats 2000000 in
theorem implMText_any (sb sa sc : ByteArray) (o : Option (List UInt8)) (w : World) (h : MText sb sa sc o) :
    Calls Tryz.prog 61 #[.string sb, .string sa, .string sc] w fun e w' => e = .returned (mrgV o) ∧ Below w.heap.size w w' := by
  rcases h with ⟨h1, h2, h3, pa, pb, ha, hb, rfl⟩ | ⟨hbig, rfl⟩
  · exact implMerge_small sb sa sc pa pb w h1 h2 h3 ha hb
  · by_cases h1 : 1500 < sb.size
    · have e1 : decide ((1500 : Int) < sb.size) = true := by simp; omega
      go_enter Tryz.func61, Tryz.ntmps61
      go_wp2
      go_ret2
      exact ⟨rfl, Below.refl _ _⟩
    · have e1 : decide ((1500 : Int) < sb.size) = false := by simp; omega
      by_cases h2 : 1500 < sa.size
      · have e2 : decide ((1500 : Int) < sa.size) = true := by simp; omega
        go_enter Tryz.func61, Tryz.ntmps61
        go_wp2
        go_ret2
        exact ⟨rfl, Below.refl _ _⟩
      · have e2 : decide ((1500 : Int) < sa.size) = false := by simp; omega
        have e3 : decide ((1500 : Int) < sc.size) = true := by simp; omega
        go_enter Tryz.func61, Tryz.ntmps61
        go_wp2
        go_ret2
        exact ⟨rfl, Below.refl _ _⟩

set_option maxHeartbeats 2000000 in
theorem specMText_any (sb sa sc : ByteArray) (o : Option (List UInt8)) (w : World) (h : MText sb sa sc o) :
    Calls Tryz.prog 68 #[.string sb, .string sa, .string sc] w fun e w' => e = .returned (mrgV o) ∧ Below w.heap.size w w' := by
  rcases h with ⟨h1, h2, h3, pa, pb, ha, hb, rfl⟩ | ⟨hbig, rfl⟩
  · exact specMerge_small sb sa sc pa pb w h1 h2 h3 ha hb
  · by_cases h1 : 1500 < sb.size
    · have e1 : decide ((1500 : Int) < sb.size) = true := by simp; omega
      go_enter Tryz.func68, Tryz.ntmps68
      go_wp2
      go_ret2
      exact ⟨rfl, Below.refl _ _⟩
    · have e1 : decide ((1500 : Int) < sb.size) = false := by simp; omega
      by_cases h2 : 1500 < sa.size
      · have e2 : decide ((1500 : Int) < sa.size) = true := by simp; omega
        go_enter Tryz.func68, Tryz.ntmps68
        go_wp2
        go_ret2
        exact ⟨rfl, Below.refl _ _⟩
      · have e2 : decide ((1500 : Int) < sa.size) = false := by simp; omega
        have e3 : decide ((1500 : Int) < sc.size) = true := by simp; omega
        go_enter Tryz.func68, Tryz.ntmps68
        go_wp2
        go_ret2
        exact ⟨rfl, Below.refl _ _⟩

theorem mrgV_tuple (o : Option (List UInt8)) : ∃ s b, mrgV o = .tuple #[.string s, .bool b] := by
  cases o with
  | none => exact ⟨_, _, rfl⟩
  | some s => exact ⟨_, _, rfl⟩
end Go.Proofs.YtjiafjdjocmodaaGreat

namespace Go.Proofs.YtjiafjdjocmodaaGreat
open Go.RowKit

theorem three_comm (x y z : List UInt8) : three x y z = three x z y := by
  unfold three
  by_cases h1 : y = x
  · by_cases h2 : z = x
    · rw [if_pos h1, if_pos h2, h1, h2]
    · rw [if_pos h1, if_neg h2, if_pos (.inl h1)]
  · by_cases h2 : z = x
    · rw [if_neg h1, if_pos (.inl h2), if_pos h2]
    · by_cases h3 : z = y
      · rw [if_neg h1, if_neg h2, if_pos (.inr h3), if_pos (.inr h3.symm), h3]
      · rw [if_neg h1, if_neg h2, if_neg (by rintro (h | h) <;> contradiction), if_neg (by rintro (h | h); exact h1 h; exact h3 h.symm)]
theorem three_base (x z : List UInt8) : three x x z = some z := by unfold three; rw [if_pos rfl]
theorem three_self (x y : List UInt8) : three x y y = some y := by
  unfold three
  split
  · rfl
  · rw [if_pos (.inr rfl)]

/-- Line by line of base. -/
def spN (lb la lc : List ByteArray) (pa pb : List (Nat × Nat)) : Nat → Nat → Nat → Nat → Nat → Option (List UInt8)
  | 0, n, i, j, k => three (seg lb i n) (seg la j la.length) (seg lc k lc.length)
  | f + 1, n, i, j, k => match withP pa n, withP pb n with
    | some x, some y => match three (seg lb i n) (seg la j x) (seg lc k y) with
      | none => none
      | some s => (spN lb la lc pa pb f (n + 1) (n + 1) (x + 1) (y + 1)).map ((s ++ ((lb[n]?).getD ⟨#[]⟩).data.toList) ++ ·)
    | _, _ => spN lb la lc pa pb f (n + 1) i j k

theorem spN_comm (lb la lc : List ByteArray) (pa pb : List (Nat × Nat)) : ∀ (f n i j k : Nat), spN lb la lc pa pb f n i j k = spN lb lc la pb pa f n i k j
  | 0, n, i, j, k => three_comm _ _ _
  | f + 1, n, i, j, k => by
    rw [spN, spN]
    cases hx : withP pa n with
    | none =>
      cases hy : withP pb n with
      | none => exact spN_comm lb la lc pa pb f (n + 1) i j k
      | some y => exact spN_comm lb la lc pa pb f (n + 1) i j k
    | some x =>
      cases hy : withP pb n with
      | none => exact spN_comm lb la lc pa pb f (n + 1) i j k
      | some y =>
        simp only
        rw [three_comm, spN_comm lb la lc pa pb f]

theorem At.sp {lb la lc : List ByteArray} {pa pb : List (Nat × Nat)} (hb : Asc2 lb lc 0 0 pb) : ∀ (f n i j k j1 : Nat) (out : List UInt8) (R : List (Nat × Nat)), At lb la lc pa pb n i j k out R j1 → n + f = lb.length →
    runS lb la lc (0, 0, 0) (placesP pa pb) (lb.length, la.length, lc.length) = (spN lb la lc pa pb f n i j k).map (out ++ ·)
  | 0, n, i, j, k, j1, out, R, h, hn => by
    have : n = lb.length := by omega
    subst this
    rw [h.ends]
    rfl
  | f + 1, n, i, j, k, j1, out, R, h, hn => by
    rw [spN]
    cases hx : withP pa n with
    | none => exact At.sp hb f (n + 1) i j k j1 out R (h.skipA hx) (by omega)
    | some x =>
      cases hy : withP pb n with
      | none =>
        obtain ⟨R', h'⟩ := h.skipB hx hy
        exact At.sp hb f (n + 1) i j k _ out R' h' (by omega)
      | some y =>
        obtain ⟨_, _, _, _, hno, hyes⟩ := h.takes hb hx hy
        simp only
        cases h3 : three (seg lb i n) (seg la j x) (seg lc k y) with
        | none => rw [hno h3]; rfl
        | some s =>
          obtain ⟨R', h'⟩ := hyes s h3
          rw [At.sp hb f (n + 1) (n + 1) (x + 1) (y + 1) _ _ R' h' (by omega)]
          simp only
          cases spN lb la lc pa pb f (n + 1) (n + 1) (x + 1) (y + 1) <;> simp

theorem mergeL_sp {lb la lc : List ByteArray} {pa pb : List (Nat × Nat)} (ha : CommT lb la pa) (hb : CommT lb lc pb) : mergeL lb la lc pa pb = spN lb la lc pa pb lb.length 0 0 0 0 := by
  rw [mergeL_spec ha hb, At.sp hb.asc lb.length 0 0 0 0 0 [] pa (At.start ha.asc) (by omega)]
  cases spN lb la lc pa pb lb.length 0 0 0 0 <;> simp
theorem mergeL_comm {lb la lc : List ByteArray} {pa pb : List (Nat × Nat)} (ha : CommT lb la pa) (hb : CommT lb lc pb) : mergeL lb la lc pa pb = mergeL lb lc la pb pa := by
  rw [mergeL_sp ha hb, mergeL_sp hb ha, spN_comm]

theorem seg_nil (ls : List ByteArray) (i : Nat) : seg ls i i = [] := by
  unfold seg
  rw [List.drop_of_length_le (by simp; omega)]
  rfl
theorem seg_split {ls : List ByteArray} {k y : Nat} (h1 : k ≤ y) (h2 : y < ls.length) : seg ls k ls.length = seg ls k y ++ (ls[y].data.toList ++ seg ls (y + 1) ls.length) := by
  obtain ⟨d, rfl⟩ : ∃ d, y = k + d := ⟨y - k, by omega⟩
  induction d generalizing k with
  | zero =>
    simp only [Nat.add_zero]
    rw [seg_nil, seg_cons (i := k) (j := ls.length) (by omega) (Nat.le_refl _)]
    rfl
  | succ d ih =>
    have := ih (k := k + 1) (by omega) (by omega)
    rw [seg_cons (by omega) (Nat.le_refl _), this, seg_cons (i := k) (j := k + (d + 1)) (by omega) (by omega)]
    simp only [show k + 1 + d = k + (d + 1) by omega, List.append_assoc]

/-- One side unchanged: the other comes out. -/
theorem spN_base {lb lc : List ByteArray} {pa pb : List (Nat × Nat)} (hb : Asc2 lb lc 0 0 pb) (hid : ∀ n, n < lb.length → withP pa n = some n) : ∀ (f n i k : Nat), n + f = lb.length → k ≤ lc.length → (∀ m y, n ≤ m → withP pb m = some y → k ≤ y) → spN lb lb lc pa pb f n i i k = some (seg lc k lc.length)
  | 0, n, i, k, hn, hk, _ => by
    have : n = lb.length := by omega
    subst this
    rw [spN, three_base]
  | f + 1, n, i, k, hn, hk, H => by
    rw [spN, hid n (by omega)]
    cases hy : withP pb n with
    | none => exact spN_base hb hid f (n + 1) i k (by omega) hk (fun m y hm => H m y (by omega))
    | some y =>
      obtain ⟨_, y2, y3, y4⟩ := withP_some hb hy
      have hky := H n y (Nat.le_refl _) hy
      simp only
      rw [three_base, spN_base hb hid f (n + 1) (n + 1) (y + 1) (by omega) (by omega) (fun m y' hm hy' => withP_mono hb hy hy' (by omega)), seg_split hky y2, y4, List.getElem?_eq_getElem y2]
      simp
/-- Both sides the same: that comes out. -/
theorem spN_same {lb la : List ByteArray} {pa : List (Nat × Nat)} (ha : Asc2 lb la 0 0 pa) : ∀ (f n i j : Nat), n + f = lb.length → j ≤ la.length → (∀ m y, n ≤ m → withP pa m = some y → j ≤ y) → spN lb la la pa pa f n i j j = some (seg la j la.length)
  | 0, n, i, j, hn, hk, _ => by rw [spN, three_self]
  | f + 1, n, i, j, hn, hk, H => by
    rw [spN]
    cases hy : withP pa n with
    | none => exact spN_same ha f (n + 1) i j (by omega) hk (fun m y hm => H m y (by omega))
    | some y =>
      obtain ⟨_, y2, y3, y4⟩ := withP_some ha hy
      have hky := H n y (Nat.le_refl _) hy
      simp only
      rw [three_self, spN_same ha f (n + 1) (n + 1) (y + 1) (by omega) (by omega) (fun m y' hm hy' => withP_mono ha hy hy' (by omega)), seg_split hky y2, y4, List.getElem?_eq_getElem y2]
      simp

/-- A list with itself. -/
theorem lcs_id {m : Nat} {E : Nat → Nat → Bool} (h : ∀ i, i < m → E i i = true) : ∀ (d i : Nat), i + d = m → lcs m m E i i = d
  | 0, i, hi => by
    have : i = m := by omega
    subst this
    exact lcs_m _ _ _ _
  | d + 1, i, hi => by rw [(lcs_max E (by omega) (by omega) (h i (by omega))).1, lcs_id h d (i + 1) (by omega)]
theorem comm_id {m : Nat} {E : Nat → Nat → Bool} (h : ∀ i, i < m → E i i = true) : ∀ (d i : Nat) (ps : List (Nat × Nat)), i + d = m → Comm m m E i i ps → ∀ n, i ≤ n → n < m → withP ps n = some n
  | 0, i, ps, hi, _, n, h1, h2 => by omega
  | d + 1, i, ps, hi, hc, n, h1, h2 => by
    have hl := lcs_id h (d + 1) i hi
    obtain ⟨x, y, r, rfl, hf, hr⟩ := hc.pos (by omega)
    have hfit : Fits m m E (lcs m m E i i) i i := ⟨h i (by omega), (lcs_max E (by omega) (by omega) (h i (by omega))).1.symm⟩
    have ex : i = x := by
      rcases Nat.lt_or_ge i x with h3 | h3
      · exact absurd hfit (hf.row i i (Nat.le_refl _) h3 (Nat.le_refl _) (by omega))
      · have := hf.ix; omega
    subst ex
    have ey : i = y := by
      rcases Nat.lt_or_ge i y with h3 | h3
      · exact absurd hfit (hf.col i (Nat.le_refl _) h3)
      · have := hf.jy; omega
    subst ey
    rw [withP]
    by_cases hn : i = n
    · rw [if_pos (by simpa using hn), hn]
    · rw [if_neg (by simpa using hn)]
      exact comm_id h d (i + 1) r (by omega) hr n (by omega) h2

theorem seg_all (s : ByteArray) : seg (linesB s) 0 (linesB s).length = s.data.toList := by
  rw [← catL_lines]
  unfold seg catL
  rw [List.take_length]
  rfl
theorem MText.sym {sb sa sc : ByteArray} {o : Option (List UInt8)} (h : MText sb sa sc o) : MText sb sc sa o := by
  rcases h with ⟨h1, h2, h3, pa, pb, ha, hb, rfl⟩ | ⟨h, rfl⟩
  · exact .inl ⟨h1, h3, h2, pb, pa, hb, ha, mergeL_comm ha hb⟩
  · exact .inr ⟨by omega, rfl⟩
theorem mtext_base {sb sc : ByteArray} (h1 : sb.size ≤ 1500) (h3 : sc.size ≤ 1500) : MText sb sb sc (some sc.data.toList) := by
  obtain ⟨pa, ha⟩ := exists_commT (linesB sb) (linesB sb)
  obtain ⟨pb, hb⟩ := exists_commT (linesB sb) (linesB sc)
  refine .inl ⟨h1, h1, h3, pa, pb, ha, hb, ?_⟩
  have hl := linesB_le sb
  have hid : ∀ n, n < (linesB sb).length → withP pa n = some n := fun n hn => by
    rcases ha with ⟨_, _, hc⟩ | ⟨hbig, _⟩
    · exact comm_id (fun i hi => (eqL_iff hi hi).2 rfl) (linesB sb).length 0 pa (by omega) hc n (Nat.zero_le _) hn
    · omega
  rw [mergeL_sp ha hb, spN_base hb.asc hid _ 0 0 0 (by omega) (Nat.zero_le _) (fun _ _ _ _ => Nat.zero_le _), seg_all]
theorem mtext_same {sb sa : ByteArray} (h1 : sb.size ≤ 1500) (h2 : sa.size ≤ 1500) : MText sb sa sa (some sa.data.toList) := by
  obtain ⟨pa, ha⟩ := exists_commT (linesB sb) (linesB sa)
  refine .inl ⟨h1, h2, h2, pa, pa, ha, ha, ?_⟩
  rw [mergeL_sp ha ha, spN_same ha.asc _ 0 0 0 (by omega) (Nat.zero_le _) (fun _ _ _ _ => Nat.zero_le _), seg_all]
theorem MText.big {sb sa sc : ByteArray} {o : Option (List UInt8)} (h : MText sb sa sc o) (hb : 1500 < sb.size ∨ 1500 < sa.size ∨ 1500 < sc.size) : o = none := by
  rcases h with ⟨h1, h2, h3, _⟩ | ⟨_, rfl⟩
  · omega
  · rfl
end Go.Proofs.YtjiafjdjocmodaaGreat

namespace Go.Proofs.YtjiafjdjocmodaaGreat
open Go.RowKit

/-- A tree in a box. -/
structure TBx (b : Nat) (ad : Option Addr) (cp : Nat) (ts : List En) (W : World) : Prop where
  c : W.cell? ⟨b, 0, none⟩ = some (.slice ad ts.length cp)
  es : ES W ad ts
theorem TBx.later {b : Nat} {ad : Option Addr} {cp : Nat} {ts : List En} {W W' : World} (h : TBx b ad cp ts W) (hb : Below W.heap.size W W') : TBx b ad cp ts W' := ⟨cell_later hb h.c, h.es.below hb⟩
theorem TBx.new {ad : Option Addr} {cp : Nat} {ts : List En} {W : World} (h : ES W ad ts) : TBx W.heap.size ad cp ts (W.alloc (.cells #[.slice ad ts.length cp] 25)) := ⟨by simp, h.below (below_oneD _ _)⟩

set_option maxRecDepth 20000 in
set_option maxHeartbeats 2000000 in
theorem wTree_any (a b : Option Addr) (ca cb : Nat) (ts : List En) (w : World) (ha : ES w a ts) (hb : ES w b ts) (hn : ts.length ≤ 1048576) :
    Calls Tryz.prog 34 #[.agg #[.slice a ts.length ca], .agg #[.slice b ts.length cb]] w fun e w' => e = .returned (.bool true) ∧ Below w.heap.size w w' := by
  have hal : Below w.heap.size w ((w.alloc (.cells #[.slice a ts.length ca] 25)).alloc (.cells #[.slice b ts.length cb] 25)) := ((Below.refl _ _).alloc (Nat.le_refl _) _).alloc (by simp) _
  have m0 : ((w.alloc (.cells #[.slice a ts.length ca] 25)).alloc (.cells #[.slice b ts.length cb] 25)).cell? ⟨w.heap.size, 0, none⟩ = some (.slice a ts.length ca) := by simp [go_sem]
  have n0 : ((w.alloc (.cells #[.slice a ts.length ca] 25)).alloc (.cells #[.slice b ts.length cb] 25)).cell? ⟨w.heap.size + 1, 0, none⟩ = some (.slice b ts.length cb) := by simp [go_sem]
  go_enter Tryz.func34, Tryz.ntmps34
  go_wp2
  generalize (w.alloc (.cells #[.slice a ts.length ca] 25)).alloc (.cells #[.slice b ts.length cb] 25) = W0 at *
  go_loopw [5] (fun i wr => ∃ k : Nat, i = .int .i64 k ∧ k ≤ ts.length ∧ Below W0.heap.size W0 wr) (fun i _ => ts.length - (intOf i).toNat)
  case atStart => exact ⟨0, rfl, Nat.zero_le _, Below.refl _ _⟩
  case round =>
    obtain ⟨k, rfl, hk, hB⟩ := hrel
    have M := cell_later hB m0
    have N := cell_later hB n0
    have hBw := hal.trans (hB.mono hal.size)
    by_cases hlt : k < ts.length
    · have hlt' : (k : Int) < ts.length := by omega
      obtain ⟨b1, o1, rfl, h1⟩ := (ha.below hBw).at hlt
      obtain ⟨b2, o2, rfl, h2⟩ := (hb.below hBw).at hlt
      obtain ⟨x0, x1, x2⟩ := h1 k hlt
      obtain ⟨y0, y1, y2⟩ := h2 k hlt
      clear h1 h2
      go_wp2
      go_quiet (fail)
      go_wp2
      go_roundw
      case rel => exact ⟨k + 1, by congr 1, hlt, below_drewN hB _⟩
      case measure => simp only [intOf]; omega
    · obtain rfl : k = ts.length := by omega
      go_wp2
      go_ret
      exact ⟨rfl, hBw⟩
end Go.Proofs.YtjiafjdjocmodaaGreat

namespace Go.Proofs.YtjiafjdjocmodaaGreat
open Go.RowKit

def WTrue (w : World) (e : Ending) (w' : World) : Prop := e = .returned (.bool true) ∧ ∃ n, w' = w.drewN n

set_option maxRecDepth 20000 in
set_option maxHeartbeats 2000000 in
theorem wTexts_any (a b : Option Addr) (ca cb : Nat) (ss : List ByteArray) (w : World) (ha : SS w a ss) (hb : SS w b ss) (hn : ss.length ≤ 1000000) :
    Calls Tryz.prog 35 #[.slice a ss.length ca, .slice b ss.length cb] w fun e w' => WTrue w e w' := by
  go_enter Tryz.func35, Tryz.ntmps35
  go_wp2
  go_loopw [5] (fun i wr => ∃ (k n : Nat), i = .int .i64 k ∧ k ≤ ss.length ∧ wr = w.drewN n) (fun i _ => ss.length - (intOf i).toNat)
  case atStart => exact ⟨0, 0, rfl, Nat.zero_le _, rfl⟩
  case round =>
    obtain ⟨k, n, rfl, hk, rfl⟩ := hrel
    by_cases hlt : k < ss.length
    · have hlt' : (k : Int) < ss.length := by omega
      obtain ⟨ba, oa, rfl, hca⟩ := ha.at hlt
      obtain ⟨bb, ob, rfl, hcb⟩ := hb.at hlt
      have c1 := hca k hlt
      have c2 := hcb k hlt
      have hsame : (ss[k].toList == ss[k].toList) = true := by simp
      clear hca hcb ha hb
      go_wp2
      go_quiet (fail)
      go_wp2
      go_roundw
      case rel => exact ⟨k + 1, _, by congr 1, hlt, rfl⟩
      case measure => simp only [intOf]; omega
    · obtain rfl : k = ss.length := by omega
      go_wp2
      go_ret
      exact ⟨rfl, _, rfl⟩
end Go.Proofs.YtjiafjdjocmodaaGreat

namespace Go.Proofs.YtjiafjdjocmodaaGreat
open Go.RowKit

theorem mg_few {F : MrgF} {bs xs ys us : List En} {c : Int} {ks : List ByteArray} (h : MgRel F bs xs ys c us ks) (h1 : bs.length ≤ 300) (h2 : xs.length ≤ 300) (h3 : ys.length ≤ 300) : us.length ≤ 1000 ∧ ks.length ≤ 1000 := by
  have hp : (pathsL [bs, xs, ys]).length ≤ 900 := by
    have a1 := addP_len [] bs bs.length (Nat.le_refl _)
    have a2 := addP_len (addP [] bs) xs xs.length (Nat.le_refl _)
    have a3 := addP_len (addP (addP [] bs) xs) ys ys.length (Nat.le_refl _)
    rw [List.take_length] at a1 a2 a3
    show (addP (addP (addP [] bs) xs) ys).length ≤ 900
    simp only [List.length_nil] at a1
    omega
  have ho := outM_len (F := F) (bs := bs) (xs := xs) (ys := ys) (pathsL [bs, xs, ys])
  have hk := clsM_len (F := F) (bs := bs) (xs := xs) (ys := ys) (pathsL [bs, xs, ys])
  rcases h with ⟨_, _, rfl, rfl⟩ | ⟨_, _, _, ⟨_, _, rfl, rfl⟩ | ⟨_, ⟨_, _, rfl, rfl⟩ | ⟨_, _, rfl, rfl⟩⟩⟩
  · simp
  · exact ⟨by simp, by omega⟩
  · exact ⟨by omega, by simp⟩
  · refine ⟨by simp, ?_⟩
    split
    · unfold kidsM
      rw [List.length_map]
      exact Nat.le_trans (List.length_filter_le _ _) (by omega)
    · simp
theorem mg_bad {F : MrgF} {bs xs ys us : List En} {ks : List ByteArray} (h : MgRel F bs xs ys 1 us ks) : ¬ (ValidTs bs ∧ ValidTs xs ∧ ValidTs ys) := by
  rcases h with ⟨h, _⟩ | ⟨_, _, _, ⟨_, h, _⟩ | ⟨_, ⟨_, h, _⟩ | ⟨_, h, _⟩⟩⟩
  · exact h
  · cases h
  · cases h
  · cases h
theorem mg_good {F : MrgF} {bs xs ys us : List En} {c : Int} {ks : List ByteArray} (h : MgRel F bs xs ys c us ks) (hc : ¬ c = 1) : ValidTs bs ∧ ValidTs xs ∧ ValidTs ys := by
  rcases h with ⟨_, h, _⟩ | ⟨h1, h2, h3, _⟩
  · exact absurd h hc
  · exact ⟨h1, h2, h3⟩
/-- What Merge gives, in a box. -/
structure MBx (b : Nat) (c : Int) (us : List En) (ks : List ByteArray) (ad : Option Addr) (cp : Nat) (ak : Option Addr) (ck : Nat) (W : World) : Prop where
  c0 : W.cell? ⟨b, 0, none⟩ = some (.int .i64 c)
  c1 : W.cell? ⟨b, 1, none⟩ = some (.slice ad us.length cp)
  c2 : W.cell? ⟨b, 2, none⟩ = some (.slice ak ks.length ck)
  es : ES W ad us
  ss : SS W ak ks
theorem MBx.later {b : Nat} {c : Int} {us : List En} {ks : List ByteArray} {ad : Option Addr} {cp : Nat} {ak : Option Addr} {ck : Nat} {W W' : World} (h : MBx b c us ks ad cp ak ck W) (hb : Below W.heap.size W W') : MBx b c us ks ad cp ak ck W' :=
  ⟨cell_later hb h.c0, cell_later hb h.c1, cell_later hb h.c2, h.es.below hb, h.ss.below hb⟩
theorem MBx.new {c : Int} {us : List En} {ks : List ByteArray} {ad : Option Addr} {cp : Nat} {ak : Option Addr} {ck : Nat} {W : World} {t : TypeId} (h1 : ES W ad us) (h2 : SS W ak ks) : MBx W.heap.size c us ks ad cp ak ck (W.alloc (.cells #[.int .i64 c, .slice ad us.length cp, .slice ak ks.length ck] t)) :=
  ⟨by simp, by simp, by simp, h1.below (below_oneD _ _), h2.below (below_oneD _ _)⟩

set_option maxRecDepth 100000 in
set_option maxHeartbeats 4000000 in
theorem wMerged_any (c : Int) (us : List En) (ks : List ByteArray) (a b ak bk : Option Addr) (ca cb cak cbk : Nat) (w : World) (h1 : ES w a us) (h2 : ES w b us) (h3 : SS w ak ks) (h4 : SS w bk ks) (hn : us.length ≤ 1000000) (hk : ks.length ≤ 1000000) :
    Calls Tryz.prog 7 #[.agg #[.int .i64 c, .slice a us.length ca, .slice ak ks.length cak], .agg #[.int .i64 c, .slice b us.length cb, .slice bk ks.length cbk]] w fun e w' => e = .returned (.bool true) ∧ Below w.heap.size w w' := by
  have hq1 := below_oneD w (.cells #[.int .i64 c, .slice a us.length ca, .slice ak ks.length cak] 30)
  have hq2 := below_oneD (w.alloc (.cells #[.int .i64 c, .slice a us.length ca, .slice ak ks.length cak] 30)) (.cells #[.int .i64 c, .slice b us.length cb, .slice bk ks.length cbk] 30)
  have hb := kept_below hq1 hq2
  have A := (MBx.new (c := c) (cp := ca) (ck := cak) (t := 30) h1 h3).later hq2
  have B := MBx.new (c := c) (cp := cb) (ck := cbk) (t := 30) (h2.below hq1) (h4.below hq1)
  have hsz : (w.alloc (.cells #[.int .i64 c, .slice a us.length ca, .slice ak ks.length cak] 30)).heap.size = w.heap.size + 1 := by simp
  rw [hsz] at B
  have hcc : (c == c) = true := by simp
  clear hq1 hq2 hsz
  go_enter Tryz.func7, Tryz.ntmps7
  go_upto_region 1 with fail
  generalize (w.alloc (.cells #[.int .i64 c, .slice a us.length ca, .slice ak ks.length cak] 30)).alloc (.cells #[.int .i64 c, .slice b us.length cb, .slice bk ks.length cbk] 30) = W at *
  generalize w.heap.size + 1 = b3 at *
  obtain ⟨b2, hb2⟩ : ∃ b2, b2 = w.heap.size := ⟨_, rfl⟩
  rw [← hb2] at A ⊢
  have HB : Keep (Below w.heap.size w W) := ⟨hb⟩
  rw [← hb2] at hb
  clear hb hb2
  have x0 := A.c0
  have x1 := A.c1
  have y0 := B.c0
  have y1 := B.c1
  go_wp2_with fail
  refine (wTree_any a b ca cb us W A.es B.es (by omega)).mono ?_
  rintro e w1 ⟨rfl, hb1⟩
  replace A := A.later hb1
  replace B := B.later hb1
  clear x0 x1 y0 y1
  have x2 := A.c2
  have y2 := B.c2
  go_wp2_with fail
  refine (wTexts_any ak bk cak cbk ks w1 A.ss B.ss (by omega)).mono ?_
  rintro e w2 ⟨rfl, n, rfl⟩
  go_wp2
  go_ret
  exact ⟨rfl, kept_below HB.out (kept_below hb1 (below_drewN (Below.refl _ _) n))⟩
end Go.Proofs.YtjiafjdjocmodaaGreat
