/-
  MergeSX, StandI, JoinB, LinesIt: laid as one text.
-/
import Derived.Test.YtjiafjdjocmodaaGreatZbb
import Derived.Deep.RegionLaw
import Derived.Test.YtjiafjdjocmodaaGreatRows
import Derived.Shelf.Strings.OnBuilder
import Derived.Shelf.Strings.BuilderK
import Derived.WalkKit
import Derived.RangeFuncNested
import Derived.RangeFuncBound
import Derived.RangeFuncCalls
import Derived.RangeFuncLeaves
import Derived.RangeFuncFrom
import Derived.Shelf.Abstract
import Derived.Shelf.RegionOpen
import Derived.OwnWalkIn
import Derived.TacticsInMore
import Derived.LoopNIn
import Derived.LoopIn
import Derived.Lib.Bytealg
import Derived.Laws.Externs
namespace Go.Proofs.YtjiafjdjocmodaaGreat
open Go.RowKit

theorem lnB_append (x y : List UInt8) : lnB x ++ lnB y = lnB (x ++ y) := by
  apply ByteArray.ext
  simp [lnB]
theorem lnB_app (x : List UInt8) (y : ByteArray) : lnB x ++ y = lnB (x ++ y.data.toList) := by rw [← lnB_append, lnB_data]

set_option maxRecDepth 20000 in
set_option maxHeartbeats 8000000 in
theorem specMerge_small (sb sa sc : ByteArray) (pa pb : List (Nat × Nat)) (w : World) (h1 : sb.size ≤ 1500) (h2 : sa.size ≤ 1500) (h3 : sc.size ≤ 1500) (hpa : CommT (linesB sb) (linesB sa) pa) (hpb : CommT (linesB sb) (linesB sc) pb) :
    Calls Tryz.prog 68 #[.string sb, .string sa, .string sc] w fun e w' => e = .returned (mrgV (mergeL (linesB sb) (linesB sa) (linesB sc) pa pb)) ∧ Below w.heap.size w w' := by
  have e1 : decide ((1500 : Int) < sb.size) = false := by simp; omega
  have e2 : decide ((1500 : Int) < sa.size) = false := by simp; omega
  have e3 : decide ((1500 : Int) < sc.size) = false := by simp; omega
  rw [mergeL_spec hpa hpb]
  have cLb := fun W => specLines_any sb W
  have cLa := fun W => specLines_any sa W
  have cLc := fun W => specLines_any sc W
  unfold linesT at cLb cLa cLc
  rw [if_pos h1] at cLb
  rw [if_pos h2] at cLa
  rw [if_pos h3] at cLc
  have nb := linesB_le sb
  have na := linesB_le sa
  have nc := linesB_le sc
  have gb := seg_lines sb
  have ga := seg_lines sa
  have gc := seg_lines sc
  have hlb : ∀ x ∈ linesB sb, x.size ≤ sb.size := fun x hx => line_size hx
  generalize linesB sb = lb at *
  generalize linesB sa = la at *
  generalize linesB sc = lc at *
  have hla := hpa.len
  have hlc := hpb.len
  have hAa := hpa.asc
  have hAb := hpb.asc
  obtain ⟨Z, hZ⟩ : ∃ Z, runS lb la lc (0, 0, 0) (placesP pa pb) (lb.length, la.length, lc.length) = Z := ⟨_, rfl⟩
  rw [hZ]
  have HZ : NKeep (runS lb la lc (0, 0, 0) (placesP pa pb) (lb.length, la.length, lc.length) = Z) := ⟨hZ⟩
  clear hZ
  go_enter Tryz.func68, Tryz.ntmps68
  go_wp2_with fail
  refine (cLb _).mono ?_
  rintro e w1 ⟨a1, c1, rfl, o1, b1⟩
  go_wp2_with fail
  refine (cLa _).mono ?_
  rintro e w2 ⟨a2, c2, rfl, o2, b2⟩
  have bx2 := b1.trans (b2.mono b1.size)
  replace o1 := owns_below o1 b2
  go_wp2_with fail
  refine (cLc _).mono ?_
  rintro e w3 ⟨a3, c3, rfl, o3, b3⟩
  have bx3 := bx2.trans (b3.mono bx2.size)
  replace o1 := owns_below o1 b3
  replace o2 := owns_below o2 b3
  clear cLb cLa cLc
  go_wp2_with fail
  refine (specCommon_any a1 a2 c1 c2 lb la pa w3 (rdl_of_row o1).2 (rdl_of_row o2).2 hpa).mono ?_
  rintro e w4 ⟨a4, c4, rfl, o4, b4⟩
  have bx4 := bx3.trans (b4.mono bx3.size)
  replace o1 := owns_below o1 b4
  replace o2 := owns_below o2 b4
  replace o3 := owns_below o3 b4
  go_wp2_with fail
  refine (specCommon_any a1 a3 c1 c3 lb lc pb w4 (rdl_of_row o1).2 (rdl_of_row o3).2 hpb).mono ?_
  rintro e w5 ⟨a5, c5, rfl, o5, b5⟩
  have bx5 := bx4.trans (b5.mono bx4.size)
  obtain ⟨k1, s1⟩ := rdl_of_row (owns_below o1 b5)
  obtain ⟨k2, s2⟩ := rdl_of_row (owns_below o2 b5)
  obtain ⟨k3, s3⟩ := rdl_of_row (owns_below o3 b5)
  have p4 := ps_of_row (owns_below o4 b5)
  have p5 := ps_of_row o5
  clear o1 o2 o3 o4 o5 b1 b2 b3 b4 b5 bx2 bx3 bx4 hpa hpb
  have HAb : NKeep (Asc2 lb lc 0 0 pb) := ⟨hAb⟩
  have hAt0 := At.start (lc := lc) (pb := pb) hAa
  clear hAa hAb
  go_wp2
  go_loopg [13, 14, 15, 16, 17] (lb.length + 2) (fun gk so si sj sk sn wr => ∃ (n i j k j1 : Nat) (out : List UInt8) (R : List (Nat × Nat)), n + gk = lb.length + 2 ∧ so = .string (lnB out) ∧ si = .int .i64 (i : Int) ∧ sj = .int .i64 (j : Int) ∧ sk = .int .i64 (k : Int) ∧ sn = .int .i64 (n : Int) ∧ out.length ≤ 3000 * n ∧
    NKeep ((n ≤ lb.length ∧ At lb la lc pa pb n i j k out R j1) ∨ (n = lb.length + 1 ∧ Z = some out)) ∧ Below w5.heap.size w5 wr)
  case atStart => exact ⟨0, 0, 0, 0, 0, [], pa, by omega, rfl, rfl, rfl, rfl, rfl, Nat.zero_le _, ⟨.inl ⟨Nat.zero_le _, hAt0⟩⟩, Below.refl _ _⟩
  case round =>
    obtain ⟨n, i, j, k, j1, out, R, hgn, rfl, rfl, rfl, rfl, rfl, hol, HA, hB⟩ := hrel
    have hbw : Below w.heap.size w wr := bx5.trans (hB.mono bx5.size)
    rcases HA.out with ⟨hn, hAt⟩ | ⟨hn, hz⟩
    · have s1' := s1.below hB
      have s2' := s2.below hB
      have s3' := s3.below hB
      have p4' := p4.below hB
      have p5' := p5.below hB
      have hin := hAt.i_n
      have cA := fun W h => l7With_any a4 c4 pa n W h hla
      have cB := fun W h => l7With_any a5 c5 pb n W h hlc
      by_cases hlt : n < lb.length
      · have hlt' : (n : Int) < lb.length := by omega
        have hle' : (n : Int) ≤ lb.length := by omega
        cases hwa : withP pa n with
        | none =>
          rw [hwa] at cA
          unfold withV at cA
          have HD : NKeep (At lb la lc pa pb (n + 1) i j k out R j1) := ⟨hAt.skipA hwa⟩
          clear hAt HA
          go_wp2_with fail
          refine (cA _ p4').mono ?_
          rintro e w6 ⟨rfl, rfl⟩
          go_wp2_with fail
          refine (cB _ p5').mono ?_
          rintro e w7 ⟨rfl, rfl⟩
          obtain ⟨yv, hyv⟩ : ∃ yv : Int, withV (withP pb n) = .int .i64 yv := by cases withP pb n <;> exact ⟨_, rfl⟩
          rw [hyv]
          go_wp2
          go_roundg (gk - 1)
          case measure => omega
          case rel => exact ⟨n + 1, i, j, k, j1, out, R, by omega, rfl, rfl, rfl, rfl, by go_num, by omega, ⟨.inl ⟨by omega, HD.out⟩⟩, hB⟩
        | some x =>
          rw [hwa] at cA
          unfold withV at cA
          cases hwb : withP pb n with
          | none =>
            rw [hwb] at cB
            unfold withV at cB
            obtain ⟨R', hD⟩ := hAt.skipB hwa hwb
            have HD : NKeep (At lb la lc pa pb (n + 1) i j k out R' (x + 1)) := ⟨hD⟩
            clear hAt HA hD
            go_wp2_with fail
            refine (cA _ p4').mono ?_
            rintro e w6 ⟨rfl, rfl⟩
            go_wp2_with fail
            refine (cB _ p5').mono ?_
            rintro e w7 ⟨rfl, rfl⟩
            have hx0 : decide ((x : Int) < 0) = false := by simp <;> omega
            go_wp2
            go_roundg (gk - 1)
            case measure => omega
            case rel => exact ⟨n + 1, i, j, k, x + 1, out, R', by omega, rfl, rfl, rfl, rfl, by go_num, by omega, ⟨.inl ⟨by omega, HD.out⟩⟩, hB⟩
          | some y =>
            rw [hwb] at cB
            unfold withV at cB
            obtain ⟨hjx, hxa, hky, hyc, hno, hyes⟩ := hAt.takes HAb.out hwa hwb
            obtain ⟨v1, hsl1, hr1⟩ := mid_at k1 s1' hin (by omega : n ≤ lb.length)
            obtain ⟨v2, hsl2, hr2⟩ := mid_at k2 s2' hjx hxa
            obtain ⟨v3, hsl3, hr3⟩ := mid_at k3 s3' hky hyc
            have HC3 := fun (xl : Later wr) => xl.call (l7Three_any v1 v2 v3 _ _ _ xl.world (hr1.below xl.kept) (hr2.below xl.kept) (hr3.below xl.kept) (by simp; omega) (by simp; omega) (by simp; omega) (Nat.le_trans (gb i n) (by omega)) (Nat.le_trans (ga j x) (by omega)) (Nat.le_trans (gc k y) (by omega)))
            rw [show catL ((lb.take n).drop i) = seg lb i n from rfl, show catL ((la.take x).drop j) = seg la j x from rfl, show catL ((lc.take y).drop k) = seg lc k y from rfl] at HC3
            clear hr1 hr2 hr3
            have hx0 : decide ((x : Int) < 0) = false := by simp <;> omega
            have hy0 : decide ((y : Int) < 0) = false := by simp <;> omega
            have hx0' : ¬ (x : Int) < 0 := by omega
            have hy0' : ¬ (y : Int) < 0 := by omega
            have l2 := ga j x
            have l3 := gc k y
            clear hAt HA
            cases h3v : three (seg lb i n) (seg la j x) (seg lc k y) with
            | none =>
              rw [h3v] at HC3
              have HC : NKeep (∀ x : Later wr, Calls Tryz.prog 91 #[v1, v2, v3] x.world fun e w'' => e = .returned (.tuple #[.string ⟨#[]⟩, .bool false]) ∧ ∃ y : Later wr, w'' = y.world) := ⟨HC3⟩
              have HF : NKeep (Z = none) := ⟨by rw [← HZ.out]; exact hno h3v⟩
              clear HC3 hno hyes h3v
              go_wp2_with fail
              refine (cA _ p4').mono ?_
              rintro e w6 ⟨rfl, rfl⟩
              go_wp2_with fail
              refine (cB _ p5').mono ?_
              rintro e w7 ⟨rfl, rfl⟩
              go_wp2
              (haveI := later_any; refine wp_region_later (by kernel_rfl) (by kernel_rfl) ?_; (repeat (go_big_quiet_step (exact HC.out _))); refine wpQuiet_nil ?_; intro _ hwq; obtain ⟨xq, hwq2⟩ := hwq; subst hwq2)
              go_wp2
              go_ret2
              rw [HF.out]
              exact ⟨rfl, hbw.trans (xq.kept.mono hbw.size)⟩
            | some s =>
              rw [h3v] at HC3
              have HC : NKeep (∀ x : Later wr, Calls Tryz.prog 91 #[v1, v2, v3] x.world fun e w'' => e = .returned (.tuple #[.string (lnB s), .bool true]) ∧ ∃ y : Later wr, w'' = y.world) := ⟨HC3⟩
              have hsl := three_le h3v (Nat.le_trans l2 h2) (Nat.le_trans l3 h3)
              obtain ⟨R', hD⟩ := hyes s h3v
              have hlb' := hlb lb[n] (List.getElem_mem hlt)
              rw [List.getElem?_eq_getElem hlt] at hD
              simp only [Option.getD_some] at hD
              have HD : NKeep (At lb la lc pa pb (n + 1) (n + 1) (x + 1) (y + 1) (out ++ (s ++ lb[n].data.toList)) R' (x + 1)) := ⟨hD⟩
              have hz1 : ¬ 9223372036854775807 < (lnB out).size + (lnB s).size := by rw [lnB_size, lnB_size]; omega
              have hz2 : ¬ 9223372036854775807 < (lnB out).size + (lnB s).size + lb[n].size := by rw [lnB_size, lnB_size]; omega
              obtain ⟨bq, oq, rfl, dq⟩ := s1'.at hlt
              have hcn := fun (x : Later wr) => cell_later x.kept (dq n hlt)
              have HO : NKeep (lnB out ++ lnB s ++ lb[n] = lnB (out ++ (s ++ lb[n].data.toList)) ∧ (out ++ (s ++ lb[n].data.toList)).length ≤ 3000 * (n + 1)) := ⟨by rw [lnB_append, lnB_app, List.append_assoc], by simp only [List.length_append, ← Lib.size_eq]; omega⟩
              clear HC3 hno hyes h3v hD dq
              go_wp2_with fail
              refine (cA _ p4').mono ?_
              rintro e w6 ⟨rfl, rfl⟩
              go_wp2_with fail
              refine (cB _ p5').mono ?_
              rintro e w7 ⟨rfl, rfl⟩
              go_wp2
              (haveI := later_any; refine wp_region_later (by kernel_rfl) (by kernel_rfl) ?_; (repeat (go_big_quiet_step (exact HC.out _))); refine wpQuiet_nil ?_; intro _ hwq; obtain ⟨xq, hwq2⟩ := hwq; subst hwq2)
              have hcq := hcn xq
              go_wp2
              go_roundg (gk - 1)
              case measure => omega
              case rel => exact ⟨n + 1, n + 1, x + 1, y + 1, x + 1, out ++ (s ++ lb[n].data.toList), R', by omega, by rw [← HO.out.1], by go_num, by go_num, by go_num, by go_num, HO.out.2, ⟨.inl ⟨by omega, HD.out⟩⟩, hB.trans (xq.kept.mono hB.size)⟩
      · obtain rfl : n = lb.length := by omega
        have hend := hAt.ends
        have hjx := hAt.j_a
        have hky := hAt.k_c
        have hxa : la.length ≤ la.length := Nat.le_refl _
        have hyc : lc.length ≤ lc.length := Nat.le_refl _
        obtain ⟨v1, hsl1, hr1⟩ := mid_at k1 s1' hin (by omega : lb.length ≤ lb.length)
        obtain ⟨v2, hsl2, hr2⟩ := mid_at k2 s2' hjx hxa
        obtain ⟨v3, hsl3, hr3⟩ := mid_at k3 s3' hky hyc
        have HC3 := fun (xl : Later wr) => xl.call (l7Three_any v1 v2 v3 _ _ _ xl.world (hr1.below xl.kept) (hr2.below xl.kept) (hr3.below xl.kept) (by simp; omega) (by simp; omega) (by simp; omega) (Nat.le_trans (gb i lb.length) (by omega)) (Nat.le_trans (ga j la.length) (by omega)) (Nat.le_trans (gc k lc.length) (by omega)))
        rw [show catL ((lb.take lb.length).drop i) = seg lb i lb.length from rfl, show catL ((la.take la.length).drop j) = seg la j la.length from rfl, show catL ((lc.take lc.length).drop k) = seg lc k lc.length from rfl] at HC3
        clear hr1 hr2 hr3
        have hx0 : decide ((la.length : Int) < 0) = false := by simp <;> omega
        have hy0 : decide ((lc.length : Int) < 0) = false := by simp <;> omega
        have l2 := ga j la.length
        have l3 := gc k lc.length
        clear hAt HA cA cB
        cases h3v : three (seg lb i lb.length) (seg la j la.length) (seg lc k lc.length) with
        | none =>
          rw [h3v] at HC3 hend
          have HC : NKeep (∀ x : Later wr, Calls Tryz.prog 91 #[v1, v2, v3] x.world fun e w'' => e = .returned (.tuple #[.string ⟨#[]⟩, .bool false]) ∧ ∃ y : Later wr, w'' = y.world) := ⟨HC3⟩
          have HF : NKeep (Z = none) := ⟨by rw [← HZ.out, hend]; rfl⟩
          clear HC3 hend h3v
          go_wp2
          (haveI := later_any; refine wp_region_later (by kernel_rfl) (by kernel_rfl) ?_; (repeat (go_big_quiet_step (exact HC.out _))); refine wpQuiet_nil ?_; intro _ hwq; obtain ⟨xq, hwq2⟩ := hwq; subst hwq2)
          go_wp2
          go_ret2
          rw [HF.out]
          exact ⟨rfl, hbw.trans (xq.kept.mono hbw.size)⟩
        | some s =>
          rw [h3v] at HC3 hend
          have HC : NKeep (∀ x : Later wr, Calls Tryz.prog 91 #[v1, v2, v3] x.world fun e w'' => e = .returned (.tuple #[.string (lnB s), .bool true]) ∧ ∃ y : Later wr, w'' = y.world) := ⟨HC3⟩
          have hsl := three_le h3v (Nat.le_trans l2 h2) (Nat.le_trans l3 h3)
          have HF : NKeep (Z = some (out ++ s)) := ⟨by rw [← HZ.out, hend]; rfl⟩
          have hz1 : ¬ 9223372036854775807 < (lnB out).size + (lnB s).size := by rw [lnB_size, lnB_size]; omega
          have HO : NKeep (lnB out ++ lnB s = lnB (out ++ s) ∧ (out ++ s).length ≤ 3000 * (lb.length + 1)) := ⟨lnB_append _ _, by simp only [List.length_append]; omega⟩
          clear HC3 hend h3v
          go_wp2
          (haveI := later_any; refine wp_region_later (by kernel_rfl) (by kernel_rfl) ?_; (repeat (go_big_quiet_step (exact HC.out _))); refine wpQuiet_nil ?_; intro _ hwq; obtain ⟨xq, hwq2⟩ := hwq; subst hwq2)
          go_wp2
          go_roundg (gk - 1)
          case measure => omega
          case rel => exact ⟨lb.length + 1, lb.length + 1, la.length + 1, lc.length + 1, 0, out ++ s, R, by omega, by rw [← HO.out.1], by go_num, by go_num, by go_num, by go_num, HO.out.2, ⟨.inr ⟨rfl, HF.out⟩⟩, hB.trans (xq.kept.mono hB.size)⟩
    · subst hn
      have HZ2 : NKeep (Z = some out) := ⟨hz⟩
      clear hz
      go_wp2
      go_ret2
      rw [HZ2.out]
      exact ⟨rfl, hbw⟩
end Go.Proofs.YtjiafjdjocmodaaGreat

namespace Go.Proofs.YtjiafjdjocmodaaGreat
open Go.RowKit

/-- Places as cells. -/
def plC (ts : List Pl) : List Value := ts.flatMap fun t => [Value.int .i64 (t.1 : Int), Value.int .i64 (t.2.1 : Int), Value.int .i64 (t.2.2 : Int)]
theorem plC_snoc (ts : List Pl) (x y z : Nat) : plC (ts ++ [(x, y, z)]) = plC ts ++ [Value.int .i64 (x : Int), Value.int .i64 (y : Int), Value.int .i64 (z : Int)] := by simp [plC]
theorem Tryz.infoPlace : (Tryz.prog.info? 112).map (fun i => (i.zero, i.size, i.bytes)) = some (some (.agg #[.int .i64 0, .int .i64 0, .int .i64 0]), 3, 24) := by kernel_rfl

set_option maxHeartbeats 1000000 in
theorem choose_any (x y z : ByteArray) (w : World) :
    Calls Tryz.prog 83 #[.string x, .string y, .string z] w fun e w' => e = .returned (match three x.data.toList y.data.toList z.data.toList with
      | none => .tuple #[.string ⟨#[]⟩, .bool false]
      | some s => .tuple #[.string (lnB s), .bool true]) ∧ w' = w := by
  have hne : ∀ {a b : ByteArray}, ¬ a.data.toList = b.data.toList → (a.toList == b.toList) = false := fun h => bs_diff (fun e => h (by rw [e]))
  have hqe : ∀ {a b : ByteArray}, a.data.toList = b.data.toList → (a.toList == b.toList) = true := fun {a b} h => bs_same (by rw [← lnB_data a, h, lnB_data])
  unfold three
  by_cases h1 : y.data.toList = x.data.toList
  · have e1 := hqe h1
    rw [if_pos h1]
    simp only [lnB_data]
    clear h1 hne hqe
    go_enter Tryz.func83, Tryz.ntmps83
    go_wp2
    go_ret2
    exact ⟨rfl, rfl⟩
  · have e1 := hne h1
    rw [if_neg h1]
    by_cases h2 : z.data.toList = x.data.toList
    · have e2 := hqe h2
      rw [if_pos (.inl h2)]
      simp only [lnB_data]
      clear h1 h2 hne hqe
      go_enter Tryz.func83, Tryz.ntmps83
      go_wp2
      go_ret2
      exact ⟨rfl, rfl⟩
    · have e2 := hne h2
      by_cases h3 : z.data.toList = y.data.toList
      · have e3 := hqe h3
        rw [if_pos (.inr h3)]
        simp only [lnB_data]
        clear h1 h2 h3 hne hqe
        go_enter Tryz.func83, Tryz.ntmps83
        go_wp2
        go_ret2
        exact ⟨rfl, rfl⟩
      · have e3 := hne h3
        rw [if_neg (by rintro (h | h) <;> contradiction)]
        clear h1 h2 h3 hne hqe
        go_enter Tryz.func83, Tryz.ntmps83
        go_wp2
        go_ret2
        exact ⟨rfl, rfl⟩
/-- A slice of pairs that is read. -/
structure RdP (w : World) (v : Value) (ps : List (Nat × Nat)) : Prop where
  at_ : ∃ a cap, v = .slice a ps.length cap ∧ ps.length ≤ cap ∧ PS w a ps
theorem RdP.below {w w' : World} {v : Value} {ps : List (Nat × Nat)} (h : RdP w v ps) (hb : Below w.heap.size w w') : RdP w' v ps := by
  obtain ⟨a, cap, e, hc, hp⟩ := h.at_
  exact ⟨a, cap, e, hc, hp.below hb⟩

set_option maxRecDepth 100000 in
/-- What is behind the first pair of a slice. -/
theorem tailP_at {w : World} {a : Option Addr} {cap : Nat} {x : Nat × Nat} {xs : List (Nat × Nat)} (hc : (x :: xs).length ≤ cap) (h : PS w a (x :: xs)) :
    ∃ v, (∀ w1, (Instr.sliceAt 109 (.slice a (x :: xs).length cap) (some (.int .i64 1)) none none).run Tryz.prog w1 = .ok v w1) ∧ RdP w v xs ∧
      ∃ b o, a = some ⟨b, o, none⟩ ∧ PAt w b o x := by
  obtain ⟨b, o, rfl, hcell⟩ := h.at (k := 0) (by simp)
  refine ⟨sliced (some ⟨b, o, none⟩) 1 (x :: xs).length cap 2, fun w1 => ?_, ⟨?_⟩, b, o, rfl, by have := hcell 0 (by simp); simpa using this⟩
  · rw [run_sliceAt_slice w1 _ _ _ _ _ Tryz.underlying109, run_slice_l w1 _ _ _ _ Tryz.underlying109 .i64 1 (by omega) (by simp; omega)]
    have hz : (sizeOf (Tryz.prog.elem 109)).run Tryz.prog w1 = .ok 2 w1 := by kernel_rfl
    rw [hz]
    rfl
  · refine ⟨if cap = 1 then some ⟨b, o, none⟩ else some ⟨b, o + 2, none⟩, cap - 1, ?_, by simp at hc; omega, ?_⟩
    · unfold sliced
      split <;> rfl
    · by_cases h1 : cap = 1
      · left
        have : xs.length = 0 := by simp at hc; omega
        exact List.eq_nil_of_length_eq_zero this
      · right
        refine ⟨b, o + 2, by rw [if_neg h1], fun i hi => ?_⟩
        have := hcell (i + 1) (by simp; omega)
        rw [show o + 2 + i * 2 = o + (i + 1) * 2 by omega]
        exact this

theorem placesP_take {pa pb : List (Nat × Nat)} {k : Nat} (h : k < pa.length) : placesP (pa.take (k + 1)) pb = placesP (pa.take k) pb ++ (match withP pb pa[k].1 with
    | none => []
    | some y => [(pa[k].1, pa[k].2, y)]) := by
  unfold placesP
  rw [List.take_succ_eq_append_getElem h, List.filterMap_append]
  congr 1
  cases hw : withP pb pa[k].1 <;> simp [hw]

def PlacesPost (ts : List Pl) (w : World) (e : Ending) (w' : World) : Prop :=
  ∃ ad cp, e = .returned (.slice ad ts.length cp) ∧ w'.ownsRow w.heap.size 112 3 (.slice ad ts.length cp) ts.length (plC ts) ∧ Below w.heap.size w w'

set_option maxRecDepth 20000 in
set_option maxHeartbeats 8000000 in
theorem standing_any (lb la lc : List ByteArray) (pa pb : List (Nat × Nat)) (a1 : Option Addr) (c1 : Nat) (v2 : Value) (w : World) (h1 : PS w a1 pa) (h2 : RdP w v2 pb) (hA : Asc2 lb la 0 0 pa) (hB : Asc2 lb lc 0 0 pb) (hm : pa.length ≤ 1500) (hn : pb.length ≤ 1500) :
    Calls Tryz.prog 81 #[.slice a1 pa.length c1, v2] w fun e w' => PlacesPost (placesP pa pb) w e w' := by
  obtain ⟨ti, hti, hz0, hz1, hz2⟩ := info_parts Tryz.infoPlace
  go_enter Tryz.func81, Tryz.ntmps81
  go_wp2
  go_loopw [5, 6, 12] (fun v rs ix wr => ∃ (k i j ii jj : Nat) (R : List (Nat × Nat)), k ≤ pa.length ∧ ix = .int .i64 (k : Int) ∧ NKeep (Asc2 lb la i j (pa.drop k) ∧ Asc2 lb lc ii jj R ∧ (∀ n, i ≤ n → withP pb n = withP R n)) ∧ R.length ≤ 1500 ∧ RdP w rs R ∧
    wr.ownsRow w.heap.size 112 3 v (placesP (pa.take k) pb).length (plC (placesP (pa.take k) pb)) ∧ Below w.heap.size w wr) (fun _ _ ix _ => pa.length - (intOf ix).toNat)
  case atStart => exact ⟨0, 0, 0, 0, 0, pb, Nat.zero_le _, rfl, ⟨hA, hB, fun _ _ => rfl⟩, hn, h2, by rw [List.take_zero]; exact World.ownsRow_nil _ _ _ _, Below.refl _ _⟩
  case round =>
    obtain ⟨k, i, j, ii, jj, R, hk, rfl, HK, hRl, hR, hrow, hb⟩ := hrel
    by_cases hlt : k < pa.length
    · obtain ⟨b, off, rfl, hc⟩ := (h1.below hb).at hlt
      obtain ⟨x0, x1⟩ := hc k hlt
      have HT : NKeep (placesP (pa.take (k + 1)) pb = placesP (pa.take k) pb ++ (match withP pb pa[k].1 with
        | none => []
        | some y => [(pa[k].1, pa[k].2, y)])) := ⟨placesP_take hlt⟩
      have hpl := placesP_len (pa.take k) pb
      have hpl2 : (placesP (pa.take k) pb).length ≤ 1500 := by simp at hpl; omega
      have HA : NKeep (i ≤ pa[k].1 ∧ Asc2 lb la (pa[k].1 + 1) (pa[k].2 + 1) (pa.drop (k + 1))) := ⟨by
        have h := HK.out.1
        rw [List.drop_eq_getElem_cons hlt] at h
        exact ⟨h.1, h.2.2.2.2.2⟩⟩
      have HB : NKeep (Asc2 lb lc ii jj R ∧ (∀ n, pa[k].1 ≤ n → withP pb n = withP R n)) := ⟨HK.out.2.1, fun n hn => HK.out.2.2 n (Nat.le_trans HA.out.1 hn)⟩
      clear hc hpl HK h1 h2
      obtain ⟨pi, hpi⟩ : ∃ pi, pa[k].1 = pi := ⟨_, rfl⟩
      obtain ⟨pj, hpj⟩ : ∃ pj, pa[k].2 = pj := ⟨_, rfl⟩
      rw [hpi, hpj] at HT HA
      rw [hpi] at HB x0
      rw [hpj] at x1
      obtain ⟨ts, hts⟩ : ∃ ts, placesP (pa.take k) pb = ts := ⟨_, rfl⟩
      rw [hts] at HT hpl2 hrow
      go_wp2
      obtain ⟨q8, hq8⟩ : ∃ q8, wr.heap.size = q8 := ⟨_, rfl⟩
      obtain ⟨W1, hW1⟩ : ∃ W1, wr.alloc (.cells #[.int .i64 (pi : Int), .int .i64 (pj : Int)] 146) = W1 := ⟨_, rfl⟩
      have hb1 : Below wr.heap.size wr W1 := by rw [← hW1]; exact (Below.refl _ _).alloc (Nat.le_refl _) _
      have hp8 : W1.heap[q8]? = some (.cells #[.int .i64 (pi : Int), .int .i64 (pj : Int)] 146) := by rw [← hW1, ← hq8]; exact heap_alloc_new wr _
      have hrow1 := owns_below hrow hb1
      have hbw1 : Below w.heap.size w W1 := hb.trans (hb1.mono hb.size)
      have hs8 : q8 < W1.heap.size := (Array.getElem?_eq_some_iff.1 hp8).1
      rw [hq8, hW1]
      clear hrow hb hb1 hW1 hq8 x0 x1
      go_loopg [6] R.length (fun g2 rs wr => ∃ (ii jj : Nat) (R2 : List (Nat × Nat)), R2.length = g2 ∧ R2.length ≤ 1500 ∧ NKeep (Asc2 lb lc ii jj R2 ∧ (∀ n, pi ≤ n → withP pb n = withP R2 n)) ∧ RdP w rs R2 ∧ Below W1.heap.size W1 wr)
      case atStart => exact ⟨ii, jj, R, rfl, hRl, HB, hR, Below.refl _ _⟩
      case round =>
        obtain ⟨i2, j2, R2, hgl, hRl2, HB2, hR2, hBi⟩ := hrel
        have hp8r := (hBi.block q8 hs8).trans hp8
        have z0 : wr.cell? ⟨q8, 0, none⟩ = some (.int .i64 (pi : Int)) := by simp [World.cell?, hp8r]
        have z1 : wr.cell? ⟨q8, 1, none⟩ = some (.int .i64 (pj : Int)) := by simp [World.cell?, hp8r]
        have hbwi : Below w.heap.size w wr := hbw1.trans (hBi.mono hbw1.size)
        have hrowi := owns_below hrow1 hBi
        obtain ⟨a2, c2, rfl, hc2, hp2⟩ := hR2.at_
        cases R2 with
        | nil =>
          have HW : NKeep (placesP (pa.take (k + 1)) pb = ts) := ⟨by rw [HT.out, HB2.out.2 pi (Nat.le_refl _)]; simp [withP]⟩
          rw [show (([] : List (Nat × Nat)).length) = 0 from rfl]
          have e0 : decide ((0 : Int) < ((0 : Nat) : Int)) = false := by decide
          go_wp2
          go_region
          all_goals (try go_wp2)
          go_region
          all_goals (try go_wp2)
          go_roundw
          case rel =>
            refine ⟨k + 1, pi + 1, pj + 1, i2, j2, [], by omega, by go_num, ⟨HA.out.2, HB2.out.1, fun n hn => HB2.out.2 n (by omega)⟩, by simp, ⟨a2, c2, rfl, hc2, .inl rfl⟩, ?_, hbwi.drew.drew⟩
            rw [HW.out]; exact hrowi
          case measure => simp [intOf]; omega
        | cons q R3 =>
          obtain ⟨vt, hsl, hRt, b2, o2, rfl, y0', y1'⟩ := tailP_at hc2 hp2
          have y0 := cell_later hbwi y0'
          have y1 := cell_later hbwi y1'
          clear y0' y1'
          obtain ⟨qi, hqi⟩ : ∃ qi, q.1 = qi := ⟨_, rfl⟩
          obtain ⟨qj, hqj⟩ : ∃ qj, q.2 = qj := ⟨_, rfl⟩
          rw [hqi] at y0
          rw [hqj] at y1
          have hlen : (q :: R3).length = R3.length + 1 := rfl
          rw [hlen] at hsl hc2 hRl2 hgl ⊢
          obtain ⟨n2, hn2⟩ : ∃ n2, n2 = R3.length + 1 := ⟨_, rfl⟩
          rw [← hn2] at hsl hc2 hRl2 hgl ⊢
          have HN2 : NKeep (n2 = R3.length + 1) := ⟨hn2⟩
          have hn0 : 0 < n2 := by omega
          have e0 : decide (0 < n2) = true := by simp; omega
          have HGL : NKeep (n2 = gk) := ⟨hgl⟩
          clear hn2 hlen hgl
          have hr3 := HB2.out.1.2.2.2.2.2
          by_cases hqp : qi < pi
          · have HB3 : NKeep (Asc2 lb lc (qi + 1) (qj + 1) R3 ∧ (∀ n, pi ≤ n → withP pb n = withP R3 n)) := ⟨by rw [← hqi, ← hqj]; exact hr3, fun n hn => by rw [HB2.out.2 n hn, withP, if_neg (by omega)]⟩
            clear hr3
            go_wp2
            go_region
            all_goals (try go_wp2)
            go_roundg R3.length
            case measure => have := HN2.out; have := HGL.out; omega
            case rel => exact ⟨qi + 1, qj + 1, R3, rfl, by have := HN2.out; omega, HB3, ⟨hRt.at_⟩, hBi.drew⟩
          · have hbs := owns_base hrowi
            have hszi := hbwi.size
            by_cases hqe : qi = pi
            · have HW : NKeep (placesP (pa.take (k + 1)) pb = ts ++ [(pi, pj, qj)]) := ⟨by rw [HT.out, HB2.out.2 pi (Nat.le_refl _), withP, if_pos (by omega), hqj]⟩
              have hqeI : (qi : Int) = (pi : Int) := by omega
              clear hr3
              go_wp2
              go_region
              all_goals (try go_wp2)
              go_region
              all_goals (try go_wp2)
              go_region_law ((refine step_append_lies _ (by rfl) _ _ 107 (by rfl) w.heap.size 112 ti _ 3 24 Tryz.underlying107 hti hz0 hz1 hz2 rfl (by decide) u5 ts.length (plC ts) (by rfl) (by exact hrowi.alloc _) ⟨wr.heap.size, 0, none⟩ 1 1 [.int .i64 (pi : Int), .int .i64 (pj : Int), .int .i64 (qj : Int)] (by rfl) (by rfl) (by exact fun j' u h => World.news_of_block (w := wr.alloc _) (heap_alloc_new _ _) j' u h) (by simp [Value.oneCell']) (by omega) (by unfold maxLen; omega) (by omega) (by simp; omega) (wr.heap.size + 1) (by simp) ?_; intro g4 cap4 w4 ho4 hg4 hl4 hlt4))
              all_goals go_wp2
              all_goals
                refine ⟨⟨k + 1, pi + 1, pj + 1, i2, j2, q :: R3, by omega, by go_num, ⟨HA.out.2, HB2.out.1, fun n hn => HB2.out.2 n (by omega)⟩, by have := HN2.out; simp; omega, ?_, ?_, ?_⟩, ?_⟩
                · exact ⟨some ⟨b2, o2, none⟩, c2, by rw [HN2.out]; rfl, by rw [HN2.out] at hc2; exact hc2, hp2⟩
                · rw [HW.out, List.length_append, plC_snoc]; exact ho4
                · exact ((hbwi.alloc (by omega) _).drew.drew.drew.grown hg4 (by simp; omega) hbs)
                · simp [intOf]; omega
            · have HW : NKeep (placesP (pa.take (k + 1)) pb = ts) := ⟨by
                rw [HT.out, HB2.out.2 pi (Nat.le_refl _), withP, if_neg (by omega), withP_lt hr3 (by omega)]
                simp⟩
              have hqeB : ((qi : Int) == (pi : Int)) = false := by simp; omega
              clear hr3
              go_wp2
              go_region
              all_goals (try go_wp2)
              go_region
              all_goals (try go_wp2)
              go_roundw
              case rel =>
                refine ⟨k + 1, pi + 1, pj + 1, i2, j2, q :: R3, by omega, by go_num, ⟨HA.out.2, HB2.out.1, fun n hn => HB2.out.2 n (by omega)⟩, by have := HN2.out; simp; omega, ⟨some ⟨b2, o2, none⟩, c2, by rw [HN2.out]; rfl, by rw [HN2.out] at hc2; exact hc2, hp2⟩, ?_, hbwi.drew.drew⟩
                rw [HW.out]; exact hrowi
              case measure => simp [intOf]; omega
    · obtain rfl : k = pa.length := by omega
      rw [List.take_length] at hrow
      obtain ⟨ad, cp, rfl⟩ := owns_slice hrow
      go_wp2
      go_ret
      exact ⟨ad, cp, rfl, hrow, hb⟩
end Go.Proofs.YtjiafjdjocmodaaGreat

namespace Go.Proofs.YtjiafjdjocmodaaGreat
open Go.RowKit Go.Shelf

def renJ : Ren := ⟨fun n => if n = 156 then 84 else if n = 165 then 111 else if n = 166 then 85 else if n = 169 then 86 else if n = 240 then 112 else if n = 241 then 128 else if n = 276 then 129 else if n = 277 then 136 else n, fun n => if n = 0 then 0 else if n = 3 then 3 else if n = 4 then 4 else if n = 5 then 5 else if n = 9 then 9 else if n = 20 then 20 else if n = 31 then 28 else if n = 37 then 22 else if n = 70 then 113 else if n = 72 then 115 else if n = 75 then 118 else if n = 76 then 119 else if n = 80 then 121 else if n = 127 then 122 else if n = 164 then 171 else n, fun n => n⟩

theorem laysJ156 : Lays.n156 Tryz.prog renJ where
  mixed := by kernel_rfl
  f156 := by kernel_rfl
  f165 := by kernel_rfl
  f166 := by kernel_rfl
  f169 := by kernel_rfl
  f240 := by kernel_rfl
  f241 := by kernel_rfl
  f276 := by kernel_rfl
  f277 := by kernel_rfl
  t0 := by kernel_rfl
  a0 := fun _ => by kernel_rfl
  z0 := fun _ => by kernel_rfl
  v0 := fun _ => by kernel_rfl
  t3 := by kernel_rfl
  a3 := fun _ => by kernel_rfl
  z3 := fun _ => by kernel_rfl
  v3 := fun _ => by kernel_rfl
  t4 := by kernel_rfl
  a4 := fun _ => by kernel_rfl
  z4 := fun _ => by kernel_rfl
  v4 := fun _ => by kernel_rfl
  t9 := by kernel_rfl
  a9 := fun _ => by kernel_rfl
  z9 := fun _ => by kernel_rfl
  v9 := fun _ => by kernel_rfl
  t20 := by kernel_rfl
  a20 := fun _ => by kernel_rfl
  z20 := fun _ => by kernel_rfl
  v20 := fun _ => by kernel_rfl
  t31 := by kernel_rfl
  a31 := fun _ => by kernel_rfl
  z31 := fun _ => by kernel_rfl
  v31 := fun _ => by kernel_rfl
  t37 := by kernel_rfl
  a37 := fun _ => by kernel_rfl
  z37 := fun _ => by kernel_rfl
  v37 := fun _ => by kernel_rfl
  t70 := by kernel_rfl
  a70 := fun _ => by kernel_rfl
  z70 := fun _ => by kernel_rfl
  v70 := fun _ => by kernel_rfl
  t72 := by kernel_rfl
  a72 := fun _ => by kernel_rfl
  z72 := fun _ => by kernel_rfl
  v72 := fun _ => by kernel_rfl
  t75 := by kernel_rfl
  a75 := fun _ => by kernel_rfl
  z75 := fun _ => by kernel_rfl
  v75 := fun _ => by kernel_rfl
  t76 := by kernel_rfl
  a76 := fun _ => by kernel_rfl
  z76 := fun _ => by kernel_rfl
  v76 := fun _ => by kernel_rfl
  t127 := by kernel_rfl
  a127 := fun _ => by kernel_rfl
  z127 := fun _ => by kernel_rfl
  v127 := fun _ => by kernel_rfl
  t164 := by kernel_rfl
  a164 := fun _ => by kernel_rfl
  z164 := fun _ => by kernel_rfl
  v164 := fun _ => by kernel_rfl

theorem laysJ166 : Lays.n166 Tryz.prog renJ where
  mixed := by kernel_rfl
  f166 := by kernel_rfl
  f240 := by kernel_rfl
  f276 := by kernel_rfl
  t0 := by kernel_rfl
  a0 := fun _ => by kernel_rfl
  z0 := fun _ => by kernel_rfl
  v0 := fun _ => by kernel_rfl
  t3 := by kernel_rfl
  a3 := fun _ => by kernel_rfl
  z3 := fun _ => by kernel_rfl
  v3 := fun _ => by kernel_rfl
  t4 := by kernel_rfl
  a4 := fun _ => by kernel_rfl
  z4 := fun _ => by kernel_rfl
  v4 := fun _ => by kernel_rfl
  t9 := by kernel_rfl
  a9 := fun _ => by kernel_rfl
  z9 := fun _ => by kernel_rfl
  v9 := fun _ => by kernel_rfl
  t20 := by kernel_rfl
  a20 := fun _ => by kernel_rfl
  z20 := fun _ => by kernel_rfl
  v20 := fun _ => by kernel_rfl
  t37 := by kernel_rfl
  a37 := fun _ => by kernel_rfl
  z37 := fun _ => by kernel_rfl
  v37 := fun _ => by kernel_rfl
  t70 := by kernel_rfl
  a70 := fun _ => by kernel_rfl
  z70 := fun _ => by kernel_rfl
  v70 := fun _ => by kernel_rfl
  t72 := by kernel_rfl
  a72 := fun _ => by kernel_rfl
  z72 := fun _ => by kernel_rfl
  v72 := fun _ => by kernel_rfl
  t75 := by kernel_rfl
  a75 := fun _ => by kernel_rfl
  z75 := fun _ => by kernel_rfl
  v75 := fun _ => by kernel_rfl
  t164 := by kernel_rfl
  a164 := fun _ => by kernel_rfl
  z164 := fun _ => by kernel_rfl
  v164 := fun _ => by kernel_rfl

theorem laysJ169 : Lays.n169 Tryz.prog renJ where
  mixed := by kernel_rfl
  f169 := by kernel_rfl
  t0 := by kernel_rfl
  a0 := fun _ => by kernel_rfl
  z0 := fun _ => by kernel_rfl
  v0 := fun _ => by kernel_rfl
  t3 := by kernel_rfl
  a3 := fun _ => by kernel_rfl
  z3 := fun _ => by kernel_rfl
  v3 := fun _ => by kernel_rfl
  t9 := by kernel_rfl
  a9 := fun _ => by kernel_rfl
  z9 := fun _ => by kernel_rfl
  v9 := fun _ => by kernel_rfl
  t37 := by kernel_rfl
  a37 := fun _ => by kernel_rfl
  z37 := fun _ => by kernel_rfl
  v37 := fun _ => by kernel_rfl
  t70 := by kernel_rfl
  a70 := fun _ => by kernel_rfl
  z70 := fun _ => by kernel_rfl
  v70 := fun _ => by kernel_rfl
  t72 := by kernel_rfl
  a72 := fun _ => by kernel_rfl
  z72 := fun _ => by kernel_rfl
  v72 := fun _ => by kernel_rfl
  t127 := by kernel_rfl
  a127 := fun _ => by kernel_rfl
  z127 := fun _ => by kernel_rfl
  v127 := fun _ => by kernel_rfl

theorem extraJ : Builder.Extra Tryz.prog renJ where
  sizeBuilder := by kernel_rfl
  liesBuilder := by kernel_rfl
  t5 := by kernel_rfl
  a5 := fun _ => by kernel_rfl
  z5 := fun _ => by kernel_rfl
  v5 := fun _ => by kernel_rfl
  infoByte := by kernel_rfl
  cellsByte := by kernel_rfl
  sizeByte := by kernel_rfl
  neB5 := by decide

theorem join_empty (xs : List (List UInt8)) : Lib.join xs [] = xs.flatten := by
  cases xs with
  | nil => rfl
  | cons x r => rw [Lib.join_cons]; simp [Lib.joinTail]

theorem join_any (v : Value) (ls : List ByteArray) (w : World) (h : RdL w v ls) (hl : ls.length ≤ 100000) (hs : (catL ls).length ≤ 1000000) :
    Calls Tryz.prog 84 #[v, .string ⟨#[]⟩] w fun e w' => e = .returned (.string (lnB (catL ls))) ∧ Below w.heap.size w w' := by
  obtain ⟨a, cap, rfl, hc, hss⟩ := h.at_
  by_cases h0 : ls = []
  · subst h0
    exact (Any.strings_Join_none (ρ := renJ) laysJ156 extraJ a cap ⟨#[]⟩ w).mono fun e w' ⟨he, hw⟩ => ⟨he, hw ▸ Below.refl _ _⟩
  · have hpos : 0 < ls.length := List.length_pos_iff.2 h0
    obtain ⟨b, o, rfl, hcell⟩ := hss.at hpos
    have e : Lib.join (ls.map (·.data.toList)) (⟨#[]⟩ : ByteArray).data.toList = catL ls := join_empty _
    have hj := Any.strings_Join (ρ := renJ) laysJ156 extraJ b o cap ls ⟨#[]⟩ w (fun j x hx => by
      obtain ⟨hj, rfl⟩ := List.getElem?_eq_some_iff.1 hx
      exact hcell j hj) (blk_lt (hcell 0 hpos)) (by omega) hc (by rw [e]; omega)
    rw [e] at hj
    exact hj

/-- A Builder in memory that holds some bytes. -/
def BldM (B b : Nat) (l : List UInt8) (w : World) : Prop := Lib.IsBuilderF 115 5 B b (Lib.byteCells l) w

theorem bldAt_on {T e : TypeId} {B b : Nat} {p : Value} {bs : List Value} {w w' : World} (h : Lib.BuilderAtF T e B b p bs w) (hb : w'.heap[b]? = w.heap[b]?) (hk : ∀ (g : Nat) (c : Array Value) (fz : Nat × Nat), w.heap[g]? = some (Obj.cells c e fz) → w'.heap[g]? = w.heap[g]?) : Lib.BuilderAtF T e B b p bs w' := by
  obtain ⟨hB, v, h1, h2, h3⟩ := h
  refine ⟨hB, v, hb.trans h1, ⟨h2.1, ?_⟩, h3⟩
  rcases h2.2 with h' | ⟨g, cap, cur, fz, hv, k1, k2, k3⟩
  · exact .inl h'
  · exact .inr ⟨g, cap, cur, fz, hv, k1, (hk g cur fz k2).trans k2, k3⟩
theorem BldM.on {B b : Nat} {l : List UInt8} {w w' : World} (h : BldM B b l w) (hb : w'.heap[b]? = w.heap[b]?) (hk : ∀ (g : Nat) (c : Array Value) (fz : Nat × Nat), w.heap[g]? = some (Obj.cells c 5 fz) → w'.heap[g]? = w.heap[g]?) : BldM B b l w' :=
  h.elim (fun x => .inl (bldAt_on x hb hk)) (fun x => .inr (bldAt_on x hb hk))
theorem BldM.lt {B b : Nat} {l : List UInt8} {w : World} (h : BldM B b l w) : b < w.heap.size := h.elim (fun x => x.lt) (fun x => x.lt)
theorem BldM.below {B b : Nat} {l : List UInt8} {w w' : World} (h : BldM B b l w) (hb : Below w.heap.size w w') : BldM B b l w' :=
  h.on (hb.block b h.lt) (fun g _ _ hg => hb.block g (Array.getElem?_eq_some_iff.1 hg).1)
theorem BldM.set {B b : Nat} {l : List UInt8} {w : World} {q : Nat} {c : Array Value} {t : TypeId} {fz : Nat × Nat} (h : BldM B b l w) (hq : w.heap[q]? = some (.cells c t fz)) (ht : t ≠ 5) (hne : q ≠ b) (i : Nat) (u : Value) : BldM B b l (w.setCell ⟨q, i, none⟩ u) :=
  h.on (Below.heap_setCell w ⟨q, i, none⟩ u b (by simp; omega)) (fun g c' fz' hg => Below.heap_setCell w ⟨q, i, none⟩ u g (by
    simp
    intro e
    subst e
    rw [hq] at hg
    cases hg
    exact ht rfl))

theorem writeS_any (B b : Nat) (l : List UInt8) (s : ByteArray) (w : World) (h : BldM B b l w) (hl : l.length + s.size ≤ 140737488355328) (hB : B ≤ w.heap.size) :
    Calls Tryz.prog 85 #[.pointer (some ⟨b, 0, none⟩), .string s] w fun e w' => e = .returned (.tuple #[.int .i64 s.size, .nilIface]) ∧ BldM B b (l ++ s.data.toList) w' ∧ Below B w w' ∧ Lib.OthersKept 5 (some b) w w' := by
  have hlen : (Lib.byteCells l).length + s.size ≤ 140737488355328 := by unfold Lib.byteCells; rw [List.length_map]; exact hl
  refine (Any.Builder_WriteString_k (ρ := renJ) laysJ166 extraJ B b (Lib.byteCells l) s w h hlen hB).mono fun e w' ⟨he, hA, hb, ho⟩ => ⟨he, .inr ?_, hb, ho⟩
  have e1 : Lib.byteCells (l ++ s.data.toList) = Lib.byteCells l ++ Lib.strCells s := by unfold Lib.byteCells Lib.strCells; rw [List.map_append]
  rw [e1]
  exact hA

theorem stringB_any (B b : Nat) (l : List UInt8) (w : World) (h : BldM B b l w) (hB : B ≤ w.heap.size) :
    Calls Tryz.prog 86 #[.pointer (some ⟨b, 0, none⟩)] w fun e w' => e = .returned (.string (lnB l)) ∧ Below B w w' :=
  (Any.Builder_String_any_k (ρ := renJ) laysJ169 extraJ B b l w h hB).mono fun _ _ ⟨he, _, hb, _⟩ => ⟨he, hb⟩
end Go.Proofs.YtjiafjdjocmodaaGreat

namespace Go.Proofs.YtjiafjdjocmodaaGreat
open Go.RowKit Go.Shelf

attribute [local go_sem] Oper.semAt_some

set_option maxHeartbeats 1000000 in
set_option maxRecDepth 100000 in
theorem nlByte_any (s : ByteArray) (w : World) :
    Calls Tryz.prog 135 #[.string s, .int .u8 10] w fun e w' => e = .returned (.int .i64 (Lib.indexByte s.data.toList 10)) ∧ w' = w := by
  go_enter Tryz.func135, Tryz.ntmps135
  go_wp2
  rw [run_callFunc_extern Tryz.func138 (by kernel_rfl) (by kernel_rfl) (by kernel_rfl) (e := Extern.BytealgIndexByte.indexByte) (by kernel_rfl), Lib.run_indexByteString]
  simp only [Result.andThen]
  rw [Oper.upon_value]
  go_wp2
  go_ret
  exact ⟨rfl, rfl⟩

set_option maxHeartbeats 1000000 in
theorem nlIndex_any (s : ByteArray) (w : World) :
    Calls Tryz.prog 126 #[.string s, .int .u8 10] w fun e w' => e = .returned (.int .i64 (Lib.indexByte s.data.toList 10)) ∧ w' = w := by
  go_enter Tryz.func126, Tryz.ntmps126
  go_wp2_with (go_at_call 135; refine (nlByte_any _ _).mono ?_; rintro e w' ⟨rfl, rfl⟩)
  go_ret
  exact ⟨rfl, rfl⟩

def boxFar (Bs : Nat) (w : World) : Nat := match w.cell? ⟨Bs, 0, none⟩ with
  | some (.string r) => r.size
  | _ => 0
theorem boxFar_of {Bs : Nat} {w : World} {r : ByteArray} (h : w.cell? ⟨Bs, 0, none⟩ = some (.string r)) : boxFar Bs w = r.size := by simp [boxFar, h]

theorem frozen_block {w w' : World} {b i : Nat} (h : w'.heap[b]? = w.heap[b]?) : w'.frozen? ⟨b, i, none⟩ = w.frozen? ⟨b, i, none⟩ := by simp [World.frozen?, h]

set_option maxRecDepth 100000 in
set_option maxHeartbeats 2000000 in
theorem lines1_in (n l Bs : Nat) (s : ByteArray) (hs : s.size ≤ 1099511627776) (J : List ByteArray → World → Prop) (W : World)
    (hJd : ∀ pre W1, J pre W1 → J pre (World.drew W1)) (hJs : ∀ pre W1 v, J pre W1 → J pre (World.setCell W1 ⟨Bs, 0, none⟩ v))
    (hY : ∀ pre x W1, J pre W1 → (∃ r, linesB s = (pre ++ [x]) ++ r) → YieldAt Fence.wide (n - 1) Tryz.prog l #[.string x] W1 fun e W' =>
      e = .returned (.bool true) ∧ J (pre ++ [x]) W' ∧ W'.heap[Bs]? = W1.heap[Bs]?)
    (hBs : W.cell? ⟨Bs, 0, none⟩ = some (.string s)) (hBf : W.frozen? ⟨Bs, 0, none⟩ = false) (h0 : J [] W) :
    CallsIn Fence.wide n Tryz.prog 125 #[.func (.yield l) #[] #[], .pointer (some ⟨Bs, 0, none⟩)] W fun e W' => (∃ v, e = .returned v) ∧ J (linesB s) W' := by
  refine callsIn_of_wp Tryz.func125 rfl trivial ?_ rfl
  simp only [Tryz.ntmps125, List.size_toArray, List.length_cons, List.length_nil, Nat.reduceAdd, Nat.reduceSub, Array.replicate_succ, Array.replicate_zero, List.push_toArray, List.append_toArray, List.nil_append, List.cons_append]
  gi_wp2
  gi_loopw [3, 4] (fun _ _ wr => ∃ (pre : List ByteArray) (rs : ByteArray), wr.cell? ⟨Bs, 0, none⟩ = some (.string rs) ∧ wr.frozen? ⟨Bs, 0, none⟩ = false ∧ rs.size ≤ 1099511627776 ∧ LKeep (linesB s = pre ++ linesB rs) ∧ J pre wr)
    (fun _ _ wr => boxFar Bs wr)
  case atStart => exact ⟨[], s, hBs, hBf, hs, ⟨by simp⟩, h0⟩
  case round =>
    obtain ⟨pre, rs, hc, hf, hrs, HP, hJr⟩ := hrel
    have HF : LKeep (boxFar Bs wr = rs.size) := ⟨boxFar_of hc⟩
    by_cases hz : 0 < rs.size
    · rcases nl_cases rs with hix | ⟨i, hix, hroom⟩
      · have hl := linesB_last hix hz
        have HL : LKeep (linesB s = (pre ++ [rs]) ++ linesB ⟨#[]⟩) := ⟨by rw [HP.out, hl, linesB_none]; simp⟩
        obtain ⟨fn, tmps, assign, body, hy, hR⟩ := hY pre rs (wr.setCell ⟨Bs, 0, none⟩ (.string ⟨#[]⟩)) (hJs _ _ _ hJr) ⟨_, HL.out⟩
        have hcs : (wr.setCell ⟨Bs, 0, none⟩ (.string ⟨#[]⟩)).cell? ⟨Bs, 0, none⟩ = some (.string ⟨#[]⟩) := World.cell?_setCell_same' _ _ _ (by rw [hc]; rfl)
        have hfs : (wr.setCell ⟨Bs, 0, none⟩ (.string ⟨#[]⟩)).frozen? ⟨Bs, 0, none⟩ = false := by rw [World.frozen?_setCell]; exact hf
        clear hl HP
        gi_wp2_with (refine ⟨trivial, fun h => Bool.noConfusion h, ?_⟩; gi_at_call 126; refine (callsIn_wide.2 (nlIndex_any rs wr)).mono ?_; rintro e w1 ⟨rfl, rfl⟩; rw [hix])
        refine ⟨fun h => Bool.noConfusion h, hR.mono ?_⟩
        rintro e W3 ⟨rfl, hJ3, hk3⟩
        gi_wp2
        have hc3 := (World.cell?_of_block hk3 : W3.cell? ⟨Bs, 0, none⟩ = _).trans hcs
        go_roundw
        case rel => exact ⟨pre ++ [rs], ⟨#[]⟩, hc3, (frozen_block hk3).trans hfs, by decide, HL, hJ3⟩
        case measure =>
          rw [boxFar_of hc3, HF.out]
          exact hz
      · have hl := linesB_cut hix
        have HL : LKeep (linesB s = (pre ++ [rs.extract 0 (i + 1)]) ++ linesB (rs.extract (i + 1) rs.size)) := ⟨by rw [HP.out, hl]; simp⟩
        obtain ⟨fn, tmps, assign, body, hy, hR⟩ := hY pre (rs.extract 0 (i + 1)) (wr.setCell ⟨Bs, 0, none⟩ (.string (rs.extract (i + 1) rs.size))).drew (hJd _ _ (hJs _ _ _ hJr)) ⟨_, HL.out⟩
        have hcs : (wr.setCell ⟨Bs, 0, none⟩ (.string (rs.extract (i + 1) rs.size))).drew.cell? ⟨Bs, 0, none⟩ = some (.string (rs.extract (i + 1) rs.size)) := (World.cell?_setCell_same' wr ⟨Bs, 0, none⟩ _ (by rw [hc]; rfl) : (wr.setCell ⟨Bs, 0, none⟩ _).cell? _ = _)
        have hfs : (wr.setCell ⟨Bs, 0, none⟩ (.string (rs.extract (i + 1) rs.size))).drew.frozen? ⟨Bs, 0, none⟩ = false := (World.frozen?_setCell wr _ _ _).trans hf
        have HZ : LKeep ((rs.extract (i + 1) rs.size).size < rs.size) := ⟨by simp; omega⟩
        have c1 : (0 : Int) ≤ ↑i := by omega
        have c2 : (↑i : Int) ≤ ↑rs.size := by omega
        have c3 : (0 : Int) ≤ ↑i + 1 := by omega
        have c4 : (↑i + 1 : Int) ≤ ↑rs.size := by omega
        have hw1 : IntKind.i64.wrap ((i : Int) + 1) = (i : Int) + 1 := by rw [IntKind.wrap_i64]; omega
        clear hl HP
        gi_wp2_with (refine ⟨trivial, fun h => Bool.noConfusion h, ?_⟩; gi_at_call 126; refine (callsIn_wide.2 (nlIndex_any rs wr)).mono ?_; rintro e w1 ⟨rfl, rfl⟩; rw [hix])
        gi_region
        all_goals (try gi_wp2)
        refine ⟨fun h => Bool.noConfusion h, hR.mono ?_⟩
        rintro e W3 ⟨rfl, hJ3, hk3⟩
        gi_wp2
        have hc3 := (World.cell?_of_block hk3 : W3.cell? ⟨Bs, 0, none⟩ = _).trans hcs
        have := HZ.out
        go_roundw
        case rel => exact ⟨pre ++ [rs.extract 0 (i + 1)], _, hc3, (frozen_block hk3).trans hfs, by omega, HL, hJ3⟩
        case measure =>
          rw [boxFar_of hc3, HF.out]
          exact this
    · have hz0 : rs.size = 0 := by omega
      have he : rs = ⟨#[]⟩ := by
        cases rs with
        | mk d => simp [ByteArray.size] at hz0; simp [hz0]
      subst he
      have HE : LKeep (linesB s = pre) := ⟨by rw [HP.out, linesB_none]; simp⟩
      clear HP hz0
      gi_wp2
      go_end0
      exact ⟨⟨_, rfl⟩, by rw [HE.out]; exact hJr⟩

set_option maxHeartbeats 400000 in
theorem linesSeq_any (s : ByteArray) (w : World) :
    Calls Tryz.prog 107 #[.string s] w fun e w' => e = .returned (.func (.func 125) #[] #[.pointer (some ⟨w.heap.size, 0, none⟩)]) ∧ w' = w.alloc (.cells #[.string s] 9) := by
  go_enter Tryz.func107, Tryz.ntmps107
  go_wp2
  go_ret
  exact ⟨rfl, rfl⟩
end Go.Proofs.YtjiafjdjocmodaaGreat
