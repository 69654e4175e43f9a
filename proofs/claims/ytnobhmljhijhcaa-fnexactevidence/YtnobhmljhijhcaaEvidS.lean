/-
  spec.Evidence.
-/
import Derived.Test.YtnobhmljhijhcaaEvid
namespace Go.Proofs.Ytnobhmljhijhcaa
open Go.RowKit

set_option maxRecDepth 20000 in
set_option maxHeartbeats 4000000 in
theorem specEv_yes (EP EQ L : List ByteArray) (hEL : CKeep (L = EP ++ EQ)) (ga gb oa ob : Nat) (ca cb : Nat) (sp sq : List ByteArray) (tp tq : Bool) (xp xq : ByteArray) (m : Int) (w : World) (hsp : ∀ i (h : i < sp.length), w.cell? ⟨ga, oa + i, none⟩ = some (.string sp[i])) (hsq : ∀ i (h : i < sq.length), w.cell? ⟨gb, ob + i, none⟩ = some (.string sq[i])) (hp : sp.length ≤ 7) (hq : sq.length ≤ 7) (hxp : xp.size ≤ 1048576) (hxq : xq.size ≤ 1048576) (x y : ByteArray) (bb : Bool)
    (hEP : CKeep (EP = evT sp tp xp)) (hEQ : CKeep (EQ = evT sq tq xq)) (hcl : ∀ a' cap' w, SS w a' L → Calls Try.prog 16 #[.slice a' L.length cap', .int .i64 m] w fun e w' => ClPost x y bb w e w') :
    Calls Try.prog 8 #[.agg #[.slice (some ⟨ga, oa, none⟩) sp.length ca, .bool tp, .string xp], .agg #[.slice (some ⟨gb, ob, none⟩) sq.length cb, .bool tq, .string xq], .int .i64 m] w fun e w' => EvPost x y bb w e w' := by
  obtain ⟨i0, hi, hz0, hz1, hz2⟩ := info_parts Try.infoStr
  have hal : Below w.heap.size w ((w.alloc (.cells #[.slice (some ⟨ga, oa, none⟩) sp.length ca, .bool tp, .string xp] 30)).alloc (.cells #[.slice (some ⟨gb, ob, none⟩) sq.length cb, .bool tq, .string xq] 30)) := ((Below.refl _ _).alloc (Nat.le_refl _) _).alloc (by simp) _
  have hP : PrC ((w.alloc (.cells #[.slice (some ⟨ga, oa, none⟩) sp.length ca, .bool tp, .string xp] 30)).alloc (.cells #[.slice (some ⟨gb, ob, none⟩) sq.length cb, .bool tq, .string xq] 30)) w.heap.size (.slice (some ⟨ga, oa, none⟩) sp.length ca) tp xp := ⟨by simp [go_sem], by simp [go_sem], by simp [go_sem]⟩
  have hQ : PrC ((w.alloc (.cells #[.slice (some ⟨ga, oa, none⟩) sp.length ca, .bool tp, .string xp] 30)).alloc (.cells #[.slice (some ⟨gb, ob, none⟩) sq.length cb, .bool tq, .string xq] 30)) (w.heap.size + 1) (.slice (some ⟨gb, ob, none⟩) sq.length cb) tq xq := ⟨by simp [go_sem], by simp [go_sem], by simp [go_sem]⟩
  have lp : ¬ (7 : Int) < sp.length := by omega
  have lq : ¬ (7 : Int) < sq.length := by omega
  have hsz2 : w.heap.size + 2 ≤ ((w.alloc (.cells #[.slice (some ⟨ga, oa, none⟩) sp.length ca, .bool tp, .string xp] 30)).alloc (.cells #[.slice (some ⟨gb, ob, none⟩) sq.length cb, .bool tq, .string xq] 30)).heap.size := by simp
  go_enter Try.func8, Try.ntmps8
  go_upto_region 3 with fail
  generalize (w.alloc (.cells #[.slice (some ⟨ga, oa, none⟩) sp.length ca, .bool tp, .string xp] 30)).alloc (.cells #[.slice (some ⟨gb, ob, none⟩) sq.length cb, .bool tq, .string xq] 30) = W2 at *
  obtain ⟨bq, hbq⟩ : ∃ bq, bq = w.heap.size + 1 := ⟨_, rfl⟩
  obtain ⟨bp, hbp⟩ : ∃ bp, bp = w.heap.size := ⟨_, rfl⟩
  rw [← hbq] at hQ ⊢
  rw [← hbp] at hP ⊢
  have HB : CKeep (bp < W2.heap.size ∧ bq < W2.heap.size) := ⟨by omega⟩
  clear hbp hbq hsz2
  have hown0 := own_empty W2 W2.heap.size (Nat.le_refl _)
  have hb0 := below_one W2 (.cells #[] 9)
  have x0 := (hP.later hb0).c0
  have hnews : ∀ j u, (sp.map Value.string)[j]? = some u → (W2.alloc (.cells #[] 9)).cell? ((⟨ga, oa, none⟩ : Addr).add j) = some u := ss_news (fun i hi => cell_later (hal.trans (hb0.mono hal.size)) (hsp i hi))
  have hone := ss_one sp
  have hnl : (sp.map Value.string).length = sp.length * 1 := by simp
  have hWz : W2.heap.size ≤ (W2.alloc (.cells #[] 9)).heap.size := by simp
  go_upto_region 4 with (first | (at_builtin; refine wpList_append_own _ rfl _ _ 24 rfl W2.heap.size 9 i0 _ 1 16 Try.underlying24 hi hz0 hz1 hz2 rfl (by decide) _ _ _ rfl hown0 ⟨ga, oa, none⟩ sp.length ca (sp.map .string) rfl hnl hnews hone (by unfold maxLen; omega) (by omega) hWz ?_; intro v3 w3 hown3 hgrow3 _))
  have hb3 := hb0.grown hgrow3 hWz (fun j hj => by cases hj; exact Nat.le_refl _)
  have hown3' : w3.ownsRow W2.heap.size 9 1 v3 sp.length (sp.map .string) := by simpa using hown3
  clear hown3 hgrow3 hb0 hown0 x0 hnews hone hnl hWz
  have x1 := (hP.later hb3).c1
  have x2 := (hP.later hb3).c2
  have hsz3 := hb3.size
  cases tp with
  | false =>
    have y0 := (hQ.later hb3).c0
    have hnq := ss_news (fun i hi => cell_later (hal.trans (hb3.mono hal.size)) (hsq i hi))
    have hoq := ss_one sq
    have hlq : (sq.map Value.string).length = sq.length * 1 := by simp
    go_upto_region 7 with (first | (at_builtin; refine wpList_append_own _ rfl _ _ 24 rfl W2.heap.size 9 i0 _ 1 16 Try.underlying24 hi hz0 hz1 hz2 rfl (by decide) _ _ _ rfl hown3' ⟨gb, ob, none⟩ sq.length cb (sq.map .string) rfl hlq hnq hoq (by unfold maxLen; (try simp); omega) (by (try simp); omega) hb3.size ?_; intro v5 w5 hown5 hgrow5 _))
    have hb5 := hb3.grown hgrow5 hb3.size (fun j hj => owns_row_ge hown3' hj)
    have hsz5 := hb5.size
    replace hown5 : w5.ownsRow W2.heap.size 9 1 v5 (sp ++ sq).length ((sp ++ sq).map .string) := by rw [List.length_append, List.map_append]; exact hown5
    clear hnq hoq hlq y0
    have y1 := (hQ.later hb5).c1
    have y2 := (hQ.later hb5).c2
    cases tq with
    | false =>
      have hownL : w5.ownsRow W2.heap.size 9 1 v5 L.length (L.map .string) := by
        have hE : L = sp ++ sq := by rw [hEL.out, hEP.out, hEQ.out]; simp [evT]
        rw [hE]; exact hown5
      obtain ⟨aL, cL, hvL, hsL⟩ := (SlOf.own hownL).ss
      have hclL := hcl aL cL w5 hsL
      have hbL := hal.trans (hb5.mono hal.size)
      clear hownL hsL hown5
      subst hvL
      go_wp2_with fail
      refine hclL.mono ?_
      rintro e wz ⟨x', y', b', rfl, rfl, rfl, rfl, hbz⟩
      go_wp2
      go_ret3
      exact ⟨rfl, hbL.trans (hbz.mono hbL.size)⟩
    | true =>
      have hln : (sp ++ sq).length ≤ 20 := by simp; omega
      go_upto_region 9 with (first | (at_builtin; refine wpList_append_own _ rfl _ _ 24 rfl W2.heap.size 9 i0 _ 1 16 Try.underlying24 hi hz0 hz1 hz2 rfl (by decide) _ _ _ rfl (hown5.alloc _) ⟨w5.heap.size, 0, none⟩ 1 1 [.string (frontF ++ xq)] rfl rfl (cell_one_new _ _ _) (by simp [Value.oneCell']) (by unfold maxLen; omega) (by omega) (by simp; omega) ?_; intro v6 w6 hown6 hgrow6 _))
      have hb6 := (hb5.alloc hb5.size _).grown hgrow6 (by simp; omega) (fun j hj => owns_row_ge hown5 hj)
      have hsz6 := hb6.size
      replace hown6 : w6.ownsRow W2.heap.size 9 1 v6 (sp ++ sq ++ [frontF ++ xq]).length ((sp ++ sq ++ [frontF ++ xq]).map .string) := by rw [List.length_append, List.map_append]; exact hown6
      have hownL : w6.ownsRow W2.heap.size 9 1 v6 L.length (L.map .string) := by
        have hE : L = sp ++ sq ++ [frontF ++ xq] := by rw [hEL.out, hEP.out, hEQ.out]; simp [evT]
        rw [hE]; exact hown6
      obtain ⟨aL, cL, hvL, hsL⟩ := (SlOf.own hownL).ss
      have hclL := hcl aL cL w6 hsL
      have hbL := hal.trans (hb6.mono hal.size)
      clear hownL hsL hown6
      subst hvL
      go_wp2_with fail
      refine hclL.mono ?_
      rintro e wz ⟨x', y', b', rfl, rfl, rfl, rfl, hbz⟩
      go_wp2
      go_ret3
      exact ⟨rfl, hbL.trans (hbz.mono hbL.size)⟩
  | true =>
    go_upto_region 6 with (first | (at_builtin; refine wpList_append_own _ rfl _ _ 24 rfl W2.heap.size 9 i0 _ 1 16 Try.underlying24 hi hz0 hz1 hz2 rfl (by decide) _ _ _ rfl (hown3'.alloc _) ⟨w3.heap.size, 0, none⟩ 1 1 [.string (frontF ++ xp)] rfl rfl (cell_one_new _ _ _) (by simp [Value.oneCell']) (by unfold maxLen; omega) (by omega) (by simp; omega) ?_; intro v4 w4 hown4 hgrow4 _))
    have hb4 := (hb3.alloc hb3.size _).grown hgrow4 (by simp; omega) (fun j hj => owns_row_ge hown3' hj)
    have hsz4 := hb4.size
    replace hown4 : w4.ownsRow W2.heap.size 9 1 v4 (sp ++ [frontF ++ xp]).length ((sp ++ [frontF ++ xp]).map .string) := by rw [List.length_append, List.map_append]; exact hown4
    have y0 := (hQ.later hb4).c0
    have hnq := ss_news (fun i hi => cell_later (hal.trans (hb4.mono hal.size)) (hsq i hi))
    have hoq := ss_one sq
    have hlq : (sq.map Value.string).length = sq.length * 1 := by simp
    go_upto_region 7 with (first | (at_builtin; refine wpList_append_own _ rfl _ _ 24 rfl W2.heap.size 9 i0 _ 1 16 Try.underlying24 hi hz0 hz1 hz2 rfl (by decide) _ _ _ rfl hown4 ⟨gb, ob, none⟩ sq.length cb (sq.map .string) rfl hlq hnq hoq (by unfold maxLen; (try simp); omega) (by (try simp); omega) hb4.size ?_; intro v5 w5 hown5 hgrow5 _))
    have hb5 := hb4.grown hgrow5 hb4.size (fun j hj => owns_row_ge hown4 hj)
    have hsz5 := hb5.size
    replace hown5 : w5.ownsRow W2.heap.size 9 1 v5 ((sp ++ [frontF ++ xp]) ++ sq).length (((sp ++ [frontF ++ xp]) ++ sq).map .string) := by rw [List.length_append, List.map_append]; exact hown5
    clear hnq hoq hlq y0
    have y1 := (hQ.later hb5).c1
    have y2 := (hQ.later hb5).c2
    cases tq with
    | false =>
      have hownL : w5.ownsRow W2.heap.size 9 1 v5 L.length (L.map .string) := by
        have hE : L = (sp ++ [frontF ++ xp]) ++ sq := by rw [hEL.out, hEP.out, hEQ.out]; simp [evT]
        rw [hE]; exact hown5
      obtain ⟨aL, cL, hvL, hsL⟩ := (SlOf.own hownL).ss
      have hclL := hcl aL cL w5 hsL
      have hbL := hal.trans (hb5.mono hal.size)
      clear hownL hsL hown5
      subst hvL
      go_wp2_with fail
      refine hclL.mono ?_
      rintro e wz ⟨x', y', b', rfl, rfl, rfl, rfl, hbz⟩
      go_wp2
      go_ret3
      exact ⟨rfl, hbL.trans (hbz.mono hbL.size)⟩
    | true =>
      have hln : ((sp ++ [frontF ++ xp]) ++ sq).length ≤ 20 := by simp; omega
      go_upto_region 9 with (first | (at_builtin; refine wpList_append_own _ rfl _ _ 24 rfl W2.heap.size 9 i0 _ 1 16 Try.underlying24 hi hz0 hz1 hz2 rfl (by decide) _ _ _ rfl (hown5.alloc _) ⟨w5.heap.size, 0, none⟩ 1 1 [.string (frontF ++ xq)] rfl rfl (cell_one_new _ _ _) (by simp [Value.oneCell']) (by unfold maxLen; omega) (by omega) (by simp; omega) ?_; intro v6 w6 hown6 hgrow6 _))
      have hb6 := (hb5.alloc hb5.size _).grown hgrow6 (by simp; omega) (fun j hj => owns_row_ge hown5 hj)
      have hsz6 := hb6.size
      replace hown6 : w6.ownsRow W2.heap.size 9 1 v6 ((sp ++ [frontF ++ xp]) ++ sq ++ [frontF ++ xq]).length (((sp ++ [frontF ++ xp]) ++ sq ++ [frontF ++ xq]).map .string) := by rw [List.length_append, List.map_append]; exact hown6
      have hownL : w6.ownsRow W2.heap.size 9 1 v6 L.length (L.map .string) := by
        have hE : L = (sp ++ [frontF ++ xp]) ++ sq ++ [frontF ++ xq] := by rw [hEL.out, hEP.out, hEQ.out]; simp [evT]
        rw [hE]; exact hown6
      obtain ⟨aL, cL, hvL, hsL⟩ := (SlOf.own hownL).ss
      have hclL := hcl aL cL w6 hsL
      have hbL := hal.trans (hb6.mono hal.size)
      clear hownL hsL hown6
      subst hvL
      go_wp2_with fail
      refine hclL.mono ?_
      rintro e wz ⟨x', y', b', rfl, rfl, rfl, rfl, hbz⟩
      go_wp2
      go_ret3
      exact ⟨rfl, hbL.trans (hbz.mono hbL.size)⟩
end Go.Proofs.Ytnobhmljhijhcaa
