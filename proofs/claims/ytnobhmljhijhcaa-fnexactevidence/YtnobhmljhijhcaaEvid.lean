/-
  Evidence: of both sides.
-/
import Derived.Test.YtnobhmljhijhcaaClashB
import Derived.Test.YtnobhmljhijhcaaConcS
import Derived.Deep.RegionHeld3
namespace Go.Proofs.Ytnobhmljhijhcaa
open Go.RowKit

def frontF : ByteArray := ⟨#[102, 105, 108, 101, 32]⟩
/-- The texts of a proof. -/
def evT (ss : List ByteArray) (th : Bool) (tx : ByteArray) : List ByteArray := ss ++ if th then [frontF ++ tx] else []
theorem evT_len (ss : List ByteArray) (th : Bool) (tx : ByteArray) : (evT ss th tx).length ≤ ss.length + 1 := by
  unfold evT
  cases th <;> simp
theorem evT_size {ss : List ByteArray} {th : Bool} {tx : ByteArray} {N : Nat} (hs : ∀ s ∈ ss, s.size ≤ N) (ht : tx.size + 5 ≤ N) : ∀ s ∈ evT ss th tx, s.size ≤ N := fun s h => by
  unfold evT at h
  rcases List.mem_append.1 h with h | h
  · exact hs s h
  · cases th with
    | false => simp at h
    | true =>
      simp only [if_true, List.mem_singleton] at h
      subst h
      rw [ByteArray.size_append]
      show 5 + tx.size ≤ N
      omega
theorem owns_mono' {w : World} {b b' : Nat} {e : TypeId} {size : Nat} {v : Value} {n : Nat} {xs : List Value} (h : w.ownsRow b e size v n xs) (hb : b' ≤ b) : w.ownsRow b' e size v n xs := by
  refine ⟨h.1, ?_⟩
  rcases h.2 with h' | ⟨g, cap, cur, hv, h1, h2⟩
  · exact .inl h'
  · exact .inr ⟨g, cap, cur, hv, Nat.le_trans hb h1, h2⟩

set_option maxRecDepth 20000 in
set_option maxHeartbeats 2000000 in
theorem texts_any (a : Option Addr) (c : Nat) (ss : List ByteArray) (th : Bool) (tx : ByteArray) (w : World) (hs : SlOf w (.slice a ss.length c) ss) (hn : ss.length ≤ 4000) (ht : tx.size ≤ 1048576) :
    Calls Try.prog 20 #[.agg #[.slice a ss.length c, .bool th, .string tx]] w fun e w' => ∃ v', e = .returned v' ∧ w'.ownsRow w.heap.size 9 1 v' (evT ss th tx).length ((evT ss th tx).map .string) ∧ Below w.heap.size w w' := by
  obtain ⟨i0, hi, hz0, hz1, hz2⟩ := info_parts Try.infoStr
  have hal : Below w.heap.size w (w.alloc (.cells #[.slice a ss.length c, .bool th, .string tx] 30)) := (Below.refl _ _).alloc (Nat.le_refl _) _
  have c1 : (w.alloc (.cells #[.slice a ss.length c, .bool th, .string tx] 30)).cell? ⟨w.heap.size, 1, none⟩ = some (.bool th) := by simp
  have c2 : (w.alloc (.cells #[.slice a ss.length c, .bool th, .string tx] 30)).cell? ⟨w.heap.size, 2, none⟩ = some (.string tx) := by simp
  have hcl := clone_sl (.slice a ss.length c) ss _ (hs.below hal) (by omega)
  go_enter Try.func20, Try.ntmps20
  go_wp2_with fail
  refine hcl.mono ?_
  rintro e w1 ⟨v1, rfl, hown1, hb1⟩
  replace c1 := cell_later hb1 c1
  replace c2 := cell_later hb1 c2
  replace hown1 := owns_mono' hown1 hal.size
  have hbw := hal.trans (hb1.mono hal.size)
  have hsz := hbw.size
  clear hcl hal hb1
  cases th with
  | false =>
    go_wp2
    go_ret
    refine ⟨_, rfl, ?_, hbw⟩
    unfold evT
    simpa using hown1
  | true =>
    go_wp2_with (first | (at_builtin; refine wpList_append_own _ rfl _ _ 24 rfl w.heap.size 9 i0 _ 1 16 Try.underlying24 hi hz0 hz1 hz2 rfl (by decide) _ _ _ rfl (hown1.alloc _) ⟨w1.heap.size, 0, none⟩ 1 1 [.string (frontF ++ tx)] rfl rfl (cell_one_new _ _ _) (by simp [Value.oneCell']) (by unfold maxLen; omega) (by omega) (by simp; omega) ?_; intro v' w2 hown' hgrow _))
    go_ret
    refine ⟨_, rfl, ?_, (hbw.alloc hbw.size _).grown hgrow (by simp; omega) (fun j hj => owns_row_ge hown1 hj)⟩
    unfold evT
    simpa using hown'

def EvPost (x y : ByteArray) (b : Bool) (w : World) (e : Ending) (w' : World) : Prop := e = .returned (.tuple #[.string x, .string y, .bool b]) ∧ Below w.heap.size w w'
def ClPost (x y : ByteArray) (b : Bool) (w : World) (e : Ending) (w' : World) : Prop := ∃ x' y' b', e = .returned (.tuple #[.string x', .string y', .bool b']) ∧ x' = x ∧ y' = y ∧ b' = b ∧ Below w.heap.size w w'

set_option maxRecDepth 20000 in
set_option maxHeartbeats 2000000 in
theorem implEv_no (a b : Option Addr) (ca cb : Nat) (np nq : Nat) (tp tq : Bool) (xp xq : ByteArray) (m : Int) (w : World) (h : 7 < np ∨ 7 < nq) :
    Calls Try.prog 10 #[.agg #[.slice a np ca, .bool tp, .string xp], .agg #[.slice b nq cb, .bool tq, .string xq], .int .i64 m] w fun e w' => EvPost ⟨#[]⟩ ⟨#[]⟩ false w e w' := by
  have hal : Below w.heap.size w ((w.alloc (.cells #[.slice a np ca, .bool tp, .string xp] 30)).alloc (.cells #[.slice b nq cb, .bool tq, .string xq] 30)) := ((Below.refl _ _).alloc (Nat.le_refl _) _).alloc (by simp) _
  by_cases h1 : (7 : Int) < np
  · go_enter Try.func10, Try.ntmps10
    go_wp2
    go_ret3
    exact ⟨rfl, hal⟩
  · have h2 : (7 : Int) < nq := by omega
    go_enter Try.func10, Try.ntmps10
    go_wp2
    go_ret3
    exact ⟨rfl, hal⟩
set_option maxRecDepth 20000 in
set_option maxHeartbeats 2000000 in
theorem specEv_no (a b : Option Addr) (ca cb : Nat) (np nq : Nat) (tp tq : Bool) (xp xq : ByteArray) (m : Int) (w : World) (h : 7 < np ∨ 7 < nq) :
    Calls Try.prog 8 #[.agg #[.slice a np ca, .bool tp, .string xp], .agg #[.slice b nq cb, .bool tq, .string xq], .int .i64 m] w fun e w' => EvPost ⟨#[]⟩ ⟨#[]⟩ false w e w' := by
  have hal : Below w.heap.size w ((w.alloc (.cells #[.slice a np ca, .bool tp, .string xp] 30)).alloc (.cells #[.slice b nq cb, .bool tq, .string xq] 30)) := ((Below.refl _ _).alloc (Nat.le_refl _) _).alloc (by simp) _
  by_cases h1 : (7 : Int) < np
  · go_enter Try.func8, Try.ntmps8
    go_wp2
    go_ret3
    exact ⟨rfl, hal⟩
  · have h2 : (7 : Int) < nq := by omega
    go_enter Try.func8, Try.ntmps8
    go_wp2
    go_ret3
    exact ⟨rfl, hal⟩

structure PrC (W : World) (b : Nat) (v : Value) (th : Bool) (tx : ByteArray) : Prop where
  c0 : W.cell? ⟨b, 0, none⟩ = some v
  c1 : W.cell? ⟨b, 1, none⟩ = some (.bool th)
  c2 : W.cell? ⟨b, 2, none⟩ = some (.string tx)
theorem PrC.later {W W' : World} {b : Nat} {v : Value} {th : Bool} {tx : ByteArray} (h : PrC W b v th tx) (hb : Below W.heap.size W W') : PrC W' b v th tx := ⟨cell_later hb h.c0, cell_later hb h.c1, cell_later hb h.c2⟩
theorem PrC.all {W : World} {b : Nat} {v : Value} {th : Bool} {tx : ByteArray} (h : PrC W b v th tx) : W.cell? ⟨b, 0, none⟩ = some v ∧ W.cell? ⟨b, 1, none⟩ = some (.bool th) ∧ W.cell? ⟨b, 2, none⟩ = some (.string tx) := ⟨h.c0, h.c1, h.c2⟩
theorem below_drew (W : World) : Below W.heap.size W W.drew := (Below.refl _ _).drew
theorem below_one (W : World) (o : Obj) : Below W.heap.size W (W.alloc o) := (Below.refl _ _).alloc (Nat.le_refl _) _

theorem ev_concat (s3 s4 L : List ByteArray) (hL : CKeep (L = s3 ++ s4)) (a3 a4 : Option Addr) (c3 c4 : Nat) (w : World) (h3 : SlOf w (.slice a3 s3.length c3) s3) (h4 : SlOf w (.slice a4 s4.length c4) s4) (n3 : s3.length ≤ 8) (n4 : s4.length ≤ 8) :
    Calls Try.prog 19 #[.slice (some ⟨w.heap.size, 0, none⟩) 2 2] (w.alloc (.cells #[.slice a3 s3.length c3, .slice a4 s4.length c4] 24)) fun e w' => ∃ v', e = .returned v' ∧ w'.ownsRow (w.alloc (.cells #[.slice a3 s3.length c3, .slice a4 s4.length c4] 24)).heap.size 9 1 v' L.length (L.map .string) ∧ Below (w.alloc (.cells #[.slice a3 s3.length c3, .slice a4 s4.length c4] 24)).heap.size (w.alloc (.cells #[.slice a3 s3.length c3, .slice a4 s4.length c4] 24)) w' := by
  have hs : SlSl (w.alloc (.cells #[.slice a3 s3.length c3, .slice a4 s4.length c4] 24)) w.heap.size [.slice a3 s3.length c3, .slice a4 s4.length c4] [s3, s4] := by
    refine ⟨rfl, fun i h h' => ?_⟩
    match i, h with
    | 0, _ => exact ⟨by simp, h3.below (below_one _ _)⟩
    | 1, _ => exact ⟨by simp, h4.below (below_one _ _)⟩
  have := concat_any w.heap.size [.slice a3 s3.length c3, .slice a4 s4.length c4] [s3, s4] _ hs (fun k => by
    match k with
    | 0 => simp [catK]
    | 1 => simp [catK]; omega
    | k + 2 => simp [catK]; omega) (by simp)
  rw [hL.out]
  simpa using this

set_option maxRecDepth 20000 in
set_option maxHeartbeats 4000000 in
theorem implEv_yes (EP EQ L : List ByteArray) (hEL : CKeep (L = EP ++ EQ)) (a b : Option Addr) (ca cb : Nat) (sp sq : List ByteArray) (tp tq : Bool) (xp xq : ByteArray) (m : Int) (w : World) (hsp : SlOf w (.slice a sp.length ca) sp) (hsq : SlOf w (.slice b sq.length cb) sq) (hp : sp.length ≤ 7) (hq : sq.length ≤ 7) (hxp : xp.size ≤ 1048576) (hxq : xq.size ≤ 1048576) (x y : ByteArray) (bb : Bool)
    (hEP : CKeep (EP = evT sp tp xp)) (hEQ : CKeep (EQ = evT sq tq xq)) (hcl : ∀ a' cap' w, SS w a' L → Calls Try.prog 18 #[.slice a' L.length cap', .int .i64 m] w fun e w' => ClPost x y bb w e w') :
    Calls Try.prog 10 #[.agg #[.slice a sp.length ca, .bool tp, .string xp], .agg #[.slice b sq.length cb, .bool tq, .string xq], .int .i64 m] w fun e w' => EvPost x y bb w e w' := by
  have hal : Below w.heap.size w ((w.alloc (.cells #[.slice a sp.length ca, .bool tp, .string xp] 30)).alloc (.cells #[.slice b sq.length cb, .bool tq, .string xq] 30)) := ((Below.refl _ _).alloc (Nat.le_refl _) _).alloc (by simp) _
  have hP : PrC ((w.alloc (.cells #[.slice a sp.length ca, .bool tp, .string xp] 30)).alloc (.cells #[.slice b sq.length cb, .bool tq, .string xq] 30)) w.heap.size (.slice a sp.length ca) tp xp := ⟨by simp [go_sem], by simp [go_sem], by simp [go_sem]⟩
  have hQ : PrC ((w.alloc (.cells #[.slice a sp.length ca, .bool tp, .string xp] 30)).alloc (.cells #[.slice b sq.length cb, .bool tq, .string xq] 30)) (w.heap.size + 1) (.slice b sq.length cb) tq xq := ⟨by simp [go_sem], by simp [go_sem], by simp [go_sem]⟩
  have lp : ¬ (7 : Int) < sp.length := by omega
  have lq : ¬ (7 : Int) < sq.length := by omega
  have np : CKeep (sp.length ≤ 7 ∧ sq.length ≤ 7) := ⟨⟨hp, hq⟩⟩
  clear hp hq
  go_enter Try.func10, Try.ntmps10
  go_wp2_with fail
  generalize (w.alloc (.cells #[.slice a sp.length ca, .bool tp, .string xp] 30)).alloc (.cells #[.slice b sq.length cb, .bool tq, .string xq] 30) = W2 at *
  generalize w.heap.size + 1 = bq at *
  obtain ⟨bp, hbp⟩ : ∃ bp, bp = w.heap.size := ⟨_, rfl⟩
  rw [← hbp] at hP ⊢
  have HBP : CKeep (bp = w.heap.size) := ⟨hbp⟩
  clear hbp
  have hP2 := hP.later (below_drew W2)
  have hQ2 := hQ.later (below_drew W2)
  have hbW : Below w.heap.size w W2.drew := hal.drew
  have hTp := texts_any a ca sp tp xp W2.drew (hsp.below hbW) (by have := np.out.1; omega) hxp
  rw [← hEP.out] at hTp
  have h8P : EP.length ≤ 8 := by have := evT_len sp tp xp; have := np.out.1; rw [hEP.out]; omega
  have h8Q : EQ.length ≤ 8 := by have := evT_len sq tq xq; have := np.out.2; rw [hEQ.out]; omega
  have hTqA : ∀ W, Below w.heap.size w W → Calls Try.prog 20 #[.agg #[.slice b sq.length cb, .bool tq, .string xq]] W fun e w' => ∃ v', e = .returned v' ∧ w'.ownsRow W.heap.size 9 1 v' EQ.length (EQ.map .string) ∧ Below W.heap.size W w' := fun W hW => by rw [hEQ.out]; exact texts_any b cb sq tq xq W (hsq.below hW) (by have := np.out.2; omega) hxq
  have hk2 := And.intro hP2.all hQ2.all
  clear hP hQ hal
  go_region_held3 (fun w' => (w'.cell? ⟨bp, 0, none⟩ = some (.slice a sp.length ca) ∧ w'.cell? ⟨bp, 1, none⟩ = some (.bool tp) ∧ w'.cell? ⟨bp, 2, none⟩ = some (.string xp)) ∧ (w'.cell? ⟨bq, 0, none⟩ = some (.slice b sq.length cb) ∧ w'.cell? ⟨bq, 1, none⟩ = some (.bool tq) ∧ w'.cell? ⟨bq, 2, none⟩ = some (.string xq))) (first | go_keep | (exact hk3) | (exact hk4) | (exact hk5) | (exact hk6))
    ((first
      | (go_at_call_of 20 ([Value.agg #[.slice a sp.length ca, .bool tp, .string xp]] : List Value); refine hTp.mono ?_; rintro e w3 ⟨v3, rfl, ho3, hb3⟩; obtain ⟨ad3, cp3, rfl⟩ := owns_slice ho3; have hP3 := hP2.later hb3; have hQ3 := hQ2.later hb3; have hk3 := And.intro hP3.all hQ3.all; have hbW3 := hbW.trans (hb3.mono hbW.size); have hTq := hTqA w3 hbW3)
      | (go_at_call_of 20 ([Value.agg #[.slice b sq.length cb, .bool tq, .string xq]] : List Value); refine hTq.mono ?_; rintro e w4 ⟨v4, rfl, ho4, hb4⟩; obtain ⟨ad4, cp4, rfl⟩ := owns_slice ho4; have hP4 := hP3.later hb4; have hQ4 := hQ3.later hb4; have hk4 := And.intro hP4.all hQ4.all; have hbW4 := hbW3.trans (hb4.mono hbW3.size); have ho34 := owns_below ho3 hb4; have hC := ev_concat EP EQ L hEL ad3 ad4 cp3 cp4 w4 (SlOf.own ho34) (SlOf.own ho4) h8P h8Q)
      | (go_at_call 19; refine hC.mono ?_; rintro e w5 ⟨v5, rfl, ho5, hb5⟩; have hP5 := (hP4.later (below_one w4 _)).later hb5; have hQ5 := (hQ4.later (below_one w4 _)).later hb5; have hk5 := And.intro hP5.all hQ5.all; have hbW5 := (hbW4.alloc hbW4.size _).trans (hb5.mono (hbW4.alloc hbW4.size _).size); obtain ⟨a5, c5, rfl, hs5⟩ := (SlOf.own ho5).ss; have hcl5 := hcl a5 c5 w5 hs5)
      | (go_at_call 18; refine hcl5.mono ?_; rintro e w6 ⟨x', y', b', rfl, hx', hy', hb', hb6⟩; have hP6 := hP5.later hb6; have hQ6 := hQ5.later hb6; have hk6 := And.intro hP6.all hQ6.all)))
  subst hx' hy' hb'
  go_wp2
  go_ret3
  exact ⟨rfl, hbW5.trans (hb6.mono hbW5.size)⟩
end Go.Proofs.Ytnobhmljhijhcaa
