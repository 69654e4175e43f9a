/-
  spec.l7With, l7Text, l7Three: what spec.MergeText calls.
-/
import Derived.Test.YtogefpbmchnaaaaMergeP
import Derived.Test.YtogefpbmchnaaaaPairB
import Derived.Test.YtogefpbmchnaaaaTxtL
namespace Go.Proofs.Ytogefpbmchnaaaa
open Go.RowKit

def withV (o : Option Nat) : Value := match o with
  | none => .int .i64 (-1)
  | some y => .int .i64 (y : Int)

theorem withP_take {ps : List (Nat × Nat)} {n k : Nat} (h : ∀ i (hi : i < ps.length), i < k → ps[i].1 ≠ n) : withP ps n = withP (ps.drop k) n := by
  induction ps generalizing k with
  | nil => simp
  | cons p ps ih =>
    cases k with
    | zero => rfl
    | succ k =>
      have h0 := h 0 (by simp) (by omega)
      simp only [List.getElem_cons_zero] at h0
      rw [withP, if_neg h0, List.drop_succ_cons]
      exact ih (fun i hi hk => by have := h (i + 1) (by simpa using hi) (by omega); simpa using this)

set_option maxRecDepth 20000 in
set_option maxHeartbeats 2000000 in
theorem l7With_any (a : Option Addr) (cap : Nat) (ps : List (Nat × Nat)) (n : Nat) (w : World) (h : PS w a ps) (hl : ps.length ≤ 1500) :
    Calls Try.prog 10 #[.slice a ps.length cap, .int .i64 (n : Int)] w fun e w' => e = .returned (withV (withP ps n)) ∧ w = w' := by
  go_enter Try.func10, Try.ntmps10
  go_wp2
  go_loopw [5] (fun i wr => ∃ k : Nat, k ≤ ps.length ∧ i = .int .i64 (k : Int) ∧ NKeep (∀ i (hi : i < ps.length), i < k → ps[i].1 ≠ n) ∧ w = wr) (fun i _ => ps.length - (intOf i).toNat)
  case atStart => exact ⟨0, Nat.zero_le _, rfl, ⟨fun _ _ h => by omega⟩, rfl⟩
  case round =>
    obtain ⟨k, hk, rfl, HK, rfl⟩ := hrel
    by_cases hlt : k < ps.length
    · obtain ⟨b, off, rfl, hc⟩ := h.at hlt
      obtain ⟨x0, x1⟩ := hc k hlt
      have HW : NKeep (withP ps n = withP (ps.drop k) n) := ⟨withP_take HK.out⟩
      have HD : NKeep (ps.drop k = ps[k] :: ps.drop (k + 1)) := ⟨List.drop_eq_getElem_cons hlt⟩
      obtain ⟨pi, hpi⟩ : ∃ pi, ps[k].1 = pi := ⟨_, rfl⟩
      obtain ⟨pj, hpj⟩ : ∃ pj, ps[k].2 = pj := ⟨_, rfl⟩
      rw [hpi] at x0
      rw [hpj] at x1
      have HP : NKeep (ps[k].1 = pi ∧ ps[k].2 = pj) := ⟨hpi, hpj⟩
      clear hc hpi hpj
      by_cases he : pi = n
      · have heI : (pi : Int) = (n : Int) := by omega
        have HF : NKeep (withP ps n = some pj) := ⟨by rw [HW.out, HD.out, withP, if_pos (by rw [HP.out.1]; exact he), HP.out.2]⟩
        go_wp2
        go_ret
        rw [HF.out]
        exact ⟨rfl, rfl⟩
      · have heB : ((pi : Int) == (n : Int)) = false := by simp; omega
        go_wp2
        go_roundw
        case rel =>
          refine ⟨k + 1, by omega, by go_num, ⟨fun i hi hik => ?_⟩, ?_⟩
          rotate_left
          · first | trivial | rfl
          by_cases e : i = k
          · subst e; rw [HP.out.1]; exact he
          · exact HK.out i hi (by omega)
        case measure => simp [intOf]; omega
    · obtain rfl : k = ps.length := by omega
      have HF : NKeep (withP ps n = none) := ⟨by rw [withP_take HK.out, List.drop_length]; rfl⟩
      go_wp2
      go_ret
      rw [HF.out]
      exact ⟨rfl, rfl⟩

set_option maxHeartbeats 2000000 in
theorem l7Three_any (v1 v2 v3 : Value) (l1 l2 l3 : List ByteArray) (w : World) (h1 : RdL w v1 l1) (h2 : RdL w v2 l2) (h3 : RdL w v3 l3) (k1 : l1.length ≤ 100000) (k2 : l2.length ≤ 100000) (k3 : l3.length ≤ 100000) (s1 : (catL l1).length ≤ 1000000) (s2 : (catL l2).length ≤ 1000000) (s3 : (catL l3).length ≤ 1000000) :
    Calls Try.prog 11 #[v1, v2, v3] w fun e w' => e = .returned (match three (catL l1) (catL l2) (catL l3) with
      | none => .tuple #[.string ⟨#[]⟩, .bool false]
      | some s => .tuple #[.string (lnB s), .bool true]) ∧ Below w.heap.size w w' := by
  have c1 := fun W (hb : Below w.heap.size w W) => l7Text_any v1 l1 W (h1.below hb) k1 s1
  have c2 := fun W (hb : Below w.heap.size w W) => l7Text_any v2 l2 W (h2.below hb) k2 s2
  have c3 := fun W (hb : Below w.heap.size w W) => l7Text_any v3 l3 W (h3.below hb) k3 s3
  have hne : ∀ {x y : List UInt8}, ¬ x = y → ((lnB x).toList == (lnB y).toList) = false := fun h => bs_diff (fun e => h (lnB_inj e))
  have hqe : ∀ {x y : List UInt8}, x = y → ((lnB x).toList == (lnB y).toList) = true := fun h => bs_same (by rw [h])
  generalize catL l1 = x at *
  generalize catL l2 = y at *
  generalize catL l3 = z at *
  clear h1 h2 h3 k1 k2 k3 s1 s2 s3
  have run : ∀ (Q : Ending → World → Prop), True := fun _ => trivial
  clear run
  unfold three
  by_cases e1 : y = x
  · have b1 := hqe e1
    rw [if_pos e1]
    clear e1 hne hqe
    go_enter Try.func11, Try.ntmps11
    go_wp2_with fail
    refine (c1 _ (Below.refl _ _)).mono ?_
    rintro e w1 ⟨rfl, hb1⟩
    go_wp2_with fail
    refine (c2 _ hb1).mono ?_
    rintro e w2 ⟨rfl, hb2⟩
    have hx2 := hb1.trans (hb2.mono hb1.size)
    go_wp2_with fail
    refine (c3 _ hx2).mono ?_
    rintro e w3 ⟨rfl, hb3⟩
    have hx3 := hx2.trans (hb3.mono hx2.size)
    go_wp2
    go_ret2
    exact ⟨rfl, hx3⟩
  · have b1 := hne e1
    rw [if_neg e1]
    by_cases e2 : z = x
    · have b2 := hqe e2
      rw [if_pos (.inl e2)]
      clear e1 e2 hne hqe
      go_enter Try.func11, Try.ntmps11
      go_wp2_with fail
      refine (c1 _ (Below.refl _ _)).mono ?_
      rintro e w1 ⟨rfl, hb1⟩
      go_wp2_with fail
      refine (c2 _ hb1).mono ?_
      rintro e w2 ⟨rfl, hb2⟩
      have hx2 := hb1.trans (hb2.mono hb1.size)
      go_wp2_with fail
      refine (c3 _ hx2).mono ?_
      rintro e w3 ⟨rfl, hb3⟩
      have hx3 := hx2.trans (hb3.mono hx2.size)
      go_wp2
      go_ret2
      exact ⟨rfl, hx3⟩
    · have b2 := hne e2
      by_cases e3 : z = y
      · have b3 := hqe e3
        rw [if_pos (.inr e3)]
        clear e1 e2 e3 hne hqe
        go_enter Try.func11, Try.ntmps11
        go_wp2_with fail
        refine (c1 _ (Below.refl _ _)).mono ?_
        rintro e w1 ⟨rfl, hb1⟩
        go_wp2_with fail
        refine (c2 _ hb1).mono ?_
        rintro e w2 ⟨rfl, hb2⟩
        have hx2 := hb1.trans (hb2.mono hb1.size)
        go_wp2_with fail
        refine (c3 _ hx2).mono ?_
        rintro e w3 ⟨rfl, hb3⟩
        have hx3 := hx2.trans (hb3.mono hx2.size)
        go_wp2
        go_ret2
        exact ⟨rfl, hx3⟩
      · have b3 := hne e3
        rw [if_neg (by rintro (h | h) <;> contradiction)]
        clear e1 e2 e3 hne hqe
        go_enter Try.func11, Try.ntmps11
        go_wp2_with fail
        refine (c1 _ (Below.refl _ _)).mono ?_
        rintro e w1 ⟨rfl, hb1⟩
        go_wp2_with fail
        refine (c2 _ hb1).mono ?_
        rintro e w2 ⟨rfl, hb2⟩
        have hx2 := hb1.trans (hb2.mono hb1.size)
        go_wp2_with fail
        refine (c3 _ hx2).mono ?_
        rintro e w3 ⟨rfl, hb3⟩
        have hx3 := hx2.trans (hb3.mono hx2.size)
        go_wp2
        go_ret2
        exact ⟨rfl, hx3⟩
end Go.Proofs.Ytogefpbmchnaaaa
