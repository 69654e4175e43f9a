/-
  impl.Merge (regions' arms by program: wip/drawn.py).
-/
import Derived.Test.YtjiafjdjocmodaaGreatMgS
import Derived.Test.YtjiafjdjocmodaaGreatMgI
import Derived.Test.YtjiafjdjocmodaaGreatZbe
import Derived.Test.YtjiafjdjocmodaaGreatZbe
import Derived.Test.YtjiafjdjocmodaaGreatZbe
import Derived.Test.YtjiafjdjocmodaaGreatZbe
import Derived.Test.YtjiafjdjocmodaaGreatZbe
import Derived.Test.YtjiafjdjocmodaaGreatEntOf
namespace Go.Proofs.YtjiafjdjocmodaaGreat
open Go.RowKit

/-- Slots, and what stands of the world by which operations are done. -/
structure QI (T0 : Array Value) (ds : List Nat) (tab : Nat → Option Value) (I : Array Bool → World → Prop) (L : Array Bool) (a : Act) (w : World) : Prop where
  sl : Sl2 T0 ds tab L a
  wd : I L w
theorem QI.step {T0 : Array Value} {ds : List Nat} {tab : Nat → Option Value} {I : Array Bool → World → Prop} {L : Array Bool} {a : Act} {w w' : World} (h : QI T0 ds tab I L a w) (nd : ds.Nodup) {i : Nat} {v : Value} (hi : i < ds.length) (hd : ds[i] < T0.size) (ht : tab i = some v) (hI : I (L.setIfInBounds i true) w') : QI T0 ds tab I (L.setIfInBounds i true) (a.put (some ds[i]) v) w' :=
  ⟨h.sl.put nd hi hd (fun u hu => by rw [ht] at hu; cases hu; rfl), hI⟩
/-- Three calls (operations 1, 3, 5), one behind the other, each with its world. -/
def IZ3 (X0 X1 X2 X3 : World) (L : Array Bool) (w : World) : Prop :=
  (L.getD 1 false = false → w = X0) ∧ (L.getD 1 false = true → L.getD 3 false = false → w = X1) ∧ (L.getD 3 false = true → L.getD 5 false = false → w = X2) ∧ (L.getD 5 false = true → w = X3)
section
variable {X0 X1 X2 X3 : World} {L : Array Bool} {w : World}
theorem IZ3.other (h : IZ3 X0 X1 X2 X3 L w) {i : Nat} (h1 : i ≠ 1) (h3 : i ≠ 3) (h5 : i ≠ 5) : IZ3 X0 X1 X2 X3 (L.setIfInBounds i true) w := by
  unfold IZ3
  rw [getD_set_ne false h1, getD_set_ne false h3, getD_set_ne false h5]
  exact h
theorem IZ3.c1 (hL : L.getD 1 true = false) (h3 : L.getD 3 false = false) (h5 : L.getD 5 false = false) : IZ3 X0 X1 X2 X3 (L.setIfInBounds 1 true) X1 := by
  unfold IZ3
  rw [getD_set_true hL, getD_set_ne false (by omega), getD_set_ne false (by omega), h3, h5]
  simp
theorem IZ3.c3 (hL : L.getD 3 true = false) (h1 : L.getD 1 false = true) (h5 : L.getD 5 false = false) : IZ3 X0 X1 X2 X3 (L.setIfInBounds 3 true) X2 := by
  unfold IZ3
  rw [getD_set_true hL, getD_set_ne false (by omega), getD_set_ne false (by omega), h1, h5]
  simp
theorem IZ3.c5 (hL : L.getD 5 true = false) (h1 : L.getD 1 false = true) (h3 : L.getD 3 false = true) : IZ3 X0 X1 X2 X3 (L.setIfInBounds 5 true) X3 := by
  unfold IZ3
  rw [getD_set_true hL, getD_set_ne false (by omega), getD_set_ne false (by omega), h1, h3]
  simp
theorem IZ3.any (h : IZ3 X0 X1 X2 X3 L w) {P : World → Prop} (h0 : P X0) (h1 : P X1) (h2 : P X2) (h3 : P X3) : P w := by
  cases e5 : L.getD 5 false with
  | true => rw [h.2.2.2 e5]; exact h3
  | false =>
    cases e3 : L.getD 3 false with
    | true => rw [h.2.2.1 e3 e5]; exact h2
    | false =>
      cases e1 : L.getD 1 false with
      | true => rw [h.2.1 e1 e3]; exact h1
      | false => rw [h.1 e1]; exact h0
end
/-- Three counters, and how far they stand. -/
structure MCn (n1 n2 n3 : Nat) (bs xs ys : List En) (ns : List ByteArray) (q1 q2 q3 : Nat) (W : World) : Prop where
  c1 : Cnt n1 q1 W
  c2 : Cnt n2 q2 W
  c3 : Cnt n3 q3 W
  a1 : WkAt bs ns q1
  a2 : WkAt xs ns q2
  a3 : WkAt ys ns q3
theorem at_text {ts : List En} (h : ValidTs ts) (s : ByteArray) : (atL ts s).text.size ≤ 1500 := by
  rcases at_cases ts s with ⟨h1, _⟩ | ⟨e, he, _, h1⟩
  · rw [h1]; show (0 : Nat) ≤ _; omega
  · rw [h1]
    have := valid_enF h he
    simp only [enOk, Bool.and_eq_true, decide_eq_true_eq] at this
    exact this.2
theorem path_text {F : MrgF} {f x y : Fl} (h2 : x.text.size ≤ 1500) (h3 : y.text.size ≤ 1500) : ((pathM F f x y).getD noFl).text.size ≤ 1500 := by
  have h0 : noFl.text.size ≤ 1500 := by show (0 : Nat) ≤ _; omega
  unfold pathM
  cases hc : chs f x y with
  | some g =>
    unfold chs at hc
    split at hc
    · cases hc; exact h3
    · split at hc
      · cases hc; exact h2
      · cases hc
  | none =>
    dsimp only
    split
    · split
      · split
        · rename_i s _ hs
          show (ByteArray.mk s.toArray).size ≤ _
          have : (ByteArray.mk s.toArray).size = s.length := by simp [ByteArray.size]
          omega
        · exact h0
      · exact h0
    · exact h0
theorem valid_size {ts : List En} (h : ValidTs ts) {e : En} (he : e ∈ ts) : e.path.size ≤ 126 := by
  have := valid_enF h he
  simp only [enOk, Bool.and_eq_true, decide_eq_true_eq] at this
  exact pathOk_size this.1
theorem valid_isZ {ts : List En} (h : ValidTs ts) : ∀ e ∈ ts, isZ e = false := fun e he => by unfold isZ; rw [valid_path h he]; rfl
theorem outM_path {F : MrgF} {bs xs ys : List En} {ns : List ByteArray} {e : En} (h : e ∈ outM F bs xs ys ns) : e.path ∈ ns := by
  unfold outM at h
  obtain ⟨n, hn, he⟩ := List.mem_flatMap.1 h
  rw [enM_path he]; exact hn
def i3Tab (a b c : Option Addr) (la ca lb cb lc cc H : Nat) : Nat → Option Value
  | 0 => some (.agg #[.slice a la ca])
  | 1 => some (.func (.func 56) #[] #[.pointer (some ⟨H + 1, 0, none⟩), .pointer (some ⟨H, 0, none⟩)])
  | 2 => some (.agg #[.slice b lb cb])
  | 3 => some (.func (.func 56) #[] #[.pointer (some ⟨H + 3, 0, none⟩), .pointer (some ⟨H + 2, 0, none⟩)])
  | 4 => some (.agg #[.slice c lc cc])
  | 5 => some (.func (.func 56) #[] #[.pointer (some ⟨H + 5, 0, none⟩), .pointer (some ⟨H + 4, 0, none⟩)])
  | 6 => some (.func (.func 56) #[] #[.pointer (some ⟨H + 1, 0, none⟩), .pointer (some ⟨H, 0, none⟩)])
  | 7 => some (.func (.func 56) #[] #[.pointer (some ⟨H + 3, 0, none⟩), .pointer (some ⟨H + 2, 0, none⟩)])
  | 8 => some (.func (.func 56) #[] #[.pointer (some ⟨H + 5, 0, none⟩), .pointer (some ⟨H + 4, 0, none⟩)])
  | _ => none

def i13Tab (ob : Nat) (v : Value) (s : ByteArray) (g : Fl) : Nat → Option Value
  | 0 => some (.pointer (some ⟨ob, 0, none⟩))
  | 1 => some (v)
  | 2 => some (.agg #[.bool true, .string g.text, .bool g.runs])
  | 3 => some (.string s)
  | 4 => some (.agg #[.string s, .string g.text, .bool g.runs])
  | 7 => some (.pointer (some ⟨ob, 0, none⟩))
  | _ => none

set_option maxRecDepth 100000 in
set_option maxHeartbeats 40000000 in
theorem implMerge_any (F : MrgF) (hM : ∀ (f x y : ByteArray) W, Calls Tryz.prog 61 #[.string f, .string x, .string y] W fun e w' => e = .returned (mrgV (F f x y)) ∧ Below W.heap.size W w') (a b c : Option Addr) (ca cb cc : Nat) (bs xs ys : List En) (w : World) (hbs : ES w a bs) (hxs : ES w b xs) (hys : ES w c ys) (hn1 : bs.length ≤ 1048576) (hn2 : xs.length ≤ 1048576) (hn3 : ys.length ≤ 1048576)
    (p1 : ∀ e ∈ bs, e.path.size ≤ 1048576) (p2 : ∀ e ∈ xs, e.path.size ≤ 1048576) (p3 : ∀ e ∈ ys, e.path.size ≤ 1048576) :
    Calls Tryz.prog 6 #[.agg #[.slice a bs.length ca], .agg #[.slice b xs.length cb], .agg #[.slice c ys.length cc]] w (MgPost F bs xs ys w) := by
  obtain ⟨i0, hi, hz0, hz1, hz2⟩ := info_parts Tryz.infoEntry
  obtain ⟨j0, hj0, jz0, jz1, jz2⟩ := info_parts Tryz.infoStr
  have hal : Below w.heap.size w ((((w.alloc (.cells #[.slice a bs.length ca] 25)).alloc (.cells #[.slice b xs.length cb] 25)).alloc (.cells #[.slice c ys.length cc] 25)).alloc (.cells #[.int .i64 0, .slice none 0 0, .slice none 0 0] 30)) := ((((Below.refl _ _).alloc (Nat.le_refl _) _).alloc (by simp) _).alloc (by simp; omega) _).alloc (by simp; omega) _
  have m0 : ((((w.alloc (.cells #[.slice a bs.length ca] 25)).alloc (.cells #[.slice b xs.length cb] 25)).alloc (.cells #[.slice c ys.length cc] 25)).alloc (.cells #[.int .i64 0, .slice none 0 0, .slice none 0 0] 30)).cell? ⟨w.heap.size, 0, none⟩ = some (.slice a bs.length ca) := by simp [go_sem]
  have m1 : ((((w.alloc (.cells #[.slice a bs.length ca] 25)).alloc (.cells #[.slice b xs.length cb] 25)).alloc (.cells #[.slice c ys.length cc] 25)).alloc (.cells #[.int .i64 0, .slice none 0 0, .slice none 0 0] 30)).cell? ⟨w.heap.size + 1, 0, none⟩ = some (.slice b xs.length cb) := by simp [go_sem]
  have m2 : ((((w.alloc (.cells #[.slice a bs.length ca] 25)).alloc (.cells #[.slice b xs.length cb] 25)).alloc (.cells #[.slice c ys.length cc] 25)).alloc (.cells #[.int .i64 0, .slice none 0 0, .slice none 0 0] 30)).cell? ⟨w.heap.size + 1 + 1, 0, none⟩ = some (.slice c ys.length cc) := by simp [go_sem]
  have k0 : ((((w.alloc (.cells #[.slice a bs.length ca] 25)).alloc (.cells #[.slice b xs.length cb] 25)).alloc (.cells #[.slice c ys.length cc] 25)).alloc (.cells #[.int .i64 0, .slice none 0 0, .slice none 0 0] 30)).cell? ⟨w.heap.size + 1 + 1 + 1, 0, none⟩ = some (.int .i64 0) := by simp [go_sem]
  have k1 : ((((w.alloc (.cells #[.slice a bs.length ca] 25)).alloc (.cells #[.slice b xs.length cb] 25)).alloc (.cells #[.slice c ys.length cc] 25)).alloc (.cells #[.int .i64 0, .slice none 0 0, .slice none 0 0] 30)).cell? ⟨w.heap.size + 1 + 1 + 1, 1, none⟩ = some (.slice none 0 0) := by simp [go_sem]
  have k2 : ((((w.alloc (.cells #[.slice a bs.length ca] 25)).alloc (.cells #[.slice b xs.length cb] 25)).alloc (.cells #[.slice c ys.length cc] 25)).alloc (.cells #[.int .i64 0, .slice none 0 0, .slice none 0 0] 30)).cell? ⟨w.heap.size + 1 + 1 + 1, 2, none⟩ = some (.slice none 0 0) := by simp [go_sem]
  have kf : ∀ j, ((((w.alloc (.cells #[.slice a bs.length ca] 25)).alloc (.cells #[.slice b xs.length cb] 25)).alloc (.cells #[.slice c ys.length cc] 25)).alloc (.cells #[.int .i64 0, .slice none 0 0, .slice none 0 0] 30)).frozen? ⟨w.heap.size + 1 + 1 + 1, j, none⟩ = false := fun j => by simp [go_sem]
  have os0 : w.heap.size + 1 + 1 + 1 < ((((w.alloc (.cells #[.slice a bs.length ca] 25)).alloc (.cells #[.slice b xs.length cb] 25)).alloc (.cells #[.slice c ys.length cc] 25)).alloc (.cells #[.int .i64 0, .slice none 0 0, .slice none 0 0] 30)).heap.size := by simp [go_sem]
  go_enter Tryz.func6, Tryz.ntmps6
  go_upto_region 1 with fail
  generalize ((((w.alloc (.cells #[.slice a bs.length ca] 25)).alloc (.cells #[.slice b xs.length cb] 25)).alloc (.cells #[.slice c ys.length cc] 25)).alloc (.cells #[.int .i64 0, .slice none 0 0, .slice none 0 0] 30)) = W at *
  obtain ⟨g, hg⟩ : ∃ g, g = w.heap.size + 1 + 1 + 1 := ⟨_, rfl⟩
  obtain ⟨tc, htc⟩ : ∃ tc, tc = w.heap.size + 1 + 1 := ⟨_, rfl⟩
  obtain ⟨tb, htb⟩ : ∃ tb, tb = w.heap.size + 1 := ⟨_, rfl⟩
  obtain ⟨ta, hta⟩ : ∃ ta, ta = w.heap.size := ⟨_, rfl⟩
  rw [← hg] at k0 k1 k2 kf os0 ⊢
  rw [← htc] at m2 ⊢
  rw [← htb] at m1 ⊢
  rw [← hta] at m0 ⊢
  have HS : Keep (ta = w.heap.size ∧ tb = w.heap.size + 1 ∧ tc = w.heap.size + 2 ∧ g = w.heap.size + 3) := ⟨by omega⟩
  clear hg htc htb hta
  go_cut [28] (fun v wx => ∃ nb : Bool, v = .bool nb ∧ Keep (nb = false ↔ ValidTs bs ∧ ValidTs xs ∧ ValidTs ys) ∧ Below W.heap.size W wx)
  case first =>
    go_wp2_with fail
    refine (implTree_any a ca bs W (hbs.below hal) hn1 p1).mono ?_
    rintro e w1 ⟨va, rfl, hva, hb1⟩
    have m1' := cell_later hb1 m1
    cases va with
    | false =>
      have HV : Keep ((true = false) ↔ ValidTs bs ∧ ValidTs xs ∧ ValidTs ys) := ⟨⟨fun h => (by cases h), fun h => (by have := hva.2 h.1; cases this)⟩⟩
      clear hva
      go_wp2_with fail
      go_meet
      case rel => exact ⟨true, rfl, HV, hb1⟩
    | true =>
      have HV : Keep (ValidTs bs) := ⟨hva.1 rfl⟩
      clear hva
      go_wp2_with fail
      refine (implTree_any b cb xs w1 ((hxs.below hal).below hb1) hn2 p2).mono ?_
      rintro e w2 ⟨vb, rfl, hvb, hb2⟩
      have hb12 := hb1.trans (hb2.mono hb1.size)
      have m2' := cell_later hb12 m2
      cases vb with
      | false =>
        have HV2 : Keep ((true = false) ↔ ValidTs bs ∧ ValidTs xs ∧ ValidTs ys) := ⟨⟨fun h => (by cases h), fun h => (by have := hvb.2 h.2.1; cases this)⟩⟩
        clear hvb
        go_wp2_with fail
        go_meet
        case rel => exact ⟨true, rfl, HV2, hb12⟩
      | true =>
        have HV2 : Keep (ValidTs xs) := ⟨hvb.1 rfl⟩
        clear hvb
        go_wp2_with fail
        refine (implTree_any c cc ys w2 ((hys.below hal).below hb12) hn3 p3).mono ?_
        rintro e w3 ⟨vc, rfl, hvc, hb3⟩
        have HV3 : Keep ((!vc) = false ↔ ValidTs bs ∧ ValidTs xs ∧ ValidTs ys) := ⟨⟨fun h => ⟨HV.out, HV2.out, hvc.1 (by simpa using h)⟩, fun h => by rw [hvc.2 h.2.2]; rfl⟩⟩
        clear hvc
        go_wp2_with fail
        go_meet
        case rel => exact ⟨_, rfl, HV3, hb12.trans (hb3.mono hb12.size)⟩
  case rest =>
    obtain ⟨nb, rfl, HV, hb1⟩ := hcut
    replace m0 := cell_later hb1 m0
    replace m1 := cell_later hb1 m1
    replace m2 := cell_later hb1 m2
    replace k0 := cell_later hb1 k0
    replace k1 := cell_later hb1 k1
    replace k2 := cell_later hb1 k2
    replace kf : ∀ j, wc.frozen? ⟨g, j, none⟩ = false := fun j => (hb1.frozen (p := ⟨g, j, none⟩) os0).trans (kf j)
    have os1 : g < wc.heap.size := Nat.lt_of_lt_of_le os0 hb1.size
    have hbw := hal.trans (hb1.mono hal.size)
    clear hb1 hal os0
    obtain ⟨wA, hwA⟩ : ∃ x, x = wc := ⟨_, rfl⟩
    subst hwA
    cases nb with
    | true =>
      have hnv : ¬ (ValidTs bs ∧ ValidTs xs ∧ ValidTs ys) := fun h => by have := HV.out.2 h; cases this
      have HP : Keep (MgPost F bs xs ys w (.returned (.agg #[.int .i64 1, .slice none ([] : List En).length 0, .slice none ([] : List ByteArray).length 0])) (((wA.setCell ⟨g, 0, none⟩ (.int .i64 1)).setCell ⟨g, 1, none⟩ (.slice none 0 0)).setCell ⟨g, 2, none⟩ (.slice none 0 0))) := ⟨⟨1, [], [], none, 0, none, 0, .inl ⟨hnv, rfl, rfl, rfl⟩, rfl, EL.nil _ _ _, Nat.le_refl _, owns_nilS _ _, set3_below hbw (by have := HS.out; omega) _ _ _⟩⟩
      clear hM
      go_wp2
      refine bodyPost_ret (v := .agg #[.int .i64 1, .slice none ([] : List En).length 0, .slice none ([] : List ByteArray).length 0]) ?_ rfl HP.out
      go_light
      simp [results, Tryz.results6, go_sem, k0, k1, k2]
    | false =>
      have hv := HV.out.1 rfl
      obtain ⟨v1, v2, v3⟩ := hv
      have HVV : Keep (ValidTs bs ∧ ValidTs xs ∧ ValidTs ys) := ⟨⟨v1, v2, v3⟩⟩
      have l1 : bs.length ≤ 100 := v1.1
      have l2 : xs.length ≤ 100 := v2.1
      have l3 : ys.length ≤ 100 := v3.1
      clear v1 v2 v3 HV p1 p2 p3
      have HM : Keep (∀ (f x y : ByteArray) W, Calls Tryz.prog 61 #[.string f, .string x, .string y] W fun e w' => e = .returned (mrgV (F f x y)) ∧ Below W.heap.size W w') := ⟨hM⟩
      clear hM
      obtain ⟨H, hH⟩ : ∃ H, H = wA.heap.size := ⟨_, rfl⟩
      obtain ⟨X0, hX0⟩ : ∃ X, X = wA.drew := ⟨_, rfl⟩
      have s0 : X0.heap.size = H := by rw [hX0, hH]; rfl
      have y0 : Below wA.heap.size wA X0 := by rw [hX0]; exact (Below.refl _ _).drew
      obtain ⟨X1, hX1⟩ : ∃ X, X = (X0.alloc (.cells #[.slice a bs.length ca] 25)).alloc (.cells #[.int .i64 0] 3) := ⟨_, rfl⟩
      have s1 : X1.heap.size = H + 2 := by rw [hX1]; simp [s0]
      have y1 : Below X0.heap.size X0 X1 := by rw [hX1]; exact (below_oneD _ _).trans ((below_oneD _ _).mono (by simp))
      obtain ⟨X2, hX2⟩ : ∃ X, X = (X1.alloc (.cells #[.slice b xs.length cb] 25)).alloc (.cells #[.int .i64 0] 3) := ⟨_, rfl⟩
      have s2 : X2.heap.size = H + 4 := by rw [hX2]; simp [s1]
      have y2 : Below X1.heap.size X1 X2 := by rw [hX2]; exact (below_oneD _ _).trans ((below_oneD _ _).mono (by simp))
      obtain ⟨X3, hX3⟩ : ∃ X, X = (X2.alloc (.cells #[.slice c ys.length cc] 25)).alloc (.cells #[.int .i64 0] 3) := ⟨_, rfl⟩
      have s3 : X3.heap.size = H + 6 := by rw [hX3]; simp [s2]
      have y3 : Below X2.heap.size X2 X3 := by rw [hX3]; exact (below_oneD _ _).trans ((below_oneD _ _).mono (by simp))
      have z1 := kept_below y0 y1
      have z2 := kept_below z1 y2
      have z3 := kept_below z2 y3
      have HC1 : Keep (Calls Tryz.prog 28 #[.agg #[.slice a bs.length ca]] X0 fun e w' => e = .returned (.func (.func 56) #[] #[.pointer (some ⟨H + 1, 0, none⟩), .pointer (some ⟨H, 0, none⟩)]) ∧ w' = X1) := ⟨by rw [← s0, hX1]; exact walkOver_any a bs.length ca X0⟩
      have HC2 : Keep (Calls Tryz.prog 28 #[.agg #[.slice b xs.length cb]] X1 fun e w' => e = .returned (.func (.func 56) #[] #[.pointer (some ⟨H + 3, 0, none⟩), .pointer (some ⟨H + 2, 0, none⟩)]) ∧ w' = X2) := ⟨by rw [show H + 3 = X1.heap.size + 1 by omega, ← s1, hX2]; exact walkOver_any b xs.length cb X1⟩
      have HC3 : Keep (Calls Tryz.prog 28 #[.agg #[.slice c ys.length cc]] X2 fun e w' => e = .returned (.func (.func 56) #[] #[.pointer (some ⟨H + 5, 0, none⟩), .pointer (some ⟨H + 4, 0, none⟩)]) ∧ w' = X3) := ⟨by rw [show H + 5 = X2.heap.size + 1 by omega, ← s2, hX3]; exact walkOver_any c ys.length cc X2⟩
      have u1 : X1.cell? ⟨H, 0, none⟩ = some (.slice a bs.length ca) := by rw [hX1, ← s0]; simp [go_sem]
      have c1 : Cnt (H + 1) 0 X1 := by rw [hX1, ← s0]; exact ⟨by simp [go_sem], by simp [go_sem]⟩
      have u2 : X2.cell? ⟨H + 2, 0, none⟩ = some (.slice b xs.length cb) := by rw [hX2, ← s1]; simp [go_sem]
      have c2 : Cnt (H + 3) 0 X2 := by rw [hX2, show H + 3 = X1.heap.size + 1 by omega]; exact ⟨by simp [go_sem], by simp [go_sem]⟩
      have u3 : X3.cell? ⟨H + 4, 0, none⟩ = some (.slice c ys.length cc) := by rw [hX3, ← s2]; simp [go_sem]
      have c3 : Cnt (H + 5) 0 X3 := by rw [hX3, show H + 5 = X2.heap.size + 1 by omega]; exact ⟨by simp [go_sem], by simp [go_sem]⟩
      replace u1 := cell_later y3 (cell_later y2 u1)
      replace c1 := (c1.later y2).later y3
      replace u2 := cell_later y3 u2
      replace c2 := c2.later y3
      have HH : Keep (H = wA.heap.size ∧ X0.heap.size = H ∧ X1.heap.size = H + 2 ∧ X2.heap.size = H + 4 ∧ X3.heap.size = H + 6 ∧ X0 = wA.drew) := ⟨⟨hH, s0, s1, s2, s3, hX0⟩⟩
      clear hH s0 s1 s2 s3 hX0 hX1 hX2 hX3 y1 y2 y3
      have hLo : ∀ (t : Nat) (u : Value), wA.cell? ⟨t, 0, none⟩ = some u → ∀ (L : Array Bool) (w9 : World), IZ3 X0 X1 X2 X3 L w9 → w9.cell? ⟨t, 0, none⟩ = some u := fun t u h L w9 hz => hz.any (P := fun w => w.cell? ⟨t, 0, none⟩ = some u) (cell_later y0 h) (cell_later z1 h) (cell_later z2 h) (cell_later z3 h)
      have HLO1 : Keep _ := ⟨hLo _ _ m0⟩
      have HLO2 : Keep _ := ⟨hLo _ _ m1⟩
      have HLO3 : Keep _ := ⟨hLo _ _ m2⟩
      clear hLo
      go_upto_region 3 with fail
      refine (wpIn_wide (n := 0)).1 ?_
      refine wpIn_region_inv0 (by kernel_rfl) (by kernel_rfl) (fun T0 => QI T0 [30, 31, 32, 33, 34, 35, 7, 8, 9] (i3Tab a b c bs.length ca xs.length cb ys.length cc H) (IZ3 X0 X1 X2 X3)) ?_ ?_ ?_
      · refine ⟨Sl2.start _, ?_⟩
        rw [← HH.out.2.2.2.2.2]
        unfold IZ3
        simp only [getD_repl]
        simp
      · intro L a2 w9 hinv hall
        have hw9 : X3 = w9 := (hinv.wd.2.2.2 (hall 5 (by decide))).symm
        subst hw9
        have f1 : a2.tmps[7]?.getD undef = .func (.func 56) #[] #[.pointer (some ⟨H + 1, 0, none⟩), .pointer (some ⟨H, 0, none⟩)] := hinv.sl.new (i := 6) (by decide) rfl (hall 6 (by decide))
        have f2 : a2.tmps[8]?.getD undef = .func (.func 56) #[] #[.pointer (some ⟨H + 3, 0, none⟩), .pointer (some ⟨H + 2, 0, none⟩)] := hinv.sl.new (i := 7) (by decide) rfl (hall 7 (by decide))
        have f3 : a2.tmps[9]?.getD undef = .func (.func 56) #[] #[.pointer (some ⟨H + 5, 0, none⟩), .pointer (some ⟨H + 4, 0, none⟩)] := hinv.sl.new (i := 8) (by decide) rfl (hall 8 (by decide))
        have HX : Keep _ := ⟨hinv.sl.act⟩
        clear hinv hall HLO1 HLO2 HLO3 HC1 HC2 HC3 y0 z1 z2
        rw [HX.out]
        clear HX
        simp only [updL, List.contains_cons, List.contains_nil, Nat.reduceAdd, Nat.reduceBEq, Bool.or_false, cond_false, cond_true, Bool.or_true, Array.getD_eq_getD_getElem?, f1, f2, f3]
        generalize a2.tmps[30]?.getD undef = z30
        generalize a2.tmps[31]?.getD undef = z31
        generalize a2.tmps[32]?.getD undef = z32
        generalize a2.tmps[33]?.getD undef = z33
        generalize a2.tmps[34]?.getD undef = z34
        generalize a2.tmps[35]?.getD undef = z35
        clear f1 f2 f3
        have hq1 := below_oneD X3 (.cells #[.slice none 0 0] 25)
        have hq2 := below_oneD (X3.alloc (.cells #[.slice none 0 0] 25)) (.cells #[.slice a bs.length ca, .slice b xs.length cb, .slice c ys.length cc] 25)
        have hbX : Below w.heap.size w X3 := kept_below hbw z3
        have hb1 := kept_below hbX hq1
        have hbq := kept_below hb1 hq2
        have hTs : TsAt ((X3.alloc (.cells #[.slice none 0 0] 25)).alloc (.cells #[.slice a bs.length ca, .slice b xs.length cb, .slice c ys.length cc] 25)) (X3.heap.size + 1) 0 [(a, ca, bs), (b, cb, xs), (c, cc, ys)] := by
          intro i hi
          match i, hi with
          | 0, _ => exact ⟨by simp [go_sem], hbs.below hbq⟩
          | 1, _ => exact ⟨by simp [go_sem], hxs.below hbq⟩
          | 2, _ => exact ⟨by simp [go_sem], hys.below hbq⟩
        have hp := allPaths_any (X3.heap.size + 1) 0 3 [(a, ca, bs), (b, cb, xs), (c, cc, ys)] _ hTs (by simp) (by
          intro x hx
          simp at hx
          rcases hx with rfl | rfl | rfl <;> (dsimp only; omega))
        replace m0 := cell_later hq1 (cell_later z3 m0)
        replace m1 := cell_later hq1 (cell_later z3 m1)
        replace m2 := cell_later hq1 (cell_later z3 m2)
        go_wp2_with fail
        refine hp.mono ?_
        rintro e W0 ⟨an, cn, rfl, hrow, hb2⟩
        obtain ⟨ns, hns⟩ : ∃ ns, ns = pathsL [bs, xs, ys] := ⟨_, rfl⟩
        have hpt : uniq (pthsOf [(a, ca, bs), (b, cb, xs), (c, cc, ys)] [(a, ca, bs), (b, cb, xs), (c, cc, ys)].length) = ns := by
          rw [hns, ← uniq_paths]
          simp [pthsOf, tss]
        rw [hpt] at hrow ⊢
        have hlen : ns.length ≤ 300 := by rw [hns]; exact paths3_len bs xs ys l1 l2 l3
        have HNS : Keep (ns = pathsL [bs, xs, ys]) := ⟨hns⟩
        have HNA : Keep (AscN ns ∧ (∀ e ∈ bs, e.path ∈ ns) ∧ (∀ e ∈ xs, e.path ∈ ns) ∧ (∀ e ∈ ys, e.path ∈ ns) ∧ ∀ s ∈ ns, s.size ≤ 126) := ⟨by
          rw [hns]
          have h := paths3 bs xs ys
          refine ⟨h.1, fun e he => (h.2 _).2 (.inl ⟨e, he, rfl⟩), fun e he => (h.2 _).2 (.inr (.inl ⟨e, he, rfl⟩)), fun e he => (h.2 _).2 (.inr (.inr ⟨e, he, rfl⟩)), fun s hs => ?_⟩
          rcases (h.2 s).1 hs with ⟨e, he, rfl⟩ | ⟨e, he, rfl⟩ | ⟨e, he, rfl⟩
          · exact valid_size HVV.out.1 he
          · exact valid_size HVV.out.2.1 he
          · exact valid_size HVV.out.2.2 he⟩
        have hsz7 : ((X3.alloc (.cells #[.slice none 0 0] 25)).alloc (.cells #[.slice a bs.length ca, .slice b xs.length cb, .slice c ys.length cc] 25)).heap.size = X3.heap.size + 2 := by simp
        obtain ⟨ng, HN0⟩ : ∃ ng, Keep (∀ k (h : k < ns.length), an = some ⟨ng, 0, none⟩ ∧ W0.cell? ⟨ng, k, none⟩ = some (.string ns[k]) ∧ X3.heap.size < ng) := by
          by_cases h0 : ns = []
          · exact ⟨0, ⟨fun k hk => by rw [h0] at hk; simp at hk⟩⟩
          · obtain ⟨ng, c, hv2, hge, _⟩ := hrow.form (List.length_pos_iff.2 h0)
            cases hv2
            exact ⟨ng, ⟨fun k hk => ⟨rfl, by rw [hrow.cellAt k (by simpa using hk), List.getElem?_map, List.getElem?_eq_getElem hk]; rfl, by omega⟩⟩⟩
        have hX0 : Below X3.heap.size X3 W0 := kept_below (kept_below hq1 hq2) hb2
        have hbW0 := kept_below hbX hX0
        have o0 : W0.cell? ⟨X3.heap.size, 0, none⟩ = some (.slice none 0 0) := cell_later hb2 (cell_later hq2 (by simp))
        have of0 : W0.frozen? ⟨X3.heap.size, 0, none⟩ = false := (hb2.frozen (p := ⟨X3.heap.size, 0, none⟩) (by rw [hsz7]; show X3.heap.size < _; omega)).trans (by simp [go_sem])
        have hsW0 : X3.heap.size + 2 ≤ W0.heap.size := by have := hb2.size; omega
        obtain ⟨ob, hob⟩ : ∃ ob, ob = X3.heap.size := ⟨_, rfl⟩
        have HZ : Keep (g < H ∧ ob = H + 6 ∧ ob < W0.heap.size ∧ w.heap.size ≤ H) := ⟨by have := HH.out; have := HS.out; omega⟩
        have HG : Keep (w.heap.size ≤ g ∧ g < W0.heap.size) := ⟨by have := HH.out; have := HS.out; have := HZ.out; omega⟩
        rw [← hob] at o0 of0 HN0 ⊢
        have hst0 := MSt.start (S := [ob, H + 1, H + 3, H + 5]) (ob := ob) hbW0 o0 of0 (fun s hs => by
          have h := HZ.out
          simp only [List.mem_cons, List.not_mem_nil, or_false] at hs
          omega) (by simp)
        have hz03 := kept_below z3 hX0
        replace u1 := cell_later hX0 u1
        replace u2 := cell_later hX0 u2
        replace u3 := cell_later hX0 u3
        replace c1 := c1.later hX0
        replace c2 := c2.later hX0
        replace c3 := c3.later hX0
        replace k0 := cell_later hz03 k0
        replace k1 := cell_later hz03 k1
        replace k2 := cell_later hz03 k2
        replace kf : ∀ j, W0.frozen? ⟨g, j, none⟩ = false := fun j => (hz03.frozen (p := ⟨g, j, none⟩) os1).trans (kf j)
        have hcn0 : MCn (H + 1) (H + 3) (H + 5) bs xs ys [] 0 0 0 W0 := ⟨c1, c2, c3, WkAt.start bs, WkAt.start xs, WkAt.start ys⟩
        clear hq1 hq2 hbX hb1 hbq hTs hp hrow hb2 hns hpt hsz7 hX0 hbW0 o0 of0 hsW0 hob hz03 c1 c2 c3 os1 z3 m0 m1 m2 HH hbw HS
        go_wp2
        go_loopw [11, 42] (fun v2 i wr => ∃ (k : Nat) (v : Value) (q1 q2 q3 : Nat), i = .int .i64 k ∧ k ≤ ns.length ∧ MSt w [ob, H + 1, H + 3, H + 5] ob W0 v v2 (outM F bs xs ys (ns.take k)) (clsM F bs xs ys (ns.take k)) wr ∧ MCn (H + 1) (H + 3) (H + 5) bs xs ys (ns.take k) q1 q2 q3 wr) (fun _ i _ => ns.length - (intOf i).toNat)
        case atStart => exact ⟨0, _, 0, 0, 0, rfl, Nat.zero_le _, hst0, hcn0⟩
        case round =>
          clear hst0 hcn0
          obtain ⟨k, v, q1, q2, q3, rfl, hk, hs, hcn⟩ := hrel
          by_cases hlt : k < ns.length
          · have hlt' : (k : Int) < ns.length := by omega
            obtain ⟨rfl, hnk, hng⟩ := HN0.out k hlt
            have HU : Keep (outM F bs xs ys (ns.take (k + 1)) = outM F bs xs ys (ns.take k) ++ enM F bs xs ys ns[k] ∧ clsM F bs xs ys (ns.take (k + 1)) = clsM F bs xs ys (ns.take k) ++ clM F bs xs ys ns[k]) := ⟨⟨outM_take hlt, clsM_take hlt⟩⟩
            have hlu : (outM F bs xs ys (ns.take k)).length ≤ 300 := by have := outM_len (F := F) (bs := bs) (xs := xs) (ys := ys) (ns.take k); simp at this; omega
            have hlk : (clsM F bs xs ys (ns.take k)).length ≤ 300 := by have := clsM_len (F := F) (bs := bs) (xs := xs) (ys := ys) (ns.take k); simp at this; omega
            have nk := hs.keep hnk (by have := HZ.out; simp; omega)
            have g1 := hcn.a1.step (valid_asc HVV.out.1) HNA.out.1 hlt HNA.out.2.1
            have g2 := hcn.a2.step (valid_asc HVV.out.2.1) HNA.out.1 hlt HNA.out.2.2.1
            have g3 := hcn.a3.step (valid_asc HVV.out.2.2) HNA.out.1 hlt HNA.out.2.2.2.1
            have hsz := HNA.out.2.2.2.2 _ (List.getElem_mem hlt)
            generalize outM F bs xs ys (ns.take k) = us at *
            generalize clsM F bs xs ys (ns.take k) = ks at *
            obtain ⟨s, hs'⟩ : ∃ s, s = ns[k] := ⟨_, rfl⟩
            rw [← hs'] at nk HU g1 g2 g3 hsz
            clear hs' hnk
            obtain ⟨f, hf⟩ : ∃ f, f = atL bs s := ⟨_, rfl⟩
            obtain ⟨x, hx⟩ : ∃ x, x = atL xs s := ⟨_, rfl⟩
            obtain ⟨y, hy⟩ : ∃ y, y = atL ys s := ⟨_, rfl⟩
            obtain ⟨g9, hg9⟩ : ∃ g9, g9 = (pathM F f x y).getD noFl := ⟨_, rfl⟩
            obtain ⟨ok, hok⟩ : ∃ ok, ok = (pathM F f x y).isSome := ⟨_, rfl⟩
            have hgt : g9.text.size ≤ 1500 := by rw [hg9]; exact path_text (by rw [hx]; exact at_text HVV.out.2.1 s) (by rw [hy]; exact at_text HVV.out.2.2 s)
            have HE : Keep ((ok = true → clM F bs xs ys s = [] ∧ enM F bs xs ys s = if g9.there = true then [⟨s, g9.text, g9.runs⟩] else []) ∧ (ok = false → clM F bs xs ys s = [s] ∧ enM F bs xs ys s = [] ∧ g9 = noFl)) := ⟨by
              unfold clM enM atM
              rw [← hf, ← hx, ← hy, hg9, hok]
              cases pathM F f x y with
              | none => exact ⟨(fun h => by cases h), fun _ => ⟨rfl, rfl, rfl⟩⟩
              | some z => exact ⟨fun _ => ⟨rfl, rfl⟩, (fun h => by cases h)⟩⟩
            have HC1 : Keep (∀ X : World, ES X a bs → X.cell? ⟨H, 0, none⟩ = some (.slice a bs.length ca) → Cnt (H + 1) q1 X → Calls Tryz.prog 56 #[.string s, .pointer (some ⟨H + 1, 0, none⟩), .pointer (some ⟨H, 0, none⟩)] X fun e w' => e = .returned (.agg #[.bool f.there, .string f.text, .bool f.runs]) ∧ X.grownBy w' (some (H + 1)) ∧ Cnt (H + 1) (nx bs q1 s) w') := ⟨fun X h1 h2 h3 => (walk1_any a ca bs q1 (H + 1) H s X h3.c h3.fz h2 h1 hcn.a1.le (by omega) (valid_isZ HVV.out.1)).mono fun e w' ⟨e1, e2, e3, e4⟩ => ⟨by rw [e1, g1.1, hf]; rfl, e2, ⟨e3, e4⟩⟩⟩
            have HC2 : Keep (∀ X : World, ES X b xs → X.cell? ⟨H + 2, 0, none⟩ = some (.slice b xs.length cb) → Cnt (H + 3) q2 X → Calls Tryz.prog 56 #[.string s, .pointer (some ⟨H + 3, 0, none⟩), .pointer (some ⟨H + 2, 0, none⟩)] X fun e w' => e = .returned (.agg #[.bool x.there, .string x.text, .bool x.runs]) ∧ X.grownBy w' (some (H + 3)) ∧ Cnt (H + 3) (nx xs q2 s) w') := ⟨fun X h1 h2 h3 => (walk1_any b cb xs q2 (H + 3) (H + 2) s X h3.c h3.fz h2 h1 hcn.a2.le (by omega) (valid_isZ HVV.out.2.1)).mono fun e w' ⟨e1, e2, e3, e4⟩ => ⟨by rw [e1, g2.1, hx]; rfl, e2, ⟨e3, e4⟩⟩⟩
            have HC3 : Keep (∀ X : World, ES X c ys → X.cell? ⟨H + 4, 0, none⟩ = some (.slice c ys.length cc) → Cnt (H + 5) q3 X → Calls Tryz.prog 56 #[.string s, .pointer (some ⟨H + 5, 0, none⟩), .pointer (some ⟨H + 4, 0, none⟩)] X fun e w' => e = .returned (.agg #[.bool y.there, .string y.text, .bool y.runs]) ∧ X.grownBy w' (some (H + 5)) ∧ Cnt (H + 5) (nx ys q3 s) w') := ⟨fun X h1 h2 h3 => (walk1_any c cc ys q3 (H + 5) (H + 4) s X h3.c h3.fz h2 h1 hcn.a3.le (by omega) (valid_isZ HVV.out.2.2)).mono fun e w' ⟨e1, e2, e3, e4⟩ => ⟨by rw [e1, g3.1, hy]; rfl, e2, ⟨e3, e4⟩⟩⟩
            have HC4 : Keep (∀ X, Calls Tryz.prog 30 #[.agg #[.bool f.there, .string f.text, .bool f.runs], .agg #[.bool x.there, .string x.text, .bool x.runs], .agg #[.bool y.there, .string y.text, .bool y.runs]] X fun e w' => e = .returned (.tuple #[.agg #[.bool g9.there, .string g9.text, .bool g9.runs], .bool ok]) ∧ Below X.heap.size X w') := ⟨fun X => by rw [hg9, hok]; exact mergeFiles_any F f x y X (HM.out _ _ _)⟩
            have HWK : Keep (WkAt bs (ns.take (k + 1)) (nx bs q1 s) ∧ WkAt xs (ns.take (k + 1)) (nx xs q2 s) ∧ WkAt ys (ns.take (k + 1)) (nx ys q3 s)) := ⟨⟨g1.2, g2.2, g3.2⟩⟩
            have n1 := hcn.c1
            have n2 := hcn.c2
            have n3 := hcn.c3
            clear hf hx hy hg9 hok g1 g2 g3 hcn
            obtain ⟨g, hgg⟩ : ∃ g : Fl, g = g9 := ⟨_, rfl⟩
            subst hgg
            go_upto_region 9 with fail
            go_wp2_with fail
            refine (HC1.out wr (hbs.below hs.bw) (hs.keep u1 (by have := HZ.out; simp; omega)) n1).mono ?_
            rintro e w5 ⟨rfl, hg5, n1'⟩
            have hs5 := hs.box hg5 (by simp) (by have := HZ.out; omega)
            replace n2 := n2.grown hg5 (by simp)
            replace n3 := n3.grown hg5 (by simp)
            clear hg5 hs n1 HC1 nk
            go_wp2_with fail
            refine (HC2.out w5 (hxs.below hs5.bw) (hs5.keep u2 (by have := HZ.out; simp; omega)) n2).mono ?_
            rintro e w6 ⟨rfl, hg6, n2'⟩
            have hs6 := hs5.box hg6 (by simp) (by have := HZ.out; omega)
            replace n1' := n1'.grown hg6 (by simp)
            replace n3 := n3.grown hg6 (by simp)
            clear hg6 hs5 n2 HC2
            go_wp2_with fail
            refine (HC3.out w6 (hys.below hs6.bw) (hs6.keep u3 (by have := HZ.out; simp; omega)) n3).mono ?_
            rintro e w7 ⟨rfl, hg7, n3'⟩
            have hs7 := hs6.box hg7 (by simp) (by have := HZ.out; omega)
            replace n1' := n1'.grown hg7 (by simp)
            replace n2' := n2'.grown hg7 (by simp)
            clear hg7 hs6 n3 HC3
            go_wp2_with fail
            refine (HC4.out w7).mono ?_
            rintro e w8 ⟨rfl, hb8⟩
            have hb9 := below_oneD w8 (.cells #[.bool g.there, .string g.text, .bool g.runs] 51)
            have hF := FB.new w8 g 51
            have hs2 := (hs7.later hb8).later hb9
            have HFB : Keep (∀ j, u11.ownBlock = some j → j < w8.heap.size) := ⟨fun j e => owns_lt (hs7.later hb8).row2 e⟩
            replace n1' := (n1'.later hb8).later hb9
            replace n2' := (n2'.later hb8).later hb9
            replace n3' := (n3'.later hb8).later hb9
            clear hb8 hb9 hs7 HC4
            go_upto_region 10 with fail
            generalize w8.alloc (.cells #[.bool g.there, .string g.text, .bool g.runs] 51) = X at *
            obtain ⟨fb, hfb⟩ : ∃ fb, fb = w8.heap.size := ⟨_, rfl⟩
            rw [← hfb] at hF HFB ⊢
            clear hfb
            cases ok with
            | false =>
              obtain ⟨e1, e2, rfl⟩ := HE.out.2 rfl
              have HU2 : Keep (outM F bs xs ys (ns.take (k + 1)) = us ∧ clsM F bs xs ys (ns.take (k + 1)) = ks ++ [s]) := ⟨by rw [HU.out.1, HU.out.2, e1, e2, List.append_nil]; exact ⟨rfl, rfl⟩⟩
              clear e1 e2 HE HU
              go_wp2_with fail
              refine (clone_any s X (by omega)).mono ?_
              rintro e wK ⟨rfl, hbK⟩
              replace hs2 := hs2.later hbK
              replace hF := hF.later hbK
              replace n1' := n1'.later hbK
              replace n2' := n2'.later hbK
              replace n3' := n3'.later hbK
              clear hbK
              have hxb := below_oneD wK (.cells #[.string s] 9)
              go_wp2_with (first | (at_builtin; refine wpList_append_lies _ rfl _ _ 28 rfl W0.heap.size 9 j0 _ 1 16 Tryz.underlying28 hj0 jz0 jz1 jz2 rfl (by decide) u11 ks.length (ks.map .string) rfl (hs2.row2.alloc _) ⟨wK.heap.size, 0, none⟩ 1 1 [.string s] rfl rfl (by simpa using cell_one_new wK (.string s) 9) (by simp [Value.oneCell']) (by omega) (by unfold maxLen; omega) (by omega) (by have := hs2.sz; simp; omega) (wK.heap.size + 1) (by simp) ?_; intro g2 cap2 w2 hown2 hgrow2 hat2 hlt2; have hF2 := (hF.later hxb).grown hgrow2 (fun e => by have h1 := HFB.out _ e; omega); have x0 : w2.cell? ⟨fb, 0, none⟩ = some (.bool false) := hF2.c0))
              have hge : ∀ j, u11.ownBlock = some j → W0.heap.size ≤ j := fun j e => owns_row_ge hs2.row2 e
              have hz := HZ.out
              have hs3 := hs2.addK hxb hgrow2 hown2 hat2 (by simp)
              have hcn : MCn (H + 1) (H + 3) (H + 5) bs xs ys (ns.take (k + 1)) (nx bs q1 s) (nx xs q2 s) (nx ys q3 s) w2 := ⟨(n1'.later hxb).grown hgrow2 (fun e => by have := hge _ e; omega), (n2'.later hxb).grown hgrow2 (fun e => by have := hge _ e; omega), (n3'.later hxb).grown hgrow2 (fun e => by have := hge _ e; omega), HWK.out.1, HWK.out.2.1, HWK.out.2.2⟩
              clear hF2 x0 hown2 hgrow2 hat2 hlt2 hs2 hF n1' n2' n3' hge hz
              go_roundw
              case rel => exact ⟨k + 1, v, _, _, _, by congr 1, hlt, by rw [HU2.out.1, HU2.out.2]; exact hs3, hcn⟩
              case measure => simp only [intOf]; omega
            | true =>
              obtain ⟨e1, e2⟩ := HE.out.1 rfl
              have x0 := hF.c0
              cases hth : g.there with
              | false =>
                rw [hth] at x0 e2
                have HU2 : Keep (outM F bs xs ys (ns.take (k + 1)) = us ∧ clsM F bs xs ys (ns.take (k + 1)) = ks) := ⟨by rw [HU.out.1, HU.out.2, e1, e2, List.append_nil]; exact ⟨by simp, rfl⟩⟩
                have hcn : MCn (H + 1) (H + 3) (H + 5) bs xs ys (ns.take (k + 1)) (nx bs q1 s) (nx xs q2 s) (nx ys q3 s) X := ⟨n1', n2', n3', HWK.out.1, HWK.out.2.1, HWK.out.2.2⟩
                clear e1 e2 HE HU hth n1' n2' n3'
                go_wp2
                go_roundw
                case rel => exact ⟨k + 1, v, _, _, _, by congr 1, hlt, by rw [HU2.out.1, HU2.out.2]; exact hs2, hcn⟩
                case measure => simp only [intOf]; omega
              | true =>
                rw [hth] at x0 e2
                have HU2 : Keep (outM F bs xs ys (ns.take (k + 1)) = us ++ [⟨s, g.text, g.runs⟩] ∧ clsM F bs xs ys (ns.take (k + 1)) = ks) := ⟨by rw [HU.out.1, HU.out.2, e1, e2, List.append_nil]; exact ⟨by simp, rfl⟩⟩
                have HENT : Keep (∀ X : World, Calls Tryz.prog 32 #[.agg #[.bool true, .string g.text, .bool g.runs], .string s] X fun e w' => e = .returned (.agg #[.string s, .string g.text, .bool g.runs]) ∧ Below X.heap.size X w') := ⟨fun X => entry_any s g.text g.runs X (by omega) (by omega)⟩
                clear e1 e2 HE HU
                go_upto_region 13 with fail
                refine (wpIn_wide (n := 0)).1 ?_
                refine wpIn_region_inv0 (by kernel_rfl) (by kernel_rfl) (fun T0 => AE T0 [68, 69, 70, 71, 72, 73, 74, 75, 1000] (i13Tab ob v s g) 5 6 8 73 74 w [ob, H + 1, H + 3, H + 5] ob W0 X v u11 us ks ⟨s, g.text, g.runs⟩) ?_ ?_ ?_
                · exact AE.start _
                · intro L a2 w9 hinv hall
                  obtain ⟨v', hs3, hk3⟩ := hinv.p3 (hall 8 (by decide))
                  have HX : Keep _ := ⟨hinv.sl.act⟩
                  have hz := HZ.out
                  have hcn : MCn (H + 1) (H + 3) (H + 5) bs xs ys (ns.take (k + 1)) (nx bs q1 s) (nx xs q2 s) (nx ys q3 s) w9 := ⟨n1'.of_block (hk3 _ (by omega) (by omega)), n2'.of_block (hk3 _ (by omega) (by omega)), n3'.of_block (hk3 _ (by omega) (by omega)), HWK.out.1, HWK.out.2.1, HWK.out.2.2⟩
                  clear hinv hall hs2 hF x0 hk3 n1' n2' n3' hz hth
                  rw [HX.out]
                  simp only [updL, List.contains_cons, List.contains_nil, Nat.reduceAdd, Nat.reduceBEq, Bool.or_false, cond_false, cond_true, Bool.or_true]
                  go_wp2
                  go_roundw
                  case rel => exact ⟨k + 1, v', _, _, _, by congr 1, hlt, by rw [HU2.out.1, HU2.out.2]; exact hs3, hcn⟩
                  case measure => simp only [intOf]; omega
                · intro L a2 w9 i o hinv hcl hL ho hdep
                  have hi9 : i < 9 := (Array.getElem?_eq_some_iff.1 ho).1
                  have nd := (by decide : ([68, 69, 70, 71, 72, 73, 74, 75, 1000] : List Nat).Nodup)
                  unfold wpOpIn
                  rw [ho]
                  match i, hi9, hL, ho, hdep with
                    | 0, _, hL, ho, hdep =>
                      injection ho with ho; subst ho
                      dsimp only
                      rw [if_pos (by rfl)]
                      refine ⟨fun f _ => trivial, ?_⟩
                      have e10 : a2.tmps[10]?.getD undef = .pointer (some ⟨ob, 0, none⟩) := hinv.sl.old (by decide)
                      go_simp
                      exact hinv.step nd (i := 0) (by decide) (show 68 < 90 by omega) (by decide) (by decide) (by decide) (by decide) (by decide) rfl (.inl rfl)
                    | 1, _, hL, ho, hdep =>
                      injection ho with ho; subst ho
                      dsimp only
                      rw [if_pos (by rfl)]
                      refine ⟨fun f _ => trivial, ?_⟩
                      have e68 : a2.tmps[68]?.getD undef = .pointer (some ⟨ob, 0, none⟩) := hinv.sl.new (i := 0) (by decide) rfl (hdep ⟨0, .data⟩ (by simp) rfl)
                      have hw9 := hinv.below (undone hcl (i := 6) rfl (j := 1) (k := .data) (by simp) rfl (getD_ft hL))
                      have c0 := (hs2.later hw9).cell
                      go_simp
                      exact hinv.step nd (i := 1) (by decide) (show 69 < 90 by omega) (by decide) (by decide) (by decide) (by decide) (by decide) rfl (.inl rfl)
                    | 2, _, hL, ho, hdep =>
                      injection ho with ho; subst ho
                      dsimp only
                      rw [if_pos (by rfl)]
                      refine ⟨fun f _ => trivial, ?_⟩
                      have e14 : a2.tmps[14]?.getD undef = .pointer (some ⟨fb, 0, none⟩) := hinv.sl.old (by decide)
                      have hw9 := hinv.p0 (undone hcl (i := 5) rfl (j := 4) (k := .data) (by simp) rfl (undone hcl (i := 4) rfl (j := 2) (k := .data) (by simp) rfl (getD_ft hL)))
                      have hF9 := hF.later hw9
                      have c0 := hF9.c0
                      have c1 := hF9.c1
                      have c2 := hF9.c2
                      rw [hth] at c0
                      go_simp
                      exact hinv.step nd (i := 2) (by decide) (show 70 < 90 by omega) (by decide) (by decide) (by decide) (by decide) (by decide) rfl (.inl rfl)
                    | 3, _, hL, ho, hdep =>
                      injection ho with ho; subst ho
                      dsimp only
                      rw [if_pos (by rfl)]
                      refine ⟨fun f _ => trivial, ?_⟩
                      have e13 : a2.tmps[13]?.getD undef = .string s := hinv.sl.old (by decide)
                      go_simp
                      exact hinv.step nd (i := 3) (by decide) (show 71 < 90 by omega) (by decide) (by decide) (by decide) (by decide) (by decide) rfl (.inl rfl)
                    | 4, _, hL, ho, hdep =>
                      injection ho with ho; subst ho
                      dsimp only
                      rw [if_pos (by rfl)]
                      refine ⟨fun f _ => trivial, ?_⟩
                      have e70 : a2.tmps[70]?.getD undef = .agg #[.bool true, .string g.text, .bool g.runs] := hinv.sl.new (i := 2) (by decide) rfl (hdep ⟨2, .data⟩ (by simp) rfl)
                      have e71 : a2.tmps[71]?.getD undef = .string s := hinv.sl.new (i := 3) (by decide) rfl (hdep ⟨3, .data⟩ (by simp) rfl)
                      go_simp
                      have u5 := undone hcl (i := 5) rfl (j := 4) (k := .data) (by simp) rfl (getD_ft hL)
                      have u6 := undone hcl (i := 6) rfl (j := 5) (k := .data) (by simp) rfl (u5)
                      have u8 := undone hcl (i := 8) rfl (j := 6) (k := .data) (by simp) rfl (u6)
                      refine ⟨rfl, CallsIn.mono (callsIn_wide.2 (HENT.out w9)) ?_⟩
                      rintro e w' ⟨rfl, hb'⟩
                      exact hinv.step nd (i := 4) (by decide) (show 72 < 90 by omega) (by decide) (by decide) (by decide) (by decide) (by decide) rfl (.inr ⟨hb', u5, u6, u8⟩)
                    | 5, _, hL, ho, hdep =>
                      injection ho with ho; subst ho
                      dsimp only
                      rw [if_pos (by rfl)]
                      refine ⟨fun f _ => trivial, ?_⟩
                      have e72 : a2.tmps[72]?.getD undef = .agg #[.string s, .string g.text, .bool g.runs] := hinv.sl.new (i := 4) (by decide) rfl (hdep ⟨4, .data⟩ (by simp) rfl)
                      have h6 := undone hcl (i := 6) rfl (j := 5) (k := .data) (by simp) rfl (getD_ft hL)
                      have h8 := undone hcl (i := 8) rfl (j := 6) (k := .data) (by simp) rfl (h6)
                      go_simp
                      exact hinv.build nd (by decide) (show 73 < 90 by omega) (by decide) (by decide) rfl rfl h6 h8 hL
                    | 6, _, hL, ho, hdep =>
                      injection ho with ho; subst ho
                      dsimp only
                      rw [if_pos (by rfl)]
                      have h5 := hdep ⟨5, .data⟩ (by simp) rfl
                      obtain ⟨y, hy, rfl, e73⟩ := hinv.p1 h5 (getD_ft hL)
                      have e69 := hinv.sl.sl 1 (by decide) _ rfl (hdep ⟨1, .data⟩ (by simp) rfl)
                      have h8 := undone hcl (i := 8) rfl (j := 6) (k := .data) (by simp) rfl (getD_ft hL)
                      obtain ⟨g2, cap2, w5, hrun, hown, hgr, hat, _⟩ := run_append_lies (P := Tryz.prog) (y.alloc (.cells #[.string s, .string g.text, .bool g.runs] 55)) 23 23 W0.heap.size 55 i0 _ 3 40 Tryz.underlying23 hi hz0 hz1 hz2 rfl (by decide) v us.length (ecells us) (owns_below hs2.row (hy.trans ((below_oneD y _).mono hy.size))) ⟨y.heap.size, 0, none⟩ 1 1 (ecell ⟨s, g.text, g.runs⟩) rfl (news_3 y ⟨s, g.text, g.runs⟩ _ _ rfl) (one_3 _) (by omega) (by unfold maxLen; omega) (by omega) (by have := hs2.sz; have := hy.size; simp; omega) _ rfl
                      refine wpIn_appendZ _ _ _ rfl e69 e73 hrun ?_
                      exact hinv.app nd (by decide) (show 74 < 90 by omega) (by decide) (by decide) rfl rfl h5 h8 hL (hy.trans ((below_oneD y _).mono hy.size)) hown hgr hat
                    | 7, _, hL, ho, hdep =>
                      injection ho with ho; subst ho
                      dsimp only
                      rw [if_pos (by rfl)]
                      refine ⟨fun f _ => trivial, ?_⟩
                      have e10 : a2.tmps[10]?.getD undef = .pointer (some ⟨ob, 0, none⟩) := hinv.sl.old (by decide)
                      go_simp
                      exact hinv.step nd (i := 7) (by decide) (show 75 < 90 by omega) (by decide) (by decide) (by decide) (by decide) (by decide) rfl (.inl rfl)
                    | 8, _, hL, ho, hdep =>
                      injection ho with ho; subst ho
                      dsimp only
                      rw [if_pos (by rfl)]
                      refine ⟨fun f _ => trivial, ?_⟩
                      have h6 := hdep ⟨6, .data⟩ (by simp) rfl
                      have h5 := hcl 6 _ rfl h6 ⟨5, .data⟩ (by simp) rfl
                      obtain ⟨W1, g2, cap2, e74, hX1, hown, hgr, hat⟩ := hinv.p2 h6 (getD_ft hL)
                      have e74b : a2.tmps[74]?.getD undef = .slice (some ⟨g2, 0, none⟩) (us.length + 1) cap2 := evalD2 e74
                      have e75 : a2.tmps[75]?.getD undef = .pointer (some ⟨ob, 0, none⟩) := hinv.sl.new (i := 7) (by decide) rfl (hdep ⟨7, .data⟩ (by simp) rfl)
                      obtain ⟨⟨oc, of⟩, hs3, hk3⟩ := hs2.addE (e := ⟨s, g.text, g.runs⟩) hX1 hgr hown hat rfl
                      go_simp
                      exact hinv.last (by decide) (by decide) rfl h5 h6 hL ⟨_, hs3, hk3⟩

          · obtain rfl : k = ns.length := by omega
            rw [List.take_length] at hs
            have gno : g ∉ [ob, H + 1, H + 3, H + 5] := by have := HZ.out; simp; omega
            have g0 := hs.keep k0 gno
            have g1 := hs.keep k1 gno
            have g2 := hs.keep k2 gno
            have HLO : Keep (w.heap.size ≤ g ∧ g < W0.heap.size) := ⟨HG.out⟩
            have gf : ∀ j, wr.frozen? ⟨g, j, none⟩ = false := fun j => frozen_of (hs.bl g HLO.out.2 gno) (kf j)
            have hlu : (outM F bs xs ys ns).length ≤ 300 := by have := outM_len (F := F) (bs := bs) (xs := xs) (ys := ys) ns; omega
            have hlk : (clsM F bs xs ys ns).length ≤ 300 := by have := clsM_len (F := F) (bs := bs) (xs := xs) (ys := ys) ns; omega
            have HO : Keep (∃ us ks, outM F bs xs ys (pathsL [bs, xs, ys]) = us ∧ clsM F bs xs ys (pathsL [bs, xs, ys]) = ks ∧ us = outM F bs xs ys ns ∧ ks = clsM F bs xs ys ns) := ⟨⟨_, _, rfl, rfl, by rw [HNS.out], by rw [HNS.out]⟩⟩
            have hpz : ∀ e ∈ outM F bs xs ys ns, e.path.size ≤ 1048576 := fun e he => by have := HNA.out.2.2.2.2 _ (outM_path he); omega
            clear k0 k1 k2 kf u1 u2 u3 HN0 hk hbs hxs hys hcn HM
            obtain ⟨us, ks, ho1, ho2, hu, hkk⟩ := HO.out
            have HO1 : Keep (outM F bs xs ys (pathsL [bs, xs, ys]) = us ∧ clsM F bs xs ys (pathsL [bs, xs, ys]) = ks) := ⟨⟨ho1, ho2⟩⟩
            rw [← hu] at hs hlu hpz
            rw [← hkk] at hs hlk
            clear ho1 ho2 hu hkk HO
            obtain ⟨ad, cp, rfl⟩ := owns_slice hs.row
            obtain ⟨ak, ck, rfl⟩ := owns_slice hs.row2
            by_cases hks : ks = []
            · subst hks
              have oc := hs.cell
              have htr := implTree_any ad cp us wr (el_of_row hs.row).es (by omega) hpz
              go_wp2_with fail
              refine htr.mono ?_
              rintro e w2 ⟨vv, rfl, hvv, hb2⟩
              have hs2 := hs.later hb2
              have oc2 := hs2.cell
              replace g0 := cell_later hb2 g0
              replace g1 := cell_later hb2 g1
              replace g2 := cell_later hb2 g2
              replace gf : ∀ j, w2.frozen? ⟨g, j, none⟩ = false := fun j => (hb2.frozen (p := ⟨g, j, none⟩) (Nat.lt_of_lt_of_le HLO.out.2 hs.sz)).trans (gf j)
              clear htr oc hs hb2
              cases vv with
              | true =>
                have HP : Keep (MgPost F bs xs ys w (.returned (.agg #[.int .i64 0, .slice ad us.length cp, .slice none ([] : List ByteArray).length 0])) (((w2.setCell ⟨g, 0, none⟩ (.int .i64 0)).setCell ⟨g, 1, none⟩ (.slice ad us.length cp)).setCell ⟨g, 2, none⟩ (.slice none 0 0))) := ⟨⟨0, us, [], ad, cp, none, 0, .inr ⟨HVV.out.1, HVV.out.2.1, HVV.out.2.2, .inr ⟨HO1.out.2, .inl ⟨by rw [HO1.out.1]; exact hvv.1 rfl, rfl, HO1.out.1.symm, rfl⟩⟩⟩, rfl, el_of_row (hs2.fin HLO.out.1 HLO.out.2 _ _ _).2.1, row_roomO hs2.row, owns_nilS _ _, (hs2.fin HLO.out.1 HLO.out.2 _ _ _).1⟩⟩
                clear hs2 hvv
                go_wp2
                refine bodyPost_ret (v := .agg #[.int .i64 0, .slice ad us.length cp, .slice none ([] : List ByteArray).length 0]) ?_ rfl HP.out
                go_light
                simp [results, Tryz.results6, go_sem, g0, g1, g2]
              | false =>
                have HNV : Keep (¬ ValidTs us) := ⟨fun h => by have := hvv.2 h; cases this⟩
                have hkd := kids_any ad cp us w2 (el_of_row hs2.row).es (by omega) hpz
                clear hvv
                go_wp2_with fail
                refine hkd.mono ?_
                rintro e w3 ⟨ak3, ck3, rfl, hrow3, hb3⟩
                replace g0 := cell_later hb3 g0
                replace g1 := cell_later hb3 g1
                replace g2 := cell_later hb3 g2
                replace gf : ∀ j, w3.frozen? ⟨g, j, none⟩ = false := fun j => (hb3.frozen (p := ⟨g, j, none⟩) (Nat.lt_of_lt_of_le HLO.out.2 hs2.sz)).trans (gf j)
                have hbw3 := kept_below hs2.bw hb3
                have HP : Keep (MgPost F bs xs ys w (.returned (.agg #[.int .i64 3, .slice none ([] : List En).length 0, .slice ak3 (if us.length ≤ 100 then kidsM us else []).length ck3])) (((w3.setCell ⟨g, 0, none⟩ (.int .i64 3)).setCell ⟨g, 1, none⟩ (.slice none 0 0)).setCell ⟨g, 2, none⟩ (.slice ak3 (if us.length ≤ 100 then kidsM us else []).length ck3))) := ⟨⟨3, [], _, none, 0, ak3, ck3, .inr ⟨HVV.out.1, HVV.out.2.1, HVV.out.2.2, .inr ⟨HO1.out.2, .inr ⟨by rw [HO1.out.1]; exact HNV.out, rfl, rfl, by rw [HO1.out.1]⟩⟩⟩, rfl, EL.nil _ _ _, Nat.le_refl _, owns_mono (hrow3.kept (grown_set3 w3 g _ _ _) (.inr fun e => by have h1 := owns_row_ge hrow3 e; have h2 := HLO.out.2; have h3 := hs2.sz; omega)) hs2.bw.size, set3_below hbw3 HLO.out.1 _ _ _⟩⟩
                generalize (if us.length ≤ 100 then kidsM us else []) = kk at *
                clear hkd hrow3 hb3 hs2 hbw3 oc2
                go_wp2
                refine bodyPost_ret (v := .agg #[.int .i64 3, .slice none ([] : List En).length 0, .slice ak3 kk.length ck3]) ?_ rfl HP.out
                go_light
                simp [results, Tryz.results6, go_sem, g0, g1, g2]
            · have h0 : (0 : Int) < ks.length := by have := List.length_pos_iff.2 hks; omega
              have HP : Keep (MgPost F bs xs ys w (.returned (.agg #[.int .i64 2, .slice none ([] : List En).length 0, .slice ak ks.length ck])) (((wr.setCell ⟨g, 0, none⟩ (.int .i64 2)).setCell ⟨g, 1, none⟩ (.slice none 0 0)).setCell ⟨g, 2, none⟩ (.slice ak ks.length ck))) := ⟨⟨2, [], ks, none, 0, ak, ck, .inr ⟨HVV.out.1, HVV.out.2.1, HVV.out.2.2, .inl ⟨by rw [HO1.out.2]; exact hks, rfl, rfl, HO1.out.2.symm⟩⟩, rfl, EL.nil _ _ _, Nat.le_refl _, (hs.fin HLO.out.1 HLO.out.2 _ _ _).2.2, (hs.fin HLO.out.1 HLO.out.2 _ _ _).1⟩⟩
              clear hs hks
              go_wp2
              refine bodyPost_ret (v := .agg #[.int .i64 2, .slice none ([] : List En).length 0, .slice ak ks.length ck]) ?_ rfl HP.out
              go_light
              simp [results, Tryz.results6, go_sem, g0, g1, g2]
      · intro L a2 w9 i o hinv hcl hL ho hdep
        have hi9 : i < 9 := (Array.getElem?_eq_some_iff.1 ho).1
        have nd := (by decide : ([30, 31, 32, 33, 34, 35, 7, 8, 9] : List Nat).Nodup)
        unfold wpOpIn
        rw [ho]
        have d1 := HLO1.out _ _ hinv.wd
        have d2 := HLO2.out _ _ hinv.wd
        have d3 := HLO3.out _ _ hinv.wd
        match i, hi9, hL, ho, hdep with
          | 0, _, hL, ho, hdep =>
            injection ho with ho; subst ho
            dsimp only
            rw [if_pos (by rfl)]
            refine ⟨fun f _ => trivial, ?_⟩
            have e3 : a2.tmps[3]?.getD undef = .pointer (some ⟨ta, 0, none⟩) := hinv.sl.old (by decide)
            go_simp
            exact hinv.step nd (i := 0) (by decide) (show 30 < 90 by omega) rfl (hinv.wd.other (by omega) (by omega) (by omega))
          | 1, _, hL, ho, hdep =>
            injection ho with ho; subst ho
            dsimp only
            rw [if_pos (by rfl)]
            refine ⟨fun f _ => trivial, ?_⟩
            have e30 : a2.tmps[30]?.getD undef = .agg #[.slice a bs.length ca] := hinv.sl.new (i := 0) (by decide) rfl (hdep ⟨0, .data⟩ (by simp) rfl)
            go_simp
            have h3 := undone hcl (i := 3) rfl (j := 1) (k := .chain) (by simp) rfl (getD_ft hL)
            have h5 := undone hcl (i := 5) rfl (j := 3) (k := .chain) (by simp) rfl h3
            have hw : w9 = X0 := hinv.wd.1 (getD_ft hL)
            subst hw
            refine ⟨rfl, CallsIn.mono (callsIn_wide.2 HC1.out) ?_⟩
            rintro e w' ⟨rfl, rfl⟩
            exact hinv.step nd (i := 1) (by decide) (show 31 < 90 by omega) rfl (IZ3.c1 hL h3 h5)
          | 2, _, hL, ho, hdep =>
            injection ho with ho; subst ho
            dsimp only
            rw [if_pos (by rfl)]
            refine ⟨fun f _ => trivial, ?_⟩
            have e4 : a2.tmps[4]?.getD undef = .pointer (some ⟨tb, 0, none⟩) := hinv.sl.old (by decide)
            go_simp
            exact hinv.step nd (i := 2) (by decide) (show 32 < 90 by omega) rfl (hinv.wd.other (by omega) (by omega) (by omega))
          | 3, _, hL, ho, hdep =>
            injection ho with ho; subst ho
            dsimp only
            rw [if_pos (by rfl)]
            refine ⟨fun f _ => trivial, ?_⟩
            have e32 : a2.tmps[32]?.getD undef = .agg #[.slice b xs.length cb] := hinv.sl.new (i := 2) (by decide) rfl (hdep ⟨2, .data⟩ (by simp) rfl)
            go_simp
            have h1 := hdep ⟨1, .chain⟩ (by simp) rfl
            have h5 := undone hcl (i := 5) rfl (j := 3) (k := .chain) (by simp) rfl (getD_ft hL)
            have hw : w9 = X1 := hinv.wd.2.1 h1 (getD_ft hL)
            subst hw
            refine ⟨rfl, CallsIn.mono (callsIn_wide.2 HC2.out) ?_⟩
            rintro e w' ⟨rfl, rfl⟩
            exact hinv.step nd (i := 3) (by decide) (show 33 < 90 by omega) rfl (IZ3.c3 hL h1 h5)
          | 4, _, hL, ho, hdep =>
            injection ho with ho; subst ho
            dsimp only
            rw [if_pos (by rfl)]
            refine ⟨fun f _ => trivial, ?_⟩
            have e5 : a2.tmps[5]?.getD undef = .pointer (some ⟨tc, 0, none⟩) := hinv.sl.old (by decide)
            go_simp
            exact hinv.step nd (i := 4) (by decide) (show 34 < 90 by omega) rfl (hinv.wd.other (by omega) (by omega) (by omega))
          | 5, _, hL, ho, hdep =>
            injection ho with ho; subst ho
            dsimp only
            rw [if_pos (by rfl)]
            refine ⟨fun f _ => trivial, ?_⟩
            have e34 : a2.tmps[34]?.getD undef = .agg #[.slice c ys.length cc] := hinv.sl.new (i := 4) (by decide) rfl (hdep ⟨4, .data⟩ (by simp) rfl)
            go_simp
            have h3 := hdep ⟨3, .chain⟩ (by simp) rfl
            have h1 := hcl 3 _ rfl h3 ⟨1, .chain⟩ (by simp) rfl
            have hw : w9 = X2 := hinv.wd.2.2.1 h3 (getD_ft hL)
            subst hw
            refine ⟨rfl, CallsIn.mono (callsIn_wide.2 HC3.out) ?_⟩
            rintro e w' ⟨rfl, rfl⟩
            exact hinv.step nd (i := 5) (by decide) (show 35 < 90 by omega) rfl (IZ3.c5 hL h1 h3)
          | 6, _, hL, ho, hdep =>
            injection ho with ho; subst ho
            dsimp only
            rw [if_pos (by rfl)]
            refine ⟨fun f _ => trivial, ?_⟩
            have e31 : a2.tmps[31]?.getD undef = .func (.func 56) #[] #[.pointer (some ⟨H + 1, 0, none⟩), .pointer (some ⟨H, 0, none⟩)] := hinv.sl.new (i := 1) (by decide) rfl (hdep ⟨1, .data⟩ (by simp) rfl)
            go_simp
            exact hinv.step nd (i := 6) (by decide) (show 7 < 90 by omega) rfl (hinv.wd.other (by omega) (by omega) (by omega))
          | 7, _, hL, ho, hdep =>
            injection ho with ho; subst ho
            dsimp only
            rw [if_pos (by rfl)]
            refine ⟨fun f _ => trivial, ?_⟩
            have e33 : a2.tmps[33]?.getD undef = .func (.func 56) #[] #[.pointer (some ⟨H + 3, 0, none⟩), .pointer (some ⟨H + 2, 0, none⟩)] := hinv.sl.new (i := 3) (by decide) rfl (hdep ⟨3, .data⟩ (by simp) rfl)
            go_simp
            exact hinv.step nd (i := 7) (by decide) (show 8 < 90 by omega) rfl (hinv.wd.other (by omega) (by omega) (by omega))
          | 8, _, hL, ho, hdep =>
            injection ho with ho; subst ho
            dsimp only
            rw [if_pos (by rfl)]
            refine ⟨fun f _ => trivial, ?_⟩
            have e35 : a2.tmps[35]?.getD undef = .func (.func 56) #[] #[.pointer (some ⟨H + 5, 0, none⟩), .pointer (some ⟨H + 4, 0, none⟩)] := hinv.sl.new (i := 5) (by decide) rfl (hdep ⟨5, .data⟩ (by simp) rfl)
            go_simp
            exact hinv.step nd (i := 8) (by decide) (show 9 < 90 by omega) rfl (hinv.wd.other (by omega) (by omega) (by omega))

end Go.Proofs.YtjiafjdjocmodaaGreat
