/-
  impl.matchPart, impl.Match; spec.Match.
-/
import Derived.Test.YtmeodgcnnjkilaaRowsS
import Derived.Test.YtmeodgcnnjkilaaRowsR
import Derived.Test.YtmeodgcnnjkilaaCollect
import Derived.Test.YtmeodgcnnjkilaaHasGlob
import Derived.Test.YtmeodgcnnjkilaaSpecGlob
import Derived.Test.YtmeodgcnnjkilaaSpecMatch
import Derived.Laws.IdiomStrings
namespace Go.Proofs.Ytmeodgcnnjkilaa
open Go.RowKit

set_option maxHeartbeats 400000 in
theorem anyBytes_any (m : Int) (w : World) : Calls Try.prog 88 #[.int .i32 m] w fun e w' => e = .returned (.bool (anyB m)) ∧ w = w' := by
  go_enter Try.func88, Try.ntmps88
  go_wp2
  go_ret
  exact ⟨rfl, rfl⟩

set_option maxHeartbeats 400000 in
theorem anyParts_any (x : ByteArray) (w : World) : Calls Try.prog 78 #[.string x] w fun e w' => e = .returned (.bool (anyS x)) ∧ w = w' := by
  go_enter Try.func78, Try.ntmps78
  go_wp2
  go_ret
  exact ⟨rfl, rfl⟩

set_option maxHeartbeats 400000 in
theorem matchByte_any (m r : Int) (w : World) : Calls Try.prog 89 #[.int .i32 m, .int .i32 r] w fun e w' => e = .returned (.bool (oneB m r)) ∧ w = w' := by
  by_cases h : m = 63
  · have hb : (m == 63) = true := by simp [h]
    go_enter Try.func89, Try.ntmps89
    go_wp2
    go_ret
    exact ⟨retB (by simp [oneB, h]), rfl⟩
  · have hb : (m == 63) = false := by simp [h]
    go_enter Try.func89, Try.ntmps89
    go_wp2
    go_ret
    exact ⟨retB (by simp [oneB, h]), rfl⟩

def Ascii (l : List UInt8) : Prop := ∀ c ∈ l, c.toNat < 128

theorem runesFrom_ascii (s : ByteArray) (h : Ascii s.data.toList) : ∀ (b i : Nat) (acc : Array Value), i + b = s.size → Conv.runesFrom s b i acc = acc ++ ((nums (s.data.toList.drop i)).map (Value.int .i32)).toArray
  | 0, i, acc, hi => by
    have : s.data.toList.drop i = [] := List.drop_eq_nil_of_le (by rw [← Lib.size_eq]; omega)
    rw [this]
    simp [Conv.runesFrom, nums]
  | b + 1, i, acc, hi => by
    have hlt : i < s.size := by omega
    have hlt' : i < s.data.toList.length := by rw [← Lib.size_eq]; exact hlt
    have ha : (s[i]'hlt).toNat < 128 := h _ (List.getElem_mem hlt')
    have hd : s.data.toList.drop i = s[i]'hlt :: s.data.toList.drop (i + 1) := List.drop_eq_getElem_cons hlt'
    unfold Conv.runesFrom
    rw [if_pos hlt, decode_ascii s i hlt ha]
    show Conv.runesFrom s b (i + 1) _ = _
    rw [runesFrom_ascii s h b (i + 1) _ (by omega), hd]
    simp [nums, num]

def runesC (w : World) (l : List UInt8) : Array Value :=
  ((nums l).map (Value.int .i32)).toArray ++ Array.replicate (grownCap w (nums l).length 0 21 - (nums l).length) (.int .i32 0)

theorem runesC_at (w : World) (l : List UInt8) (j : Nat) (h : j < (nums l).length) : (runesC w l)[j]? = some (.int .i32 ((nums l)[j]'h)) := by
  unfold runesC
  rw [Array.getElem?_append_left (by simpa using h)]
  simp [h]

set_option maxRecDepth 100000 in
theorem runes_conv (s : ByteArray) (h : Ascii s.data.toList) (hs : s.size ≤ 1000) (w : World) :
    (convert 9 103 (.string s)).run Try.prog w = .ok (.slice (some ⟨w.heap.size, 0, none⟩) (nums s.data.toList).length (grownCap w (nums s.data.toList).length 0 21)) (w.drew.alloc (.cells (runesC w s.data.toList) 21)) := by
  have e := runesFrom_ascii s h s.size 0 #[] (by omega)
  have e' : Conv.runesFrom s s.size 0 #[] = ((nums s.data.toList).map (Value.int .i32)).toArray := by rw [e]; simp
  have hn : (nums s.data.toList).length = s.size := by rw [nums, List.length_map, ← Lib.size_eq]
  have := run_runes_of_string (P := Try.prog) w 9 103 21 s Try.underlying9 Try.underlying103 Try.underlying21 (by rw [e']; simp [hn]; omega)
  rw [this, e']
  simp [runesC]

theorem fnsR (ms ps : List Int) : FnsR anyB oneB 88 89 ms ps :=
  ⟨fun _ _ => by kernel_rfl, fun _ _ _ => by kernel_rfl, anyBytes_any, fun x _ y _ w => (matchByte_any x y w).mono (fun e w' ⟨h1, h2⟩ => ⟨h1, by rw [h2]; exact Below.refl _ _⟩)⟩

set_option maxRecDepth 100000 in
set_option maxHeartbeats 1000000 in
theorem matchPart_any (x y : ByteArray) (hx : Ascii x.data.toList) (hy : Ascii y.data.toList) (sx : x.size ≤ 1000) (sy : y.size ≤ 1000) (w : World) :
    Calls Try.prog 79 #[.string x, .string y] w fun e w' => e = .returned (.bool (oneS x y)) ∧ Below w.heap.size w w' := by
  have hcx := runes_conv x hx sx
  have hcy := runes_conv y hy sy
  have lx : (nums x.data.toList).length ≤ 1000 := by rw [nums, List.length_map, ← Lib.size_eq]; exact sx
  have ly : (nums y.data.toList).length ≤ 1000 := by rw [nums, List.length_map, ← Lib.size_eq]; exact sy
  have hrun := fun cm cp => rowsR_any anyB oneB 88 89 (nums x.data.toList) (nums y.data.toList) (fnsR _ _) w.heap.size 0 cm (w.heap.size + 1) 0 cp ((w.drew.alloc (.cells (runesC w x.data.toList) 21)).drew.alloc (.cells (runesC (w.drew.alloc (.cells (runesC w x.data.toList) 21)) y.data.toList) 21)) lx ly (fun i hi => by
      rw [Nat.zero_add]
      have h1 : (w.drew.alloc (.cells (runesC w x.data.toList) 21)).cell? ⟨w.heap.size, i, none⟩ = some (.int .i32 ((nums x.data.toList)[i]'hi)) := by
        rw [show w.heap.size = w.drew.heap.size from rfl, World.cell?_alloc_new]; exact runesC_at w _ i hi
      rw [World.cell?_alloc_lt _ _ _ (by simp)]
      exact h1) (fun i hi => by
      rw [Nat.zero_add]
      rw [show w.heap.size + 1 = ((w.drew.alloc (.cells (runesC w x.data.toList) 21)).drew).heap.size by simp, World.cell?_alloc_new]
      exact runesC_at _ _ i hi)
  go_enter Try.func79, Try.ntmps79
  go_wp2_with fail
  refine Calls.mono (hrun _ _) ?_
  rintro e w' ⟨rfl, hb⟩
  go_wp2
  go_ret
  have hb0 : Below w.heap.size w ((w.drew.alloc (.cells (runesC w x.data.toList) 21)).drew.alloc (.cells (runesC (w.drew.alloc (.cells (runesC w x.data.toList) 21)) y.data.toList) 21)) :=
    ((((Below.refl _ w).drew).alloc (Nat.le_refl _) _).drew).alloc (by simp) _
  exact ⟨rfl, hb0.trans (hb.mono hb0.size)⟩

/-- The parts of what is a glob, or a path. -/
theorem parts_ok {p : Int → Bool} (hp : ∀ r, p r = true → r < 128) {s : ByteArray} (h : pathOk p s = true) : ∀ x ∈ partsB s, Ascii x.data.toList ∧ x.size ≤ 1000 := by
  intro x hx
  simp only [pathOk, Bool.and_eq_true] at h
  have h1 := List.all_eq_true.1 h.2 x hx
  refine ⟨fun c hc => ?_, by have := partOk_size h1; omega⟩
  simp only [partOk, Bool.and_eq_true] at h1
  have h2 := List.all_eq_true.1 h1.2 c hc
  have := hp _ h2
  omega
theorem globB_low (r : Int) (h : globB r = true) : r < 128 := by
  by_cases h1 : 128 ≤ r
  · rw [globB_high r h1] at h; cases h
  · omega
theorem pathB_low (r : Int) (h : pathB r = true) : r < 128 := by
  by_cases h1 : 128 ≤ r
  · rw [pathB_high r h1] at h; cases h
  · omega

theorem fnsS (ms ps : List ByteArray) (hm : ∀ x ∈ ms, Ascii x.data.toList ∧ x.size ≤ 1000) (hp : ∀ x ∈ ps, Ascii x.data.toList ∧ x.size ≤ 1000) : FnsS anyS oneS 78 79 ms ps :=
  ⟨fun _ _ => by kernel_rfl, fun _ _ _ => by kernel_rfl, anyParts_any, fun x hx y hy w => matchPart_any x y (hm x hx).1 (hp y hy).1 (hm x hx).2 (hp y hy).2 w⟩

/-- Whether a glob matches a path. -/
def matchS (g p : ByteArray) : Bool := pathOk globB g && pathOk pathB p && mat anyS oneS (partsB g) (partsB p)

theorem partsB_pos (s : ByteArray) : 0 < (partsB s).length := by
  rw [partsB, List.length_map]
  exact List.length_pos_iff.2 (splitS_ne _)

def MPost (g p : ByteArray) (w : World) (e : Ending) (w' : World) : Prop := e = .returned (.bool (matchS g p)) ∧ Below w.heap.size w w'

set_option maxRecDepth 100000 in
set_option maxHeartbeats 4000000 in
theorem implMatch_any (g p : ByteArray) (hg : g.size ≤ 1099511627776) (hp : p.size ≤ 1099511627776) (w : World) :
    Calls Try.prog 62 #[.string g, .string p] w fun e w' => MPost g p w e w' := by
  have hvg := implGlob_any g hg w
  cases h1 : pathOk globB g with
  | false =>
    have hres : matchS g p = false := by simp [matchS, h1]
    go_enter Try.func62, Try.ntmps62
    go_wp2_with fail
    refine hvg.mono ?_
    rintro e w1 ⟨rfl, hb1⟩
    rw [h1]
    go_wp2
    go_ret
    exact ⟨retB hres.symm, hb1⟩
  | true =>
    cases h2 : pathOk pathB p with
    | false =>
      have hres : matchS g p = false := by simp [matchS, h2]
      go_enter Try.func62, Try.ntmps62
      go_wp2_with fail
      refine hvg.mono ?_
      rintro e w1 ⟨rfl, hb1⟩
      rw [h1]
      go_wp2_with fail
      refine (implPath_any p hp w1).mono ?_
      rintro e w2 ⟨rfl, hb2⟩
      rw [h2]
      go_wp2
      go_ret
      exact ⟨retB hres.symm, hb1.trans (hb2.mono hb1.size)⟩
    | true =>
      have HR : Keep (matchS g p = mat anyS oneS (partsB g) (partsB p)) := ⟨by simp [matchS, h1, h2]⟩
      have sg := pathOk_size h1
      have sp := pathOk_size h2
      have hF := fnsS (partsB g) (partsB p) (parts_ok globB_low h1) (parts_ok pathB_low h2)
      have ng : (partsB g).length ≤ 1000 := by have := partsB_le g; omega
      have np : (partsB p).length ≤ 1000 := by have := partsB_le p; omega
      have zg := partsB_pos g
      have zp := partsB_pos p
      go_enter Try.func62, Try.ntmps62
      go_wp2_with fail
      refine hvg.mono ?_
      rintro e w1 ⟨rfl, hb1⟩
      rw [h1]
      go_wp2_with fail
      refine (implPath_any p hp w1).mono ?_
      rintro e w2 ⟨rfl, hb2⟩
      rw [h2]
      have hx2 := hb1.trans (hb2.mono hb1.size)
      clear hb1 hb2 hvg h1 h2
      go_wp2_with fail
      refine (partsOf_any g w2).mono ?_
      rintro e w3 ⟨rfl, rfl⟩
      go_wp2_with fail
      refine (collect_any w2.heap.size g (by omega) _ (by simp) (cell_new1 w2 (.string g) 9).1).mono ?_
      rintro e w3 ⟨ag, cg, rfl, og, hb3⟩
      have hx3 := (hx2.alloc hx2.size (.cells #[.string g] 9)).trans (hb3.mono (by have := hx2.size; simp; omega))
      clear hx2 hb3
      go_wp2_with fail
      refine (partsOf_any p w3).mono ?_
      rintro e w4 ⟨rfl, rfl⟩
      go_wp2_with fail
      refine (collect_any w3.heap.size p (by omega) _ (by simp) (cell_new1 w3 (.string p) 9).1).mono ?_
      rintro e w4 ⟨ap, cp, rfl, op, hb4⟩
      have hx4 := (hx3.alloc hx3.size (.cells #[.string p] 9)).trans (hb4.mono (by have := hx3.size; simp; omega))
      have og4 := owns_below (og.alloc (.cells #[.string p] 9)) hb4
      clear hx3 hb4 og
      obtain ⟨bg, rfl, _⟩ := own_cell og4 0 zg
      obtain ⟨bp, rfl, _⟩ := own_cell op 0 zp
      have hm : ∀ i (h : i < (partsB g).length), w4.cell? ⟨bg, 0 + i, none⟩ = some (.string (partsB g)[i]) := fun i hi => by
        obtain ⟨b', e, h⟩ := own_cell og4 i hi
        cases e; rw [Nat.zero_add]; exact h
      have hq : ∀ i (h : i < (partsB p).length), w4.cell? ⟨bp, 0 + i, none⟩ = some (.string (partsB p)[i]) := fun i hi => by
        obtain ⟨b', e, h⟩ := own_cell op i hi
        cases e; rw [Nat.zero_add]; exact h
      have hrun := rowsS_any anyS oneS 78 79 (partsB g) (partsB p) hF bg 0 cg bp 0 cp w4 ng np hm hq
      clear hm hq og4 op hF
      go_wp2_with fail
      refine hrun.mono ?_
      rintro e w5 ⟨rfl, hb5⟩
      go_wp2
      go_ret
      exact ⟨retB HR.out.symm, hx4.trans (hb5.mono hx4.size)⟩

theorem rd_own {w : World} {B : Nat} {ad : Option Addr} {cp : Nat} {ss : List ByteArray} (h : w.ownsRow B 9 1 (.slice ad ss.length cp) ss.length (ss.map .string)) : RdS w (.slice ad ss.length cp) ss := by
  refine ⟨ad, cp, rfl, ?_, ?_⟩
  · rcases h.2 with ⟨h1, h2⟩ | ⟨g, cap, cur, hv, h1, h2, h3, h4, h5, h6⟩
    · omega
    · cases hv; exact h3
  · cases hs : ss with
    | nil => exact .inl rfl
    | cons x xs =>
      right
      rw [← hs]
      obtain ⟨b, rfl, _⟩ := own_cell h 0 (by rw [hs]; simp)
      refine ⟨b, 0, rfl, fun i hi => ?_⟩
      obtain ⟨b', e, hc⟩ := own_cell h i hi
      cases e
      rw [Nat.zero_add]; exact hc

set_option maxRecDepth 100000 in
set_option maxHeartbeats 4000000 in
theorem specMatch_any (g p : ByteArray) (w : World) :
    Calls Try.prog 44 #[.string g, .string p] w fun e w' => MPost g p w e w' := by
  have hvg := specGlob_any g w
  cases h1 : pathOk globB g with
  | false =>
    have hres : matchS g p = false := by simp [matchS, h1]
    go_enter Try.func44, Try.ntmps44
    go_wp2_with fail
    refine hvg.mono ?_
    rintro e w1 ⟨rfl, hb1⟩
    rw [h1]
    go_wp2
    go_ret
    exact ⟨retB hres.symm, hb1⟩
  | true =>
    cases h2 : pathOk pathB p with
    | false =>
      have hres : matchS g p = false := by simp [matchS, h2]
      go_enter Try.func44, Try.ntmps44
      go_wp2_with fail
      refine hvg.mono ?_
      rintro e w1 ⟨rfl, hb1⟩
      rw [h1]
      go_wp2_with fail
      refine (specPath_any p w1).mono ?_
      rintro e w2 ⟨rfl, hb2⟩
      rw [h2]
      go_wp2
      go_ret
      exact ⟨retB hres.symm, hb1.trans (hb2.mono hb1.size)⟩
    | true =>
      have HR : Keep (matchS g p = mat anyS oneS (partsB g) (partsB p)) := ⟨by simp [matchS, h1, h2]⟩
      have sg := pathOk_size h1
      have sp := pathOk_size h2
      go_enter Try.func44, Try.ntmps44
      go_wp2_with fail
      refine hvg.mono ?_
      rintro e w1 ⟨rfl, hb1⟩
      rw [h1]
      go_wp2_with fail
      refine (specPath_any p w1).mono ?_
      rintro e w2 ⟨rfl, hb2⟩
      rw [h2]
      have hx2 := hb1.trans (hb2.mono hb1.size)
      clear hb1 hb2 hvg h1 h2
      go_wp2_with fail
      refine (l4Parts_any g (by omega) w2).mono ?_
      rintro e w3 ⟨ag, cg, rfl, og, hb3⟩
      have hx3 := hx2.trans (hb3.mono hx2.size)
      clear hx2 hb3
      go_wp2_with fail
      refine (l4Parts_any p (by omega) w3).mono ?_
      rintro e w4 ⟨ap, cp, rfl, op, hb4⟩
      have hx4 := hx3.trans (hb4.mono hx3.size)
      have og4 := owns_below og hb4
      have hrun := l4Match_any ((partsB g).length + (partsB p).length + 1) (partsB g) (partsB p) _ _ w4 (by omega) (rd_own og4) (rd_own op)
      clear hx3 hb4 og og4 op
      go_wp2_with fail
      refine hrun.mono ?_
      rintro e w5 ⟨rfl, k, rfl⟩
      go_wp2
      go_ret
      exact ⟨retB HR.out.symm, hx4.trans ⟨rfl, rfl, rfl, Nat.le_refl _, fun _ _ => rfl⟩⟩
end Go.Proofs.Ytmeodgcnnjkilaa
