/-
  Slices of atoms ('AS w a ts'), and the laws' helpers over values: szValue, toValue, eqValue.
-/
import Derived.Test.YtdjpohkionapiaaRows
import Derived.Test.YtdjpohkionapiaaValPlain
import Derived.WalkKit
import Derived.WalkSpells
import Derived.WalkLawsBesides
import Derived.Deep.Light
import Derived.Deep.QuietTactic
import Derived.BigQuiet
import Derived.Deep.RegionWith
namespace Go.Proofs.Ytdjpohkionapiaa
open Go.RowKit

def At.cells (a : At) : List Value := [.int .i64 a.kind, .int .i64 a.n, .string a.text, .int .i64 a.kids]
def At.val (a : At) : Value := .agg #[.int .i64 a.kind, .int .i64 a.n, .string a.text, .int .i64 a.kids]

/-- The slice at address a (whatever where there is no element) holds the atoms ts. -/
def AS (w : World) (a : Option Addr) (ts : List At) : Prop :=
  ts = [] ∨ ∃ b off, a = some ⟨b, off, none⟩ ∧ ∀ i (h : i < ts.length), w.cell? ⟨b, off + i * 4, none⟩ = some (.int .i64 ts[i].kind) ∧ w.cell? ⟨b, off + i * 4 + 1, none⟩ = some (.int .i64 ts[i].n) ∧ w.cell? ⟨b, off + i * 4 + 2, none⟩ = some (.string ts[i].text) ∧ w.cell? ⟨b, off + i * 4 + 3, none⟩ = some (.int .i64 ts[i].kids)

theorem AS.below {w w' : World} {a : Option Addr} {ts : List At} (h : AS w a ts) (hb : Below w.heap.size w w') : AS w' a ts := by
  rcases h with h | ⟨b, off, ha, hc⟩
  · exact .inl h
  · exact .inr ⟨b, off, ha, fun i hi => ⟨cell_later hb (hc i hi).1, cell_later hb (hc i hi).2.1, cell_later hb (hc i hi).2.2.1, cell_later hb (hc i hi).2.2.2⟩⟩

theorem AS.set_other {w : World} {g : Nat} {ts : List At} (h : AS w (some ⟨g, 0, none⟩) ts) {p : Addr} {u : Value} (hp : p.block ≠ g) : AS (w.setCell p u) (some ⟨g, 0, none⟩) ts := by
  rcases h with h | ⟨b, off, ha, hc⟩
  · exact .inl h
  · simp at ha
    obtain ⟨rfl, rfl⟩ := ha
    have hne : ∀ o, p ≠ ⟨g, o, none⟩ := fun o e => hp (by rw [e])
    exact .inr ⟨_, 0, rfl, fun i hi => ⟨by rw [World.cell?_setCell_other _ _ _ _ (hne _)]; exact (hc i hi).1, by rw [World.cell?_setCell_other _ _ _ _ (hne _)]; exact (hc i hi).2.1, by rw [World.cell?_setCell_other _ _ _ _ (hne _)]; exact (hc i hi).2.2.1, by rw [World.cell?_setCell_other _ _ _ _ (hne _)]; exact (hc i hi).2.2.2⟩⟩

theorem AS.at {w : World} {a : Option Addr} {ts : List At} (h : AS w a ts) {k : Nat} (hk : k < ts.length) :
    ∃ b off, a = some ⟨b, off, none⟩ ∧ ∀ i (h : i < ts.length), w.cell? ⟨b, off + i * 4, none⟩ = some (.int .i64 ts[i].kind) ∧ w.cell? ⟨b, off + i * 4 + 1, none⟩ = some (.int .i64 ts[i].n) ∧ w.cell? ⟨b, off + i * 4 + 2, none⟩ = some (.string ts[i].text) ∧ w.cell? ⟨b, off + i * 4 + 3, none⟩ = some (.int .i64 ts[i].kids) := by
  rcases h with h | h
  · subst h; simp at hk
  · exact h

def totalA (ts : List At) : Nat := (ts.map fun a => a.text.size).sum
theorem totalA_take (ts : List At) (k : Nat) (h : k < ts.length) : totalA (ts.take (k + 1)) = totalA (ts.take k) + ts[k].text.size := by
  rw [List.take_succ_eq_append_getElem h]; simp only [totalA, List.map_append, List.sum_append]; simp
theorem size_le_totalA (ts : List At) (a : At) (h : a ∈ ts) : a.text.size ≤ totalA ts := by
  induction ts with
  | nil => simp at h
  | cons x l ih =>
    simp only [totalA, List.map_cons, List.sum_cons] at ih ⊢
    rcases List.mem_cons.1 h with rfl | h
    · omega
    · have := ih h; omega

set_option maxRecDepth 20000 in
set_option maxHeartbeats 1000000 in
theorem szAtom_any (a : At) (L : Int) (w : World) (hL : 0 ≤ L ∧ L ≤ 1048576) (hm : a.text.size ≤ maxLen) :
    Calls Try.prog 20 #[.agg #[.int .i64 a.kind, .int .i64 a.n, .string a.text, .int .i64 a.kids], .int .i64 L] w fun e w' => e = .returned (.int .i64 (if L - a.text.size < 0 then -1 else L - a.text.size)) ∧ Below w.heap.size w w' := by
  unfold maxLen at hm
  by_cases h : L - a.text.size < 0
  · rw [if_pos h]
    go_enter Try.func20, Try.ntmps20
    go_wp2
    go_ret
    exact ⟨rfl, (Below.refl _ _).alloc (Nat.le_refl _) _⟩
  · rw [if_neg h]
    go_enter Try.func20, Try.ntmps20
    go_wp2
    go_ret
    exact ⟨rfl, (Below.refl _ _).alloc (Nat.le_refl _) _⟩

set_option maxRecDepth 20000 in
set_option maxHeartbeats 1000000 in
theorem szAtomS_any (a : Option Addr) (cap : Nat) (ts : List At) (w : World) (hss : AS w a ts) (hn : ts.length ≤ maxLen) (hm : ∀ s ∈ ts, s.text.size ≤ maxLen) :
    Calls Try.prog 12 #[.slice a ts.length cap, .int .i64 1048576] w fun e w' => ∃ r : Int, e = .returned (.int .i64 r) ∧ Below w.heap.size w w' ∧ ((r = -1) ∨ (0 ≤ r ∧ ts.length + totalA ts ≤ 1048576)) := by
  unfold maxLen at hn
  by_cases h0 : (1048576 : Int) - ts.length < 0
  · go_enter Try.func12, Try.ntmps12
    go_wp2
    go_ret
    exact ⟨-1, rfl, Below.refl _ _, .inl rfl⟩
  · go_enter Try.func12, Try.ntmps12
    go_wp2
    go_loopw [1, 5] (fun l i wr => ∃ k : Nat, k ≤ ts.length ∧ i = .int .i64 k ∧ l = .int .i64 ((1048576 : Int) - ts.length - totalA (ts.take k)) ∧ ts.length + totalA (ts.take k) ≤ 1048576 ∧ Below w.heap.size w wr) (fun _ i _ => ts.length - (intOf i).toNat)
    case atStart => exact ⟨0, Nat.zero_le _, rfl, by simp [totalA], by simp [totalA]; omega, Below.refl _ _⟩
    case round =>
      obtain ⟨k, hk, rfl, rfl, hle, hb⟩ := hrel
      by_cases hlt : k < ts.length
      · obtain ⟨b, off, rfl, hc⟩ := (hss.below hb).at hlt
        obtain ⟨c0, c1, c2, c3⟩ := hc k hlt
        have HT : Hid (totalA (ts.take (k + 1)) = totalA (ts.take k) + ts[k].text.size) := totalA_take ts k hlt
        have hsz := hm ts[k] (List.getElem_mem hlt)
        generalize totalA (ts.take k) = t at *
        clear hc
        go_wp2_with fail
        refine (szAtom_any ts[k] _ _ (by omega) hsz).mono ?_
        rintro e w1 ⟨rfl, hb1⟩
        by_cases hneg : (1048576 : Int) - ts.length - t - ts[k].text.size < 0
        · rw [if_pos hneg]
          go_wp2
          go_ret
          exact ⟨-1, rfl, hb.trans (hb1.mono hb.size), .inl rfl⟩
        · rw [if_neg hneg]
          go_wp2
          go_roundw
          case rel => exact ⟨k + 1, by omega, by go_num, by rw [HT.out]; go_num, by rw [HT.out]; omega, hb.trans (hb1.mono hb.size)⟩
          case measure => simp [intOf]; omega
      · obtain rfl : k = ts.length := by omega
        go_wp2
        go_ret
        rw [List.take_length] at *
        exact ⟨_, rfl, hb, .inr ⟨by omega, hle⟩⟩

set_option maxRecDepth 20000 in
set_option maxHeartbeats 1000000 in
theorem szValue_any (a : Option Addr) (cap : Nat) (ts : List At) (w : World) (hss : AS w a ts) (hn : ts.length ≤ maxLen) (hm : ∀ s ∈ ts, s.text.size ≤ maxLen) :
    Calls Try.prog 5 #[.agg #[.slice a ts.length cap], .int .i64 1048576] w fun e w' => ∃ r : Int, e = .returned (.int .i64 r) ∧ Below w.heap.size w w' ∧ ((r = -1) ∨ (0 ≤ r ∧ ts.length + totalA ts ≤ 1048576)) := by
  go_enter Try.func5, Try.ntmps5
  go_wp2_with fail
  refine (szAtomS_any a cap ts _ (hss.below ((Below.refl _ _).alloc (Nat.le_refl _) _)) hn hm).mono ?_
  rintro e w1 ⟨r, rfl, hb, hr⟩
  have hb0 : Below w.heap.size w w1 := ((Below.refl _ _).alloc (Nat.le_refl _) _).trans (hb.mono (by simp))
  rcases hr with rfl | ⟨h0, h1⟩
  · go_wp2
    go_ret
    exact ⟨-1, rfl, hb0, .inl rfl⟩
  · go_wp2
    go_ret
    exact ⟨r, rfl, hb0, .inr ⟨h0, h1⟩⟩

set_option maxRecDepth 20000 in
set_option maxHeartbeats 1000000 in
theorem toAtom_any (a : At) (w : World) :
    Calls Try.prog 21 #[.agg #[.int .i64 a.kind, .int .i64 a.n, .string a.text, .int .i64 a.kids]] w fun e w' => e = .returned (.agg #[.int .i64 a.kind, .int .i64 a.n, .string a.text, .int .i64 a.kids]) ∧ Below w.heap.size w w' := by
  go_enter Try.func21, Try.ntmps21
  go_wp2
  refine bodyPost_ret (v := .agg #[.int .i64 a.kind, .int .i64 a.n, .string a.text, .int .i64 a.kids]) ?_ rfl ⟨rfl, ?_⟩
  · go_light
    simp [results, Try.results21, go_sem]
  · exact (((Below.refl _ _).alloc (Nat.le_refl _) _).alloc (by simp) _).alloc (by simp; omega) _

theorem Try.infoAtom : (Try.prog.info? 41).map (fun i => (i.zero, i.size, i.bytes)) = some (some (.agg #[.int .i64 0, .int .i64 0, .string ⟨#[]⟩, .int .i64 0]), 4, 40) := by kernel_rfl

theorem wsame {w : World} {a : Addr} {v u : Value} (h : w.cell? a = some u) : (w.setCell a v).cell? a = some v := World.cell?_setCell_same w a v h
theorem wother {w : World} {a b : Addr} {v : Value} (h : a ≠ b) : (w.setCell a v).cell? b = w.cell? b := World.cell?_setCell_other w a b v h

def set4 (w : World) (g o : Nat) (v0 v1 v2 v3 : Value) : World := (((w.setCell ⟨g, o, none⟩ v0).setCell ⟨g, o + 1, none⟩ v1).setCell ⟨g, o + 2, none⟩ v2).setCell ⟨g, o + 3, none⟩ v3
theorem set4_other {w : World} {g o p : Nat} {v0 v1 v2 v3 : Value} (h : p < o ∨ o + 4 ≤ p) : (set4 w g o v0 v1 v2 v3).cell? ⟨g, p, none⟩ = w.cell? ⟨g, p, none⟩ := by
  unfold set4
  rw [wother (by simp <;> omega), wother (by simp <;> omega), wother (by simp <;> omega), wother (by simp <;> omega)]
theorem set4_hit {w : World} {g o : Nat} {v0 v1 v2 v3 u0 u1 u2 u3 : Value} (h0 : w.cell? ⟨g, o, none⟩ = some u0) (h1 : w.cell? ⟨g, o + 1, none⟩ = some u1) (h2 : w.cell? ⟨g, o + 2, none⟩ = some u2) (h3 : w.cell? ⟨g, o + 3, none⟩ = some u3) :
    (set4 w g o v0 v1 v2 v3).cell? ⟨g, o, none⟩ = some v0 ∧ (set4 w g o v0 v1 v2 v3).cell? ⟨g, o + 1, none⟩ = some v1 ∧ (set4 w g o v0 v1 v2 v3).cell? ⟨g, o + 2, none⟩ = some v2 ∧ (set4 w g o v0 v1 v2 v3).cell? ⟨g, o + 3, none⟩ = some v3 := by
  have k1 : (w.setCell ⟨g, o, none⟩ v0).cell? ⟨g, o + 1, none⟩ = some u1 := by rw [wother (by simp)]; exact h1
  have k2 : ((w.setCell ⟨g, o, none⟩ v0).setCell ⟨g, o + 1, none⟩ v1).cell? ⟨g, o + 2, none⟩ = some u2 := by rw [wother (by simp), wother (by simp)]; exact h2
  have k3 : (((w.setCell ⟨g, o, none⟩ v0).setCell ⟨g, o + 1, none⟩ v1).setCell ⟨g, o + 2, none⟩ v2).cell? ⟨g, o + 3, none⟩ = some u3 := by rw [wother (by simp), wother (by simp), wother (by simp)]; exact h3
  unfold set4
  refine ⟨?_, ?_, ?_, wsame k3⟩
  · rw [wother (by simp), wother (by simp), wother (by simp)]; exact wsame h0
  · rw [wother (by simp), wother (by simp)]; exact wsame k1
  · rw [wother (by simp)]; exact wsame k2
theorem set4_frozen {w : World} {g o : Nat} {v0 v1 v2 v3 : Value} (a : Addr) : (set4 w g o v0 v1 v2 v3).frozen? a = w.frozen? a := by
  unfold set4; simp only [World.frozen?_setCell]
theorem set4_below {w w0 : World} {B g o : Nat} {v0 v1 v2 v3 : Value} (h : Below B w0 w) (hg : B ≤ g) : Below B w0 (set4 w g o v0 v1 v2 v3) :=
  (((h.setCell hg _).setCell hg _).setCell hg _).setCell hg _

set_option maxRecDepth 20000 in
set_option maxHeartbeats 1000000 in
theorem toAtomS_any (a : Option Addr) (cap : Nat) (ts : List At) (w : World) (hss : AS w a ts) (hn : ts.length ≤ 1048576) :
    Calls Try.prog 16 #[.slice a ts.length cap] w fun e w' => e = .returned (.slice (some ⟨w.heap.size, 0, none⟩) ts.length ts.length) ∧ AS w' (some ⟨w.heap.size, 0, none⟩) ts ∧ Below w.heap.size w w' := by
  obtain ⟨i0, hi, hz0, hz1, hz2⟩ := info_parts Try.infoAtom
  go_enter Try.func16, Try.ntmps16
  go_wp2_with (at_make; refine wpList_make_full _ rfl _ _ 27 rfl w.heap.size 41 i0 _ 4 Try.underlying27 hi hz0 hz1 .i64 .i64 _ _ ts.length rfl rfl rfl rfl (by rw [hz2]; omega) (by unfold maxLen; omega) (Nat.le_refl _) ?_; intro w1 hown1 hgrow1)
  go_loopw [4] (fun i wr => ∃ k : Nat, k ≤ ts.length ∧ i = .int .i64 k ∧ (∀ j, j < ts.length * 4 → ∃ u, wr.cell? ⟨w.heap.size, j, none⟩ = some u) ∧ (∀ j, wr.frozen? ⟨w.heap.size, j, none⟩ = false) ∧ (∀ i (h : i < ts.length), i < k → wr.cell? ⟨w.heap.size, 0 + i * 4, none⟩ = some (.int .i64 ts[i].kind) ∧ wr.cell? ⟨w.heap.size, 0 + i * 4 + 1, none⟩ = some (.int .i64 ts[i].n) ∧ wr.cell? ⟨w.heap.size, 0 + i * 4 + 2, none⟩ = some (.string ts[i].text) ∧ wr.cell? ⟨w.heap.size, 0 + i * 4 + 3, none⟩ = some (.int .i64 ts[i].kids)) ∧ Below w.heap.size w wr ∧ w.heap.size < wr.heap.size) (fun i _ => ts.length - (intOf i).toNat)
  case atStart =>
    refine ⟨0, Nat.zero_le _, rfl, fun j hj => ?_, fun j => hown1.frozenAt j, fun i h hi => absurd hi (by omega), (Below.refl _ _).grown hgrow1 (Nat.le_refl _) (fun k hk => by cases hk), ?_⟩
    · rw [hown1.cellAt j hj]
      exact ⟨_, List.getElem?_eq_getElem (by rw [hown1.1]; exact hj)⟩
    · rcases hown1.2 with ⟨h, _⟩ | ⟨g, c, cur, h, _, hg, _⟩
      · simp at h
      · simp at h
        obtain ⟨rfl, _⟩ := h
        exact (Array.getElem?_eq_some_iff.1 hg).1
  case round =>
    obtain ⟨k, hk, rfl, hsome, hfr, hdone, hb, hsz⟩ := hrel
    clear hown1 hgrow1
    by_cases hlt : k < ts.length
    · obtain ⟨b, off, rfl, hc⟩ := (hss.below hb).at hlt
      obtain ⟨c0, c1, c2, c3⟩ := hc k hlt
      clear hc
      go_wp2_with fail
      refine (toAtom_any ts[k] _).mono ?_
      rintro e w2 ⟨rfl, hb2⟩
      obtain ⟨u0, e0⟩ := hsome (k * 4) (by omega)
      obtain ⟨u1, e1⟩ := hsome (k * 4 + 1) (by omega)
      obtain ⟨u2, e2⟩ := hsome (k * 4 + 2) (by omega)
      obtain ⟨u3, e3⟩ := hsome (k * 4 + 3) (by omega)
      have e0 := cell_later hb2 e0
      have e1 := cell_later hb2 e1
      have e2 := cell_later hb2 e2
      have e3 := cell_later hb2 e3
      have f : ∀ j, w2.frozen? ⟨w.heap.size, j, none⟩ = false := fun j => by rw [hb2.frozen (p := ⟨w.heap.size, j, none⟩) hsz]; exact hfr j
      have HS : Hid (∀ j, j < ts.length * 4 → ∃ u, w2.cell? ⟨w.heap.size, j, none⟩ = some u) := fun j hj => (hsome j hj).imp fun u hu => cell_later hb2 hu
      have HD : Hid (∀ i (h : i < ts.length), i < k → w2.cell? ⟨w.heap.size, 0 + i * 4, none⟩ = some (.int .i64 ts[i].kind) ∧ w2.cell? ⟨w.heap.size, 0 + i * 4 + 1, none⟩ = some (.int .i64 ts[i].n) ∧ w2.cell? ⟨w.heap.size, 0 + i * 4 + 2, none⟩ = some (.string ts[i].text) ∧ w2.cell? ⟨w.heap.size, 0 + i * 4 + 3, none⟩ = some (.int .i64 ts[i].kids)) := fun i h hi => ⟨cell_later hb2 (hdone i h hi).1, cell_later hb2 (hdone i h hi).2.1, cell_later hb2 (hdone i h hi).2.2.1, cell_later hb2 (hdone i h hi).2.2.2⟩
      clear hsome hdone c0 c1 c2 c3 hfr
      go_wp2
      have hit := set4_hit (v0 := .int .i64 ts[k].kind) (v1 := .int .i64 ts[k].n) (v2 := .string ts[k].text) (v3 := .int .i64 ts[k].kids) e0 e1 e2 e3
      go_roundw
      case rel =>
        refine ⟨k + 1, by omega, by go_num, ?_, ?_, ?_, set4_below (hb.trans (hb2.mono hb.size)) (Nat.le_refl _), ?_⟩
        · intro j hj
          by_cases hjk : j < k * 4 ∨ k * 4 + 4 ≤ j
          · obtain ⟨u, hu⟩ := HS.out j hj
            exact ⟨u, (set4_other hjk).trans hu⟩
          · rcases (show j = k * 4 ∨ j = k * 4 + 1 ∨ j = k * 4 + 2 ∨ j = k * 4 + 3 by omega) with rfl | rfl | rfl | rfl
            · exact ⟨_, hit.1⟩
            · exact ⟨_, hit.2.1⟩
            · exact ⟨_, hit.2.2.1⟩
            · exact ⟨_, hit.2.2.2⟩
        · intro j; exact (set4_frozen _).trans (f j)
        · intro i hi hik
          by_cases hx : i = k
          · subst hx
            simp only [Nat.zero_add]
            exact hit
          · obtain ⟨d0, d1, d2, d3⟩ := HD.out i hi (by omega)
            exact ⟨(set4_other (by omega)).trans d0, (set4_other (by omega)).trans d1, (set4_other (by omega)).trans d2, (set4_other (by omega)).trans d3⟩
        · have := hb2.size
          simp [World.setCell]
          omega
      case measure => simp [intOf]; omega
    · obtain rfl : k = ts.length := by omega
      go_wp2
      go_ret
      exact ⟨rfl, .inr ⟨_, 0, rfl, fun i hi => hdone i hi hi⟩, hb⟩

set_option maxRecDepth 20000 in
set_option maxHeartbeats 1000000 in
theorem toValue_any (a : Option Addr) (cap : Nat) (ts : List At) (w : World) (hss : AS w a ts) (hn : ts.length ≤ 1048576) :
    Calls Try.prog 7 #[.agg #[.slice a ts.length cap]] w fun e w' => ∃ g, e = .returned (.agg #[.slice (some ⟨g, 0, none⟩) ts.length ts.length]) ∧ AS w' (some ⟨g, 0, none⟩) ts ∧ Below w.heap.size w w' ∧ w.heap.size ≤ g := by
  go_enter Try.func7, Try.ntmps7
  go_wp2_with fail
  refine (toAtomS_any a cap ts _ (hss.below ((((Below.refl _ _).alloc (Nat.le_refl _) _).alloc (by simp) _).alloc (by simp; omega) _)) hn).mono ?_
  rintro e w1 ⟨rfl, hs1, hb1⟩
  have hz := hb1.size
  have d2 := hb1.cell (p := ⟨w.heap.size + 1 + 1, 0, none⟩) (by simp)
  have d1 := hb1.cell (p := ⟨w.heap.size + 1, 0, none⟩) (by simp)
  have f2 := hb1.frozen (p := ⟨w.heap.size + 1 + 1, 0, none⟩) (by simp)
  have f1 := hb1.frozen (p := ⟨w.heap.size + 1, 0, none⟩) (by simp)
  simp [go_sem] at d1 d2 f1 f2 hz
  have hb0 : Below w.heap.size w w1 := ((((Below.refl _ _).alloc (Nat.le_refl _) _).alloc (by simp) _).alloc (by simp; omega) _).trans (hb1.mono (by simp; omega))
  go_wp2
  refine bodyPost_ret (v := .agg #[.slice (some ⟨w.heap.size + 1 + 1 + 1, 0, none⟩) ts.length ts.length]) ?_ rfl ⟨w.heap.size + 1 + 1 + 1, rfl, ?_, ?_, by omega⟩
  · go_light
    simp [results, Try.results7, go_sem, d1]
  · simp at hs1
    exact hs1.set_other (by simp) |>.set_other (by simp)
  · exact (hb0.setCell (by simp; omega) _).setCell (by simp) _

set_option maxRecDepth 20000 in
set_option maxHeartbeats 1000000 in
theorem eqAtom_any (a : At) (w : World) :
    Calls Try.prog 23 #[.agg #[.int .i64 a.kind, .int .i64 a.n, .string a.text, .int .i64 a.kids], .agg #[.int .i64 a.kind, .int .i64 a.n, .string a.text, .int .i64 a.kids]] w fun e w' => e = .returned (.bool true) ∧ Below w.heap.size w w' := by
  go_enter Try.func23, Try.ntmps23
  go_wp2
  go_ret
  exact ⟨rfl, ((Below.refl _ _).alloc (Nat.le_refl _) _).alloc (by simp) _⟩

set_option maxRecDepth 20000 in
set_option maxHeartbeats 1000000 in
theorem eqAtomS_any (a a' : Option Addr) (cap cap' : Nat) (ts : List At) (w : World) (hss : AS w a ts) (hss' : AS w a' ts) (hn : ts.length ≤ 1048576) :
    Calls Try.prog 18 #[.slice a ts.length cap, .slice a' ts.length cap'] w fun e w' => e = .returned (.bool true) ∧ Below w.heap.size w w' := by
  go_enter Try.func18, Try.ntmps18
  go_wp2
  go_loopw [5] (fun i wr => ∃ k : Nat, k ≤ ts.length ∧ i = .int .i64 k ∧ Below w.heap.size w wr) (fun i _ => ts.length - (intOf i).toNat)
  case atStart => exact ⟨0, Nat.zero_le _, rfl, Below.refl _ _⟩
  case round =>
    obtain ⟨k, hk, rfl, hb⟩ := hrel
    by_cases hlt : k < ts.length
    · obtain ⟨b, off, rfl, hc⟩ := (hss.below hb).at hlt
      obtain ⟨b', off', rfl, hc'⟩ := (hss'.below hb).at hlt
      obtain ⟨c0, c1, c2, c3⟩ := hc k hlt
      obtain ⟨d0, d1, d2, d3⟩ := hc' k hlt
      clear hc hc'
      go_wp2
      go_region_with (go_at_call 23; refine (eqAtom_any ts[k] _).mono ?_; rintro e w2 ⟨rfl, hb2⟩)
      all_goals go_wp2
      all_goals go_roundw
      all_goals first | exact ⟨k + 1, by omega, by go_num, hb.drew.trans (hb2.mono hb.size)⟩ | (simp [intOf]; omega)
    · obtain rfl : k = ts.length := by omega
      go_wp2
      go_ret
      exact ⟨rfl, hb⟩

set_option maxRecDepth 20000 in
set_option maxHeartbeats 1000000 in
theorem eqValue_any (a a' : Option Addr) (cap cap' : Nat) (ts : List At) (w : World) (hss : AS w a ts) (hss' : AS w a' ts) (hn : ts.length ≤ 1048576) :
    Calls Try.prog 9 #[.agg #[.slice a ts.length cap], .agg #[.slice a' ts.length cap']] w fun e w' => e = .returned (.bool true) ∧ Below w.heap.size w w' := by
  have hb0 : ∀ o1 o2, Below w.heap.size w ((w.alloc o1).alloc o2) := fun o1 o2 => ((Below.refl _ _).alloc (Nat.le_refl _) _).alloc (by simp) _
  go_enter Try.func9, Try.ntmps9
  go_wp2_with fail
  refine (eqAtomS_any a a' cap cap' ts _ (hss.below (hb0 _ _)) (hss'.below (hb0 _ _)) hn).mono ?_
  rintro e w1 ⟨rfl, hb1⟩
  go_wp2
  go_ret
  exact ⟨rfl, (hb0 _ _).trans (hb1.mono (hb0 _ _).size)⟩
end Go.Proofs.Ytdjpohkionapiaa
