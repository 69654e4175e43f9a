/-
  impl.cloneTexts, impl.Feed.
-/
import Derived.Test.YtdlbmjmhlcaalaaSpecDec
import Derived.Laws.AppendOwnNone
namespace Go.Proofs.Ytdlbmjmhlcaalaa
open Go.RowKit

set_option maxRecDepth 20000 in
set_option maxHeartbeats 1000000 in
theorem cloneTexts_any (a : Option Addr) (cap : Nat) (ss : List ByteArray) (w : World) (hss : SS w a ss) (hn : ss.length ≤ 1048576) (hm : ∀ s ∈ ss, s.size ≤ 1048576) :
    Calls Try.prog 34 #[.slice a ss.length cap] w fun e w' => ∃ ad cp, e = .returned (.slice ad ss.length cp) ∧ w'.ownsRow w.heap.size 9 1 (.slice ad ss.length cp) ss.length (ss.map .string) ∧ Below w.heap.size w w' := by
  obtain ⟨i0, hi, hz0, hz1, hz2⟩ := info_parts Try.infoStr
  go_enter Try.func34, Try.ntmps34
  go_wp2
  go_loopw [3, 8] (fun v i wr => ∃ k : Nat, k ≤ ss.length ∧ i = .int .i64 k ∧ wr.ownsRow w.heap.size 9 1 v k ((ss.take k).map .string) ∧ Below w.heap.size w wr) (fun _ i _ => ss.length - (intOf i).toNat)
  case atStart => exact ⟨0, Nat.zero_le _, rfl, ⟨rfl, .inl ⟨rfl, rfl⟩⟩, Below.refl _ _⟩
  case round =>
    obtain ⟨k, hk, rfl, hown, hb⟩ := hrel
    by_cases hlt : k < ss.length
    · obtain ⟨b, off, rfl, hc⟩ := (hss.below hb).at hlt
      have hck := hc k hlt
      have hsz := hm ss[k] (List.getElem_mem hlt)
      have HT : Hid ((ss.take (k + 1)).map Value.string = (ss.take k).map .string ++ [.string ss[k]]) := by
        have : (ss.take (k + 1)).map Value.string = (ss.take k).map .string ++ [.string ss[k]] := by rw [List.take_succ_eq_append_getElem hlt, List.map_append]; rfl
        exact this
      clear hc
      go_wp2_with fail
      refine (clone_any ss[k] wr (by omega)).mono ?_
      rintro e w1 ⟨rfl, hb1⟩
      have hown1 := owns_below hown hb1
      have hbx1 := hb.trans (hb1.mono hb.size)
      have hs1 := hbx1.size
      go_wp2_with (at_builtin; refine wpList_append_own _ rfl _ _ 22 rfl w.heap.size 9 i0 _ 1 16 Try.underlying22 hi hz0 hz1 hz2 rfl (by decide) _ _ _ rfl (hown1.alloc _) ⟨w1.heap.size, 0, none⟩ 1 1 [.string ss[k]] rfl rfl (cell_one_new _ _ _) (by simp [Value.oneCell']) (by unfold maxLen; omega) (by omega) (by simp; omega) ?_; intro v2 w2 hown2 hgrow2 _)
      go_roundw
      case rel =>
        refine ⟨k + 1, by omega, by go_num, by rw [HT.out]; exact hown2, (hbx1.alloc hs1 _).grown hgrow2 (by simp; omega) (owns_base hown1)⟩
      case measure => simp [intOf]; omega
    · obtain rfl : k = ss.length := by omega
      rw [List.take_length] at hown
      obtain ⟨ad, cp, rfl⟩ := owns_slice hown
      go_wp2
      go_ret
      exact ⟨ad, cp, rfl, hown, hb⟩

structure D where
  m : Int
  rest : ByteArray
  fs : List ByteArray
  bad : Bool

/-- What Feed answers. -/
def feedD (m : Int) (rest : ByteArray) (ss : List ByteArray) (bad : Bool) (bytes : ByteArray) : D :=
  if validD m rest ss bad then
    (if bad then ⟨m, ⟨#[]⟩, ss, true⟩ else ⟨m, (feedP m.toNat (500 - ss.length) (rest ++ bytes)).2.1, ss ++ (feedP m.toNat (500 - ss.length) (rest ++ bytes)).1, (feedP m.toNat (500 - ss.length) (rest ++ bytes)).2.2⟩)
  else ⟨0, ⟨#[]⟩, [], false⟩
def FeedPost (w : World) (d : D) (e : Ending) (w' : World) : Prop :=
  ∃ v, e = .returned (decV d.m d.rest v d.bad) ∧ w'.ownsRow w.heap.size 9 1 v d.fs.length (d.fs.map .string) ∧ Below w.heap.size w w'

theorem validD_parts {m : Int} {rest : ByteArray} {ss : List ByteArray} {bad : Bool} (h : validD m rest ss bad = true) : ∃ n : Nat, m = n ∧ 1 ≤ n ∧ n ≤ 8 ∧ ss.length ≤ 500 ∧ ∀ s ∈ ss, 1 ≤ s.size ∧ s.size ≤ 1000 := by
  simp only [validD, Bool.and_eq_true] at h
  obtain ⟨n, hn, h1, h8⟩ := isW_nat h.1.1
  obtain ⟨hl, hs⟩ := pays_true h.1.2
  exact ⟨n, hn, h1, h8, hl, hs⟩

/-- What lies in memory ahead of the clone: the argument's copy and the answer's block. -/
structure Pre (w w1 : World) (n : Int) (rest : ByteArray) (dsl : Value) (bad : Bool) : Prop where
  d0 : w1.cell? ⟨w.heap.size, 0, none⟩ = some (.int .i64 n)
  d1 : w1.cell? ⟨w.heap.size, 1, none⟩ = some (.string rest)
  d2 : w1.cell? ⟨w.heap.size, 2, none⟩ = some dsl
  d3 : w1.cell? ⟨w.heap.size, 3, none⟩ = some (.bool bad)
  o0 : w1.cell? ⟨w.heap.size + 1, 0, none⟩ = some (.int .i64 0)
  o1 : w1.cell? ⟨w.heap.size + 1, 1, none⟩ = some (.string ⟨#[]⟩)
  o2 : w1.cell? ⟨w.heap.size + 1, 2, none⟩ = some (.slice none 0 0)
  o3 : w1.cell? ⟨w.heap.size + 1, 3, none⟩ = some (.bool false)
  of : ∀ j, w1.frozen? ⟨w.heap.size + 1, j, none⟩ = false
  below : Below w.heap.size w w1
  lt : w.heap.size + 1 < w1.heap.size

theorem Pre.later {w w1 w2 : World} {n : Int} {rest : ByteArray} {dsl : Value} {bad : Bool} (h : Pre w w1 n rest dsl bad) (hb : Below w1.heap.size w1 w2) : Pre w w2 n rest dsl bad :=
  ⟨cell_later hb h.d0, cell_later hb h.d1, cell_later hb h.d2, cell_later hb h.d3, cell_later hb h.o0, cell_later hb h.o1, cell_later hb h.o2, cell_later hb h.o3, fun j => (hb.frozen (p := ⟨w.heap.size + 1, j, none⟩) h.lt).trans (h.of j), h.below.trans (hb.mono h.below.size), Nat.lt_of_lt_of_le h.lt hb.size⟩
theorem Pre.set {w w1 : World} {n : Int} {rest : ByteArray} {dsl : Value} {bad : Bool} (h : Pre w w1 n rest dsl bad) (b i : Nat) (v : Value) (hb : w.heap.size + 1 < b) : Pre w (w1.setCell ⟨b, i, none⟩ v) n rest dsl bad := by
  have ho : ∀ c j, c ≤ w.heap.size + 1 → (w1.setCell ⟨b, i, none⟩ v).cell? ⟨c, j, none⟩ = w1.cell? ⟨c, j, none⟩ := fun c j hc => World.cell?_setCell_other w1 ⟨b, i, none⟩ ⟨c, j, none⟩ v (by intro e; injection e; omega)
  exact ⟨(ho _ _ (by omega)).trans h.d0, (ho _ _ (by omega)).trans h.d1, (ho _ _ (by omega)).trans h.d2, (ho _ _ (by omega)).trans h.d3, (ho _ _ (by omega)).trans h.o0, (ho _ _ (by omega)).trans h.o1, (ho _ _ (by omega)).trans h.o2, (ho _ _ (by omega)).trans h.o3, fun j => by simpa using h.of j, h.below.setCell (by show w.heap.size ≤ b; omega) _, by simpa using h.lt⟩

/-- A decoder's block that is the call's own. -/
structure Fed (W : World) (bf : Nat) (n : Int) (rest : ByteArray) (sl : Value) (bad : Bool) : Prop where
  c0 : W.cell? ⟨bf, 0, none⟩ = some (.int .i64 n)
  c1 : W.cell? ⟨bf, 1, none⟩ = some (.string rest)
  c2 : W.cell? ⟨bf, 2, none⟩ = some sl
  c3 : W.cell? ⟨bf, 3, none⟩ = some (.bool bad)
  cf : ∀ j, W.frozen? ⟨bf, j, none⟩ = false
theorem Fed.lt {W : World} {bf : Nat} {n : Int} {rest : ByteArray} {sl : Value} {bad : Bool} (h : Fed W bf n rest sl bad) : bf < W.heap.size := World.block_lt_of_cell? W ⟨bf, 0, none⟩ h.c0
theorem Fed.later {W W' : World} {bf : Nat} {n : Int} {rest : ByteArray} {sl : Value} {bad : Bool} (h : Fed W bf n rest sl bad) (hb : Below W.heap.size W W') : Fed W' bf n rest sl bad :=
  ⟨cell_later hb h.c0, cell_later hb h.c1, cell_later hb h.c2, cell_later hb h.c3, fun j => (hb.frozen (p := ⟨bf, j, none⟩) h.lt).trans (h.cf j)⟩
theorem fed_new (w2 : World) (n : Int) (rest : ByteArray) (sl : Value) (bad : Bool) : Fed (w2.alloc (.cells #[.int .i64 n, .string rest, sl, .bool bad] 32)) w2.heap.size n rest sl bad :=
  ⟨by simp, by simp, by simp, by simp, fun j => by simp⟩
theorem Fed.set1 {W : World} {bf : Nat} {n : Int} {rest rest' : ByteArray} {sl : Value} {bad : Bool} (h : Fed W bf n rest sl bad) : Fed (W.setCell ⟨bf, 1, none⟩ (.string rest')) bf n rest' sl bad :=
  ⟨(wother (by simp)).trans h.c0, wsame h.c1, (wother (by simp)).trans h.c2, (wother (by simp)).trans h.c3, fun j => by simpa using h.cf j⟩
theorem Fed.set2 {W : World} {bf : Nat} {n : Int} {rest : ByteArray} {sl sl' : Value} {bad : Bool} (h : Fed W bf n rest sl bad) : Fed (W.setCell ⟨bf, 2, none⟩ sl') bf n rest sl' bad :=
  ⟨(wother (by simp)).trans h.c0, (wother (by simp)).trans h.c1, wsame h.c2, (wother (by simp)).trans h.c3, fun j => by simpa using h.cf j⟩
theorem Fed.set3 {W : World} {bf : Nat} {n : Int} {rest : ByteArray} {sl : Value} {bad bad' : Bool} (h : Fed W bf n rest sl bad) : Fed (W.setCell ⟨bf, 3, none⟩ (.bool bad')) bf n rest sl bad' :=
  ⟨(wother (by simp)).trans h.c0, (wother (by simp)).trans h.c1, (wother (by simp)).trans h.c2, wsame h.c3, fun j => by simpa using h.cf j⟩
theorem Fed.set0 {W : World} {bf : Nat} {n n' : Int} {rest : ByteArray} {sl : Value} {bad : Bool} (h : Fed W bf n rest sl bad) : Fed (W.setCell ⟨bf, 0, none⟩ (.int .i64 n')) bf n' rest sl bad :=
  ⟨wsame h.c0, (wother (by simp)).trans h.c1, (wother (by simp)).trans h.c2, (wother (by simp)).trans h.c3, fun j => by simpa using h.cf j⟩

/-- All of it, behind the clone. -/
structure FedAt (w W : World) (bf : Nat) (n : Int) (rest : ByteArray) (dsl : Value) (bad : Bool) (sl : Value) (ss : List ByteArray) : Prop where
  pre : Pre w W n rest dsl bad
  fed : Fed W bf n ⟨#[]⟩ sl bad
  own : W.ownsRow (w.heap.size + 2) 9 1 sl ss.length (ss.map .string)
  ne : w.heap.size + 1 < bf
  apart : some bf ≠ sl.ownBlock

theorem fedB {w w1 w2 : World} {n : Int} {rest : ByteArray} {dsl : Value} {bad : Bool} {sl : Value} {ss : List ByteArray} (hP : Pre w w1 n rest dsl bad) (hb : Below w1.heap.size w1 w2) (hown : w2.ownsRow w1.heap.size 9 1 sl ss.length (ss.map .string)) :
    FedAt w (w2.alloc (.cells #[.int .i64 n, .string ⟨#[]⟩, sl, .bool bad] 32)) w2.heap.size n rest dsl bad sl ss := by
  have hlt := hP.lt
  have hsz := hb.size
  refine ⟨(hP.later hb).later ((Below.refl _ _).alloc (Nat.le_refl _) _), fed_new _ _ _ _ _, owns_mono (hown.alloc _) (by omega), by omega, fun e => ?_⟩
  have := own_lt hown e.symm
  omega
theorem fedA {w w1 w2 : World} {n : Int} {rest : ByteArray} {dsl : Value} {bad : Bool} {sl : Value} {ss : List ByteArray} (hP : Pre w w1 n rest dsl bad) (hb : Below (w1.alloc (.cells #[.int .i64 0, .string ⟨#[]⟩, .slice none 0 0, .bool false] 32)).heap.size (w1.alloc (.cells #[.int .i64 0, .string ⟨#[]⟩, .slice none 0 0, .bool false] 32)) w2) (hown : w2.ownsRow (w1.alloc (.cells #[.int .i64 0, .string ⟨#[]⟩, .slice none 0 0, .bool false] 32)).heap.size 9 1 sl ss.length (ss.map .string)) :
    FedAt w ((((w2.setCell ⟨w1.heap.size, 0, none⟩ (.int .i64 n)).setCell ⟨w1.heap.size, 1, none⟩ (.string ⟨#[]⟩)).setCell ⟨w1.heap.size, 2, none⟩ sl).setCell ⟨w1.heap.size, 3, none⟩ (.bool bad)) w1.heap.size n rest dsl bad sl ss := by
  have hlt := hP.lt
  have hap : some w1.heap.size ≠ sl.ownBlock := fun e => by have := owns_row_ge hown e.symm; simp at this; omega
  refine ⟨(((((hP.later ((Below.refl _ _).alloc (Nat.le_refl _) _)).later hb).set _ _ _ hlt).set _ _ _ hlt).set _ _ _ hlt).set _ _ _ hlt, ((((fed_new w1 0 ⟨#[]⟩ (.slice none 0 0) false).later hb).set0).set1.set2).set3, ?_, hlt, hap⟩
  exact owns_mono (owns_set (owns_set (owns_set (owns_set hown hap) hap) hap) hap) (by simp; omega)

theorem Pre.grown {w W W' : World} {n : Int} {rest : ByteArray} {dsl : Value} {bad : Bool} {row : Option Nat} (h : Pre w W n rest dsl bad) (hg : W.grownBy W' row) (hr : ∀ k, row = some k → w.heap.size + 2 ≤ k) : Pre w W' n rest dsl bad := by
  have n0 : some w.heap.size ≠ row := fun e => by have := hr _ e.symm; omega
  have n1 : some (w.heap.size + 1) ≠ row := fun e => by have := hr _ e.symm; omega
  have hlt := h.lt
  exact ⟨hg.cell h.d0 n0, hg.cell h.d1 n0, hg.cell h.d2 n0, hg.cell h.d3 n0, hg.cell h.o0 n1, hg.cell h.o1 n1, hg.cell h.o2 n1, hg.cell h.o3 n1, fun j => (hg.frozen_far ⟨w.heap.size + 1, j, none⟩ h.lt n1).trans (h.of j), h.below.grown hg h.below.size (fun k hk => by have := hr k hk; omega), Nat.lt_of_lt_of_le h.lt hg.size⟩

/-- The answer's block is written. -/
structure Told (w W : World) (d : D) (sl : Value) : Prop where
  c0 : W.cell? ⟨w.heap.size + 1, 0, none⟩ = some (.int .i64 d.m)
  c1 : W.cell? ⟨w.heap.size + 1, 1, none⟩ = some (.string d.rest)
  c2 : W.cell? ⟨w.heap.size + 1, 2, none⟩ = some sl
  c3 : W.cell? ⟨w.heap.size + 1, 3, none⟩ = some (.bool d.bad)
  own : W.ownsRow w.heap.size 9 1 sl d.fs.length (d.fs.map .string)
  below : Below w.heap.size w W
theorem told {w W : World} {n : Int} {rest : ByteArray} {dsl : Value} {bad : Bool} (hP : Pre w W n rest dsl bad) (d : D) (sl : Value) (hown : W.ownsRow (w.heap.size + 2) 9 1 sl d.fs.length (d.fs.map .string)) :
    Told w ((((W.setCell ⟨w.heap.size + 1, 0, none⟩ (.int .i64 d.m)).setCell ⟨w.heap.size + 1, 1, none⟩ (.string d.rest)).setCell ⟨w.heap.size + 1, 2, none⟩ sl).setCell ⟨w.heap.size + 1, 3, none⟩ (.bool d.bad)) d sl := by
  have hap : some (w.heap.size + 1) ≠ sl.ownBlock := fun e => by have := owns_row_ge hown e.symm; omega
  have hf : Fed W (w.heap.size + 1) 0 ⟨#[]⟩ (.slice none 0 0) false := ⟨hP.o0, hP.o1, hP.o2, hP.o3, hP.of⟩
  have hf4 := ((((hf.set0 (n' := d.m)).set1 (rest' := d.rest)).set2 (sl' := sl)).set3 (bad' := d.bad))
  refine ⟨hf4.c0, hf4.c1, hf4.c2, hf4.c3, owns_mono (owns_set (owns_set (owns_set (owns_set hown hap) hap) hap) hap) (by omega), ?_⟩
  exact (((hP.below.setCell (by simp) _).setCell (by simp) _).setCell (by simp) _).setCell (by simp) _

set_option maxRecDepth 20000 in
set_option maxHeartbeats 2000000 in
theorem implFeed_any (m : Int) (rest : ByteArray) (a : Option Addr) (cap : Nat) (ss : List ByteArray) (bad : Bool) (bytes : ByteArray) (w : World) (hss : SS w a ss) (hn : ss.length ≤ maxLen) (hr : rest.size ≤ 1073741824) (hbs : bytes.size ≤ 1073741824) :
    Calls Try.prog 18 #[decV m rest (.slice a ss.length cap) bad, .string bytes] w fun e w' => FeedPost w (feedD m rest ss bad bytes) e w' := by
  obtain ⟨i0, hi, hz0, hz1, hz2⟩ := info_parts Try.infoStr
  have hbA : Below w.heap.size w ((w.alloc (.cells #[.int .i64 m, .string rest, .slice a ss.length cap, .bool bad] 32)).alloc (.cells #[.int .i64 0, .string ⟨#[]⟩, .slice none 0 0, .bool false] 32)) := ((Below.refl _ _).alloc (Nat.le_refl _) _).alloc (by simp) _
  have hval := implValidD_any m rest a cap ss bad _ (hss.below hbA) hn (by omega)
  unfold decV at hval ⊢
  cases hV : validD m rest ss bad
  · rw [hV] at hval
    rw [show feedD m rest ss bad bytes = ⟨0, ⟨#[]⟩, [], false⟩ by simp [feedD, hV]]
    go_enter Try.func18, Try.ntmps18
    go_wp2_with fail
    refine hval.mono ?_
    rintro e w1 ⟨rfl, hb1⟩
    have d10 := hb1.cell (p := ⟨w.heap.size + 1, 0, none⟩) (by simp)
    have d11 := hb1.cell (p := ⟨w.heap.size + 1, 1, none⟩) (by simp)
    have d12 := hb1.cell (p := ⟨w.heap.size + 1, 2, none⟩) (by simp)
    have d13 := hb1.cell (p := ⟨w.heap.size + 1, 3, none⟩) (by simp)
    have f1 : ∀ j, w1.frozen? ⟨w.heap.size + 1, j, none⟩ = false := fun j => by rw [hb1.frozen (p := ⟨w.heap.size + 1, j, none⟩) (by simp)]; simp [go_sem]
    simp [go_sem] at d10 d11 d12 d13
    have hb0 : Below w.heap.size w w1 := hbA.trans (hb1.mono hbA.size)
    go_wp2
    refine bodyPost_ret (v := decV 0 ⟨#[]⟩ (.slice none 0 0) false) ?_ rfl ⟨.slice none 0 0, rfl, ⟨rfl, .inl ⟨rfl, rfl⟩⟩, ?_⟩
    · go_light
      simp [results, Try.results18, go_sem, d10, d11, d12, d13, decV]
    · exact (((hb0.setCell (by simp) _).setCell (by simp) _).setCell (by simp) _).setCell (by simp) _
  · rw [hV] at hval
    obtain ⟨n, rfl, h1, h8, hl5, hss5⟩ := validD_parts hV
    go_enter Try.func18, Try.ntmps18
    go_wp2_with fail
    refine hval.mono ?_
    rintro e w1 ⟨rfl, hb1⟩
    have d00 := hb1.cell (p := ⟨w.heap.size, 0, none⟩) (by simp; omega)
    have d01 := hb1.cell (p := ⟨w.heap.size, 1, none⟩) (by simp; omega)
    have d02 := hb1.cell (p := ⟨w.heap.size, 2, none⟩) (by simp; omega)
    have d03 := hb1.cell (p := ⟨w.heap.size, 3, none⟩) (by simp; omega)
    have d10 := hb1.cell (p := ⟨w.heap.size + 1, 0, none⟩) (by simp)
    have d11 := hb1.cell (p := ⟨w.heap.size + 1, 1, none⟩) (by simp)
    have d12 := hb1.cell (p := ⟨w.heap.size + 1, 2, none⟩) (by simp)
    have d13 := hb1.cell (p := ⟨w.heap.size + 1, 3, none⟩) (by simp)
    have f1 : ∀ j, w1.frozen? ⟨w.heap.size + 1, j, none⟩ = false := fun j => by rw [hb1.frozen (p := ⟨w.heap.size + 1, j, none⟩) (by simp)]; simp [go_sem]
    simp [go_sem] at d00 d01 d02 d03 d10 d11 d12 d13
    have hb0 : Below w.heap.size w w1 := hbA.trans (hb1.mono hbA.size)
    have hw1 := hb0.size
    have hw1' : w.heap.size + 1 < w1.heap.size := by have := hb1.size; simp at this; omega
    clear hval hb1 hbA
    have hP : Pre w w1 (n : Int) rest (.slice a ss.length cap) bad := ⟨d00, d01, d02, d03, d10, d11, d12, d13, f1, hb0, hw1'⟩
    have hmm : ∀ s ∈ ss, s.size ≤ 1048576 := fun s hs => by have := (hss5 s hs).2; omega
    have hll : ss.length ≤ 1048576 := by omega
    have g00 : ∀ o, (w1.alloc o).cell? ⟨w.heap.size, 0, none⟩ = some (.int .i64 (n : Int)) := fun o => (World.cell?_alloc_some w1 _ o (by rw [d00]; rfl)).trans d00
    have g02 : ∀ o, (w1.alloc o).cell? ⟨w.heap.size, 2, none⟩ = some (.slice a ss.length cap) := fun o => (World.cell?_alloc_some w1 _ o (by rw [d02]; rfl)).trans d02
    have g03 : ∀ o, (w1.alloc o).cell? ⟨w.heap.size, 3, none⟩ = some (.bool bad) := fun o => (World.cell?_alloc_some w1 _ o (by rw [d03]; rfl)).trans d03
    have QA : ∀ wx, Below (w1.alloc (.cells #[.int .i64 0, .string ⟨#[]⟩, .slice none 0 0, .bool false] 32)).drew.heap.size (w1.alloc (.cells #[.int .i64 0, .string ⟨#[]⟩, .slice none 0 0, .bool false] 32)).drew wx → wx.cell? ⟨w1.heap.size, 0, none⟩ = some (.int .i64 0) ∧ wx.cell? ⟨w1.heap.size, 1, none⟩ = some (.string ⟨#[]⟩) ∧ wx.cell? ⟨w1.heap.size, 2, none⟩ = some (.slice none 0 0) ∧ wx.cell? ⟨w1.heap.size, 3, none⟩ = some (.bool false) ∧ ∀ j, wx.frozen? ⟨w1.heap.size, j, none⟩ = false := fun wx hx =>
      ⟨(hx.cell (p := ⟨w1.heap.size, 0, none⟩) (by simp)).trans (by simp [go_sem]), (hx.cell (p := ⟨w1.heap.size, 1, none⟩) (by simp)).trans (by simp [go_sem]), (hx.cell (p := ⟨w1.heap.size, 2, none⟩) (by simp)).trans (by simp [go_sem]), (hx.cell (p := ⟨w1.heap.size, 3, none⟩) (by simp)).trans (by simp [go_sem]), fun j => (hx.frozen (p := ⟨w1.heap.size, j, none⟩) (by simp)).trans (by simp [go_sem])⟩
    have hclA := cloneTexts_any a cap ss (w1.alloc (.cells #[.int .i64 0, .string ⟨#[]⟩, .slice none 0 0, .bool false] 32)).drew (hss.below (hb0.alloc hw1 _).drew) hll hmm
    have hclB := cloneTexts_any a cap ss w1.drew (hss.below hb0.drew) hll hmm
    have hne1 : ¬ w.heap.size = w1.heap.size := by omega
    have hne2 : ¬ w1.heap.size = w.heap.size := by omega
    go_wp2_with fail
    go_region_held3 (fun w' => w'.cell? ⟨w.heap.size, 0, none⟩ = some (.int .i64 (n : Int)) ∧ w'.cell? ⟨w.heap.size, 2, none⟩ = some (.slice a ss.length cap) ∧ w'.cell? ⟨w.heap.size, 3, none⟩ = some (.bool bad)) (first | go_keep | (exact ⟨e0, e2, e3⟩))
      ((first | (go_at_call 34; refine hclA.mono ?_; rintro e w2 ⟨ad2, cp2, rfl, hown2, hb2⟩; have e0 := cell_later hb2 (g00 _); have e2 := cell_later hb2 (g02 _); have e3 := cell_later hb2 (g03 _); obtain ⟨q0, q1, q2, q3, qf⟩ := QA w2 hb2) | (go_at_call 34; refine hclB.mono ?_; rintro e w2 ⟨ad2, cp2, rfl, hown2, hb2⟩; have e0 := cell_later (w := w1.drew) hb2 d00; have e2 := cell_later (w := w1.drew) hb2 d02; have e3 := cell_later (w := w1.drew) hb2 d03)))
    rotate_left
    · have hF := fedA hP (((Below.refl _ _).drew).trans hb2) hown2
      clear hown2 hb2 q0 q1 q2 q3 qf e0 e2 e3 hne1 hne2 hclA hclB QA g00 g02 g03 d00 d01 d02 d03 d10 d11 d12 d13 f1
      generalize (((w2.setCell ⟨w1.heap.size, 0, none⟩ (.int .i64 (n : Int))).setCell ⟨w1.heap.size, 1, none⟩ (.string ⟨#[]⟩)).setCell ⟨w1.heap.size, 2, none⟩ (.slice ad2 ss.length cp2)).setCell ⟨w1.heap.size, 3, none⟩ (.bool bad) = W3 at *
      clear hw1 hw1' hb0 hP
      generalize w1.heap.size = bf at *
      have hpre := hF.pre
      have hfed := hF.fed
      have hne := hF.ne
      have b0 := hpre.d0
      have b1 := hpre.d1
      have b2 := hpre.d2
      have b3 := hpre.d3
      have o0 := hpre.o0
      have o1 := hpre.o1
      have o2 := hpre.o2
      have o3 := hpre.o3
      have of := hpre.of
      have hx1 : ¬ w.heap.size + 1 = bf := by omega
      have hx2 : ¬ bf = w.heap.size + 1 := by omega
      cases bad
      · have HD : Hid (feedD n rest ss false bytes = ⟨n, (feedP n (500 - ss.length) (rest ++ bytes)).2.1, ss ++ (feedP n (500 - ss.length) (rest ++ bytes)).1, (feedP n (500 - ss.length) (rest ++ bytes)).2.2⟩) := by
          have : feedD n rest ss false bytes = ⟨n, (feedP n (500 - ss.length) (rest ++ bytes)).2.1, ss ++ (feedP n (500 - ss.length) (rest ++ bytes)).1, (feedP n (500 - ss.length) (rest ++ bytes)).2.2⟩ := by simp [feedD, hV]
          exact this
        have hcat : ¬ 9223372036854775807 < rest.size + bytes.size := by omega
        have hS := st_new W3 W3.heap.size rfl n (500 - ss.length) ((500 : Int) - ss.length) (by omega) (rest ++ bytes)
        have hrun := run_any _ _ _ _ _ hS rfl rfl rfl (by simp only [ByteArray.size_append]; omega) h1 h8 (by simp only; omega) (by simp only [List.length_nil]; omega)
        simp only [List.nil_append] at hrun
        go_wp2_with fail
        refine hrun.mono ?_
        rintro e w5 ⟨rfl, r, hS5, hrest, hbad, hb5⟩
        simp only at hrest hbad
        have hbW : Below W3.heap.size W3 w5 := ((Below.refl _ _).alloc (Nat.le_refl _) _).trans hb5
        have hgl : bf < W3.heap.size := hfed.lt
        have hpre5 := hpre.later hbW
        have hfed5 := hfed.later hbW
        have hown5 := owns_below hF.own hbW
        have hapg : some W3.heap.size ≠ (Value.slice ad2 ss.length cp2).ownBlock := fun e => by have := own_lt hF.own e.symm; omega
        have hap := hF.apart
        have hrs : (feedP n (500 - ss.length) (rest ++ bytes)).2.1.size ≤ 281474976710656 := Nat.le_trans (feedP_rest _ _ _) (by rw [ByteArray.size_append]; omega)
        have hroom : (feedP n (500 - ss.length) (rest ++ bytes)).1.length ≤ 500 := Nat.le_trans (feedP_room _ _ _) (by omega)
        clear hpre hfed hF b0 b1 b2 b3 o0 o1 o2 o3 of hS hrun hbW hb5
        generalize feedP n (500 - ss.length) (rest ++ bytes) = F at *
        generalize W3.heap.size = g at *
        have k2 : w5.cell? ⟨g, 2, none⟩ = some (.string F.2.1) := by rw [← hrest]; exact hS5.rc.cells 2 (by omega)
        have hx3 : ¬ g = bf := by omega
        have hx4 : ¬ bf = g := by omega
        have hx5 : ¬ g = w.heap.size + 1 := by omega
        have hx6 : ¬ w.heap.size + 1 = g := by omega
        go_wp2_with fail
        refine (clone_any F.2.1 w5 hrs).mono ?_
        rintro e w6 ⟨rfl, hb6⟩
        have hpre6 := hpre5.later hb6
        have hfed6 := hfed5.later hb6
        have hown6 := owns_below hown5 hb6
        have hS6 := hS5.below hb6
        have k4 : w6.cell? ⟨g, 4, none⟩ = some (.bool F.2.2) := by rw [← hbad]; exact hS6.rc.cells 4 (by omega)
        have c0 := hfed6.c0
        have c1 := hfed6.c1
        have c2 := hfed6.c2
        have c3 := hfed6.c3
        have cf := hfed6.cf
        have o0 := hpre6.o0
        have o1 := hpre6.o1
        have o2 := hpre6.o2
        have o3 := hpre6.o3
        have of := hpre6.of
        have hfed7 := hfed6.set1 (rest' := F.2.1)
        have hpre7 := hpre6.set bf 1 (.string F.2.1) hne
        have hown7 : (w6.setCell ⟨bf, 1, none⟩ (.string F.2.1)).ownsRow (w.heap.size + 2) 9 1 (.slice ad2 ss.length cp2) ss.length (ss.map .string) := owns_set hown6 hap
        clear hpre5 hfed5 hown5 hrest hbad k2
        by_cases hemp : F.1 = []
        · have k3 : w6.cell? ⟨g, 3, none⟩ = some (.slice none 0 0) := by rw [← hS6.nil hemp]; exact hS6.rc.cells 3 (by omega)
          have HD2 : Hid (feedD n rest ss false bytes = ⟨n, F.2.1, ss, F.2.2⟩) := by
            have : feedD n rest ss false bytes = ⟨n, F.2.1, ss, F.2.2⟩ := by rw [HD.out, hemp, List.append_nil]
            exact this
          clear hemp hS6 hS5 HD
          go_wp2_with (at_builtin; refine wpList_append_own_none rfl _ _ 22 rfl (w.heap.size + 2) 9 i0 1 Try.underlying22 hi _ _ _ rfl hown7 rfl ?_)
          have hT := told ((hpre7.set bf 2 (.slice ad2 ss.length cp2) hne).set bf 3 (.bool F.2.2) hne) ⟨n, F.2.1, ss, F.2.2⟩ (.slice ad2 ss.length cp2) (owns_set (owns_set hown7 hap) hap)
          simp only at hT
          generalize ((((((w6.setCell ⟨bf, 1, none⟩ (.string F.2.1)).setCell ⟨bf, 2, none⟩ (.slice ad2 ss.length cp2)).setCell ⟨bf, 3, none⟩ (.bool F.2.2)).setCell ⟨w.heap.size + 1, 0, none⟩ (.int .i64 (n : Int))).setCell ⟨w.heap.size + 1, 1, none⟩ (.string F.2.1)).setCell ⟨w.heap.size + 1, 2, none⟩ (.slice ad2 ss.length cp2)).setCell ⟨w.heap.size + 1, 3, none⟩ (.bool F.2.2) = W9 at *
          have t0 := hT.c0
          have t1 := hT.c1
          have t2 := hT.c2
          have t3 := hT.c3
          simp only at t0 t1 t2 t3
          rw [HD2.out]
          refine bodyPost_ret (v := decV n F.2.1 (.slice ad2 ss.length cp2) F.2.2) ?_ rfl ⟨_, rfl, hT.own, hT.below⟩
          go_light
          simp [results, Try.results18, go_sem, t0, t1, t2, t3, decV]
        · obtain ⟨gt, ct, htk, hct⟩ : ∃ gt ct, r.taken = .slice (some ⟨gt, 0, none⟩) F.1.length ct ∧ g ≤ gt := by
            rcases hS6.own.2 with ⟨_, h0⟩ | ⟨gt, ct, cur, hv, hge, _⟩
            · exact absurd (List.eq_nil_of_length_eq_zero h0) hemp
            · exact ⟨gt, ct, hv, hge⟩
          have hlen : 0 < F.1.length := List.length_pos_iff.2 hemp
          have hnews : ∀ j u, (F.1.map Value.string)[j]? = some u → (w6.setCell ⟨bf, 1, none⟩ (.string F.2.1)).cell? (Addr.add ⟨gt, 0, none⟩ j) = some u := by
            intro j u hu
            have hj : j < F.1.length := by have := (List.getElem?_eq_some_iff.1 hu).1; simpa using this
            rw [Go.WideShapes.add_plain, Nat.zero_add, wother (by intro e; injection e; omega)]
            have ho := hS6.own
            rw [htk] at ho
            rw [ho.cellAt j (by omega)]
            exact hu
          have k3 : w6.cell? ⟨g, 3, none⟩ = some (.slice (some ⟨gt, 0, none⟩) F.1.length ct) := by rw [← htk]; exact hS6.rc.cells 3 (by omega)
          have hsz6 : w.heap.size + 2 ≤ w6.heap.size := by have := hpre6.lt; omega
          have hg6 : g < w6.heap.size := hS6.rc.lt
          have hnl : (F.1.map Value.string).length = F.1.length * 1 := by simp
          have hapo : some (w.heap.size + 1) ≠ (Value.slice ad2 ss.length cp2).ownBlock := fun e => by have := owns_row_ge hown7 e.symm; omega
          have hn1 : ∀ u ∈ F.1.map Value.string, u.oneCell' = true := by
            intro u hu
            simp only [List.mem_map] at hu
            obtain ⟨x, _, rfl⟩ := hu
            rfl
          clear hS6 hS5 hemp htk
          go_wp2_with (at_builtin; refine wpList_append_lies _ rfl _ _ 22 rfl (w.heap.size + 2) 9 i0 _ 1 16 Try.underlying22 hi hz0 hz1 hz2 rfl (by decide) _ _ _ rfl hown7 ⟨gt, 0, none⟩ F.1.length ct (F.1.map .string) rfl hnl hnews hn1 hlen (by unfold maxLen; omega) (by omega) (by simp; omega) w6.heap.size (by simp) ?_; intro g8 cap8 w8 hown8 hgrow8 hat8 hlt8; have m4 := hgrow8.cell (a := ⟨g, 4, none⟩) ((wother (by simp)).trans k4) hapg; have p0 := hgrow8.cell (a := ⟨bf, 0, none⟩) hfed7.c0 hap; have p1 := hgrow8.cell (a := ⟨bf, 1, none⟩) hfed7.c1 hap; have p2 := hgrow8.cell (a := ⟨bf, 2, none⟩) hfed7.c2 hap; have p3 := hgrow8.cell (a := ⟨bf, 3, none⟩) hfed7.c3 hap; have pf : ∀ j, w8.frozen? ⟨bf, j, none⟩ = false := fun j => (hgrow8.frozen_far ⟨bf, j, none⟩ hfed7.lt hap).trans (hfed7.cf j); have r0 := hgrow8.cell (a := ⟨w.heap.size + 1, 0, none⟩) hpre7.o0 hapo; have r1 := hgrow8.cell (a := ⟨w.heap.size + 1, 1, none⟩) hpre7.o1 hapo; have r2 := hgrow8.cell (a := ⟨w.heap.size + 1, 2, none⟩) hpre7.o2 hapo; have r3 := hgrow8.cell (a := ⟨w.heap.size + 1, 3, none⟩) hpre7.o3 hapo; have rf : ∀ j, w8.frozen? ⟨w.heap.size + 1, j, none⟩ = false := fun j => (hgrow8.frozen_far ⟨w.heap.size + 1, j, none⟩ hpre7.lt hapo).trans (hpre7.of j))
          have hpre8 := hpre7.grown hgrow8 (fun k hk => owns_row_ge hown7 hk)
          have hap8 : some bf ≠ (Value.slice (some ⟨g8, 0, none⟩) (ss.length + F.1.length) cap8).ownBlock := by
            intro e
            have e' : bf = g8 := by simpa [Value.ownBlock] using e
            have hbl : bf < w6.heap.size := hfed6.lt
            rcases hat8 with h | h
            · exact hap ((congrArg some e').trans h.symm)
            · omega
          have hownX : w8.ownsRow (w.heap.size + 2) 9 1 (.slice (some ⟨g8, 0, none⟩) (ss.length + F.1.length) cap8) (ss ++ F.1).length ((ss ++ F.1).map .string) := by
            rw [List.length_append, List.map_append]
            exact hown8
          have hT := told ((hpre8.set bf 2 (.slice (some ⟨g8, 0, none⟩) (ss.length + F.1.length) cap8) hne).set bf 3 (.bool F.2.2) hne) ⟨n, F.2.1, ss ++ F.1, F.2.2⟩ (.slice (some ⟨g8, 0, none⟩) (ss.length + F.1.length) cap8) (owns_set (owns_set hownX hap8) hap8)
          simp only at hT
          clear hownX hown8 hpre8 hgrow8
          generalize (((((w8.setCell ⟨bf, 2, none⟩ (.slice (some ⟨g8, 0, none⟩) (ss.length + F.1.length) cap8)).setCell ⟨bf, 3, none⟩ (.bool F.2.2)).setCell ⟨w.heap.size + 1, 0, none⟩ (.int .i64 (n : Int))).setCell ⟨w.heap.size + 1, 1, none⟩ (.string F.2.1)).setCell ⟨w.heap.size + 1, 2, none⟩ (.slice (some ⟨g8, 0, none⟩) (ss.length + F.1.length) cap8)).setCell ⟨w.heap.size + 1, 3, none⟩ (.bool F.2.2) = W9 at *
          have t0 := hT.c0
          have t1 := hT.c1
          have t2 := hT.c2
          have t3 := hT.c3
          simp only at t0 t1 t2 t3
          rw [HD.out]
          refine bodyPost_ret (v := decV n F.2.1 (.slice (some ⟨g8, 0, none⟩) (ss.length + F.1.length) cap8) F.2.2) ?_ rfl ⟨_, rfl, hT.own, hT.below⟩
          go_light
          simp [results, Try.results18, go_sem, t0, t1, t2, t3, decV]
      · have HD : Hid (feedD n rest ss true bytes = ⟨n, ⟨#[]⟩, ss, true⟩) := by
          have : feedD n rest ss true bytes = ⟨n, ⟨#[]⟩, ss, true⟩ := by simp [feedD, hV]
          exact this
        have c0 := hfed.c0
        have c1 := hfed.c1
        have c2 := hfed.c2
        have c3 := hfed.c3
        have hT := told hpre ⟨n, ⟨#[]⟩, ss, true⟩ (.slice ad2 ss.length cp2) hF.own
        simp only at hT
        clear hfed hpre hF
        go_wp2
        generalize (((W3.setCell ⟨w.heap.size + 1, 0, none⟩ (.int .i64 (n : Int))).setCell ⟨w.heap.size + 1, 1, none⟩ (.string ⟨#[]⟩)).setCell ⟨w.heap.size + 1, 2, none⟩ (.slice ad2 ss.length cp2)).setCell ⟨w.heap.size + 1, 3, none⟩ (.bool true) = W9 at *
        have t0 := hT.c0
        have t1 := hT.c1
        have t2 := hT.c2
        have t3 := hT.c3
        simp only at t0 t1 t2 t3
        rw [HD.out]
        refine bodyPost_ret (v := decV n ⟨#[]⟩ (.slice ad2 ss.length cp2) true) ?_ rfl ⟨_, rfl, hT.own, hT.below⟩
        go_light
        simp [results, Try.results18, go_sem, t0, t1, t2, t3, decV]
    · have hF := fedB hP (((Below.refl _ _).drew).trans hb2) hown2
      clear hown2 hb2 e0 e2 e3 hne1 hne2 hclA hclB QA g00 g02 g03 d00 d01 d02 d03 d10 d11 d12 d13 f1
      generalize w2.alloc (.cells #[.int .i64 (n : Int), .string ⟨#[]⟩, .slice ad2 ss.length cp2, .bool bad] 32) = W3 at *
      clear hw1 hw1' hb0 hP
      generalize w2.heap.size = bf at *
      have hpre := hF.pre
      have hfed := hF.fed
      have hne := hF.ne
      have b0 := hpre.d0
      have b1 := hpre.d1
      have b2 := hpre.d2
      have b3 := hpre.d3
      have o0 := hpre.o0
      have o1 := hpre.o1
      have o2 := hpre.o2
      have o3 := hpre.o3
      have of := hpre.of
      have hx1 : ¬ w.heap.size + 1 = bf := by omega
      have hx2 : ¬ bf = w.heap.size + 1 := by omega
      cases bad
      · have HD : Hid (feedD n rest ss false bytes = ⟨n, (feedP n (500 - ss.length) (rest ++ bytes)).2.1, ss ++ (feedP n (500 - ss.length) (rest ++ bytes)).1, (feedP n (500 - ss.length) (rest ++ bytes)).2.2⟩) := by
          have : feedD n rest ss false bytes = ⟨n, (feedP n (500 - ss.length) (rest ++ bytes)).2.1, ss ++ (feedP n (500 - ss.length) (rest ++ bytes)).1, (feedP n (500 - ss.length) (rest ++ bytes)).2.2⟩ := by simp [feedD, hV]
          exact this
        have hcat : ¬ 9223372036854775807 < rest.size + bytes.size := by omega
        have hS := st_new W3 W3.heap.size rfl n (500 - ss.length) ((500 : Int) - ss.length) (by omega) (rest ++ bytes)
        have hrun := run_any _ _ _ _ _ hS rfl rfl rfl (by simp only [ByteArray.size_append]; omega) h1 h8 (by simp only; omega) (by simp only [List.length_nil]; omega)
        simp only [List.nil_append] at hrun
        go_wp2_with fail
        refine hrun.mono ?_
        rintro e w5 ⟨rfl, r, hS5, hrest, hbad, hb5⟩
        simp only at hrest hbad
        have hbW : Below W3.heap.size W3 w5 := ((Below.refl _ _).alloc (Nat.le_refl _) _).trans hb5
        have hgl : bf < W3.heap.size := hfed.lt
        have hpre5 := hpre.later hbW
        have hfed5 := hfed.later hbW
        have hown5 := owns_below hF.own hbW
        have hapg : some W3.heap.size ≠ (Value.slice ad2 ss.length cp2).ownBlock := fun e => by have := own_lt hF.own e.symm; omega
        have hap := hF.apart
        have hrs : (feedP n (500 - ss.length) (rest ++ bytes)).2.1.size ≤ 281474976710656 := Nat.le_trans (feedP_rest _ _ _) (by rw [ByteArray.size_append]; omega)
        have hroom : (feedP n (500 - ss.length) (rest ++ bytes)).1.length ≤ 500 := Nat.le_trans (feedP_room _ _ _) (by omega)
        clear hpre hfed hF b0 b1 b2 b3 o0 o1 o2 o3 of hS hrun hbW hb5
        generalize feedP n (500 - ss.length) (rest ++ bytes) = F at *
        generalize W3.heap.size = g at *
        have k2 : w5.cell? ⟨g, 2, none⟩ = some (.string F.2.1) := by rw [← hrest]; exact hS5.rc.cells 2 (by omega)
        have hx3 : ¬ g = bf := by omega
        have hx4 : ¬ bf = g := by omega
        have hx5 : ¬ g = w.heap.size + 1 := by omega
        have hx6 : ¬ w.heap.size + 1 = g := by omega
        go_wp2_with fail
        refine (clone_any F.2.1 w5 hrs).mono ?_
        rintro e w6 ⟨rfl, hb6⟩
        have hpre6 := hpre5.later hb6
        have hfed6 := hfed5.later hb6
        have hown6 := owns_below hown5 hb6
        have hS6 := hS5.below hb6
        have k4 : w6.cell? ⟨g, 4, none⟩ = some (.bool F.2.2) := by rw [← hbad]; exact hS6.rc.cells 4 (by omega)
        have c0 := hfed6.c0
        have c1 := hfed6.c1
        have c2 := hfed6.c2
        have c3 := hfed6.c3
        have cf := hfed6.cf
        have o0 := hpre6.o0
        have o1 := hpre6.o1
        have o2 := hpre6.o2
        have o3 := hpre6.o3
        have of := hpre6.of
        have hfed7 := hfed6.set1 (rest' := F.2.1)
        have hpre7 := hpre6.set bf 1 (.string F.2.1) hne
        have hown7 : (w6.setCell ⟨bf, 1, none⟩ (.string F.2.1)).ownsRow (w.heap.size + 2) 9 1 (.slice ad2 ss.length cp2) ss.length (ss.map .string) := owns_set hown6 hap
        clear hpre5 hfed5 hown5 hrest hbad k2
        by_cases hemp : F.1 = []
        · have k3 : w6.cell? ⟨g, 3, none⟩ = some (.slice none 0 0) := by rw [← hS6.nil hemp]; exact hS6.rc.cells 3 (by omega)
          have HD2 : Hid (feedD n rest ss false bytes = ⟨n, F.2.1, ss, F.2.2⟩) := by
            have : feedD n rest ss false bytes = ⟨n, F.2.1, ss, F.2.2⟩ := by rw [HD.out, hemp, List.append_nil]
            exact this
          clear hemp hS6 hS5 HD
          go_wp2_with (at_builtin; refine wpList_append_own_none rfl _ _ 22 rfl (w.heap.size + 2) 9 i0 1 Try.underlying22 hi _ _ _ rfl hown7 rfl ?_)
          have hT := told ((hpre7.set bf 2 (.slice ad2 ss.length cp2) hne).set bf 3 (.bool F.2.2) hne) ⟨n, F.2.1, ss, F.2.2⟩ (.slice ad2 ss.length cp2) (owns_set (owns_set hown7 hap) hap)
          simp only at hT
          generalize ((((((w6.setCell ⟨bf, 1, none⟩ (.string F.2.1)).setCell ⟨bf, 2, none⟩ (.slice ad2 ss.length cp2)).setCell ⟨bf, 3, none⟩ (.bool F.2.2)).setCell ⟨w.heap.size + 1, 0, none⟩ (.int .i64 (n : Int))).setCell ⟨w.heap.size + 1, 1, none⟩ (.string F.2.1)).setCell ⟨w.heap.size + 1, 2, none⟩ (.slice ad2 ss.length cp2)).setCell ⟨w.heap.size + 1, 3, none⟩ (.bool F.2.2) = W9 at *
          have t0 := hT.c0
          have t1 := hT.c1
          have t2 := hT.c2
          have t3 := hT.c3
          simp only at t0 t1 t2 t3
          rw [HD2.out]
          refine bodyPost_ret (v := decV n F.2.1 (.slice ad2 ss.length cp2) F.2.2) ?_ rfl ⟨_, rfl, hT.own, hT.below⟩
          go_light
          simp [results, Try.results18, go_sem, t0, t1, t2, t3, decV]
        · obtain ⟨gt, ct, htk, hct⟩ : ∃ gt ct, r.taken = .slice (some ⟨gt, 0, none⟩) F.1.length ct ∧ g ≤ gt := by
            rcases hS6.own.2 with ⟨_, h0⟩ | ⟨gt, ct, cur, hv, hge, _⟩
            · exact absurd (List.eq_nil_of_length_eq_zero h0) hemp
            · exact ⟨gt, ct, hv, hge⟩
          have hlen : 0 < F.1.length := List.length_pos_iff.2 hemp
          have hnews : ∀ j u, (F.1.map Value.string)[j]? = some u → (w6.setCell ⟨bf, 1, none⟩ (.string F.2.1)).cell? (Addr.add ⟨gt, 0, none⟩ j) = some u := by
            intro j u hu
            have hj : j < F.1.length := by have := (List.getElem?_eq_some_iff.1 hu).1; simpa using this
            rw [Go.WideShapes.add_plain, Nat.zero_add, wother (by intro e; injection e; omega)]
            have ho := hS6.own
            rw [htk] at ho
            rw [ho.cellAt j (by omega)]
            exact hu
          have k3 : w6.cell? ⟨g, 3, none⟩ = some (.slice (some ⟨gt, 0, none⟩) F.1.length ct) := by rw [← htk]; exact hS6.rc.cells 3 (by omega)
          have hsz6 : w.heap.size + 2 ≤ w6.heap.size := by have := hpre6.lt; omega
          have hg6 : g < w6.heap.size := hS6.rc.lt
          have hnl : (F.1.map Value.string).length = F.1.length * 1 := by simp
          have hapo : some (w.heap.size + 1) ≠ (Value.slice ad2 ss.length cp2).ownBlock := fun e => by have := owns_row_ge hown7 e.symm; omega
          have hn1 : ∀ u ∈ F.1.map Value.string, u.oneCell' = true := by
            intro u hu
            simp only [List.mem_map] at hu
            obtain ⟨x, _, rfl⟩ := hu
            rfl
          clear hS6 hS5 hemp htk
          go_wp2_with (at_builtin; refine wpList_append_lies _ rfl _ _ 22 rfl (w.heap.size + 2) 9 i0 _ 1 16 Try.underlying22 hi hz0 hz1 hz2 rfl (by decide) _ _ _ rfl hown7 ⟨gt, 0, none⟩ F.1.length ct (F.1.map .string) rfl hnl hnews hn1 hlen (by unfold maxLen; omega) (by omega) (by simp; omega) w6.heap.size (by simp) ?_; intro g8 cap8 w8 hown8 hgrow8 hat8 hlt8; have m4 := hgrow8.cell (a := ⟨g, 4, none⟩) ((wother (by simp)).trans k4) hapg; have p0 := hgrow8.cell (a := ⟨bf, 0, none⟩) hfed7.c0 hap; have p1 := hgrow8.cell (a := ⟨bf, 1, none⟩) hfed7.c1 hap; have p2 := hgrow8.cell (a := ⟨bf, 2, none⟩) hfed7.c2 hap; have p3 := hgrow8.cell (a := ⟨bf, 3, none⟩) hfed7.c3 hap; have pf : ∀ j, w8.frozen? ⟨bf, j, none⟩ = false := fun j => (hgrow8.frozen_far ⟨bf, j, none⟩ hfed7.lt hap).trans (hfed7.cf j); have r0 := hgrow8.cell (a := ⟨w.heap.size + 1, 0, none⟩) hpre7.o0 hapo; have r1 := hgrow8.cell (a := ⟨w.heap.size + 1, 1, none⟩) hpre7.o1 hapo; have r2 := hgrow8.cell (a := ⟨w.heap.size + 1, 2, none⟩) hpre7.o2 hapo; have r3 := hgrow8.cell (a := ⟨w.heap.size + 1, 3, none⟩) hpre7.o3 hapo; have rf : ∀ j, w8.frozen? ⟨w.heap.size + 1, j, none⟩ = false := fun j => (hgrow8.frozen_far ⟨w.heap.size + 1, j, none⟩ hpre7.lt hapo).trans (hpre7.of j))
          have hpre8 := hpre7.grown hgrow8 (fun k hk => owns_row_ge hown7 hk)
          have hap8 : some bf ≠ (Value.slice (some ⟨g8, 0, none⟩) (ss.length + F.1.length) cap8).ownBlock := by
            intro e
            have e' : bf = g8 := by simpa [Value.ownBlock] using e
            have hbl : bf < w6.heap.size := hfed6.lt
            rcases hat8 with h | h
            · exact hap ((congrArg some e').trans h.symm)
            · omega
          have hownX : w8.ownsRow (w.heap.size + 2) 9 1 (.slice (some ⟨g8, 0, none⟩) (ss.length + F.1.length) cap8) (ss ++ F.1).length ((ss ++ F.1).map .string) := by
            rw [List.length_append, List.map_append]
            exact hown8
          have hT := told ((hpre8.set bf 2 (.slice (some ⟨g8, 0, none⟩) (ss.length + F.1.length) cap8) hne).set bf 3 (.bool F.2.2) hne) ⟨n, F.2.1, ss ++ F.1, F.2.2⟩ (.slice (some ⟨g8, 0, none⟩) (ss.length + F.1.length) cap8) (owns_set (owns_set hownX hap8) hap8)
          simp only at hT
          clear hownX hown8 hpre8 hgrow8
          generalize (((((w8.setCell ⟨bf, 2, none⟩ (.slice (some ⟨g8, 0, none⟩) (ss.length + F.1.length) cap8)).setCell ⟨bf, 3, none⟩ (.bool F.2.2)).setCell ⟨w.heap.size + 1, 0, none⟩ (.int .i64 (n : Int))).setCell ⟨w.heap.size + 1, 1, none⟩ (.string F.2.1)).setCell ⟨w.heap.size + 1, 2, none⟩ (.slice (some ⟨g8, 0, none⟩) (ss.length + F.1.length) cap8)).setCell ⟨w.heap.size + 1, 3, none⟩ (.bool F.2.2) = W9 at *
          have t0 := hT.c0
          have t1 := hT.c1
          have t2 := hT.c2
          have t3 := hT.c3
          simp only at t0 t1 t2 t3
          rw [HD.out]
          refine bodyPost_ret (v := decV n F.2.1 (.slice (some ⟨g8, 0, none⟩) (ss.length + F.1.length) cap8) F.2.2) ?_ rfl ⟨_, rfl, hT.own, hT.below⟩
          go_light
          simp [results, Try.results18, go_sem, t0, t1, t2, t3, decV]
      · have HD : Hid (feedD n rest ss true bytes = ⟨n, ⟨#[]⟩, ss, true⟩) := by
          have : feedD n rest ss true bytes = ⟨n, ⟨#[]⟩, ss, true⟩ := by simp [feedD, hV]
          exact this
        have c0 := hfed.c0
        have c1 := hfed.c1
        have c2 := hfed.c2
        have c3 := hfed.c3
        have hT := told hpre ⟨n, ⟨#[]⟩, ss, true⟩ (.slice ad2 ss.length cp2) hF.own
        simp only at hT
        clear hfed hpre hF
        go_wp2
        generalize (((W3.setCell ⟨w.heap.size + 1, 0, none⟩ (.int .i64 (n : Int))).setCell ⟨w.heap.size + 1, 1, none⟩ (.string ⟨#[]⟩)).setCell ⟨w.heap.size + 1, 2, none⟩ (.slice ad2 ss.length cp2)).setCell ⟨w.heap.size + 1, 3, none⟩ (.bool true) = W9 at *
        have t0 := hT.c0
        have t1 := hT.c1
        have t2 := hT.c2
        have t3 := hT.c3
        simp only at t0 t1 t2 t3
        rw [HD.out]
        refine bodyPost_ret (v := decV n ⟨#[]⟩ (.slice ad2 ss.length cp2) true) ?_ rfl ⟨_, rfl, hT.own, hT.below⟩
        go_light
        simp [results, Try.results18, go_sem, t0, t1, t2, t3, decV]
end Go.Proofs.Ytdlbmjmhlcaalaa
