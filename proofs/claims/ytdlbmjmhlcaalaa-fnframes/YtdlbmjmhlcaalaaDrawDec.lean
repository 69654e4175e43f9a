/-
  spec.l3Draw.
-/
import Derived.Test.YtdlbmjmhlcaalaaDrawBend
import Derived.Test.YtdlbmjmhlcaalaaDrawEnc
import Derived.Test.YtdlbmjmhlcaalaaEncode
import Derived.Test.YtdlbmjmhlcaalaaFeedNil
import Derived.Test.YtdlbmjmhlcaalaaFramesPlain
namespace Go.Proofs.Ytdlbmjmhlcaalaa
open Go.RowKit

theorem specFeed_own {base : Nat} {ad : Option Addr} {cp : Nat} (m : Int) (rest : ByteArray) (ss : List ByteArray) (bad : Bool) (bytes : ByteArray) (w : World) (hown : w.ownsRow base 9 1 (.slice ad ss.length cp) ss.length (ss.map .string)) (hn : ss.length ≤ maxLen) (hr : rest.size ≤ 1073741824) (hbs : bytes.size ≤ 1073741824) :
    Calls Try.prog 17 #[decV m rest (.slice ad ss.length cp) bad, .string bytes] w fun e w' => FeedPost w (feedD m rest ss bad bytes) e w' := by
  rcases hown.2 with ⟨hv, h0⟩ | ⟨g, c, cur, hv, _⟩
  · have hs : ss = [] := List.eq_nil_of_length_eq_zero h0
    have e : Value.slice ad ss.length cp = .slice none 0 0 := hv
    rw [e]
    exact specFeed_nil m rest ss hs bad bytes w hr hbs
  · have e : Value.slice ad ss.length cp = .slice (some ⟨g, 0, none⟩) ss.length c := hv
    rw [e] at hown ⊢
    exact specFeed_any m rest g 0 c ss bad bytes w (fun i hi => by rw [Nat.zero_add, hown.cellAt i (by omega), List.getElem?_map, List.getElem?_eq_getElem hi]; rfl) hn hr hbs

theorem ss_of_rowD {w : World} {base : Nat} {ad : Option Addr} {cp : Nat} {ss : List ByteArray} (h : w.ownsRow base 9 1 (.slice ad ss.length cp) ss.length (ss.map .string)) : SS w ad ss := by
  rcases h.2 with ⟨_, h0⟩ | ⟨g, c, cur, hv, _⟩
  · exact .inl (List.eq_nil_of_length_eq_zero h0)
  · cases hv
    refine .inr ⟨g, 0, rfl, fun i hi => ?_⟩
    rw [Nat.zero_add, h.cellAt i (by omega), List.getElem?_map, List.getElem?_eq_getElem hi]
    rfl
theorem Fed.grown' {W W' : World} {bf : Nat} {n : Int} {rest : ByteArray} {sl : Value} {bad : Bool} {g : Nat} (h : Fed W bf n rest sl bad) (hg : W.grownBy W' (some g)) (hlt : g < bf) : Fed W' bf n rest sl bad := h.grown hg (by simp; omega)

/-- What is drawn of a decoder: few texts, none long. -/
structure Small (rest : ByteArray) (ss : List ByteArray) : Prop where
  rest : rest.size ≤ 100000000
  len : ss.length ≤ 2000
  each : ∀ s ∈ ss, s.size ≤ 5000
theorem Small.feed {m : Int} {rest : ByteArray} {ss : List ByteArray} {bad : Bool} {bytes : ByteArray} (hr : rest.size + bytes.size ≤ 100000000) (hl : ss.length ≤ 1000) (hs : ∀ s ∈ ss, s.size ≤ 5000) : Small (feedD m rest ss bad bytes).rest (feedD m rest ss bad bytes).fs := by
  unfold feedD
  split
  · rename_i hV
    obtain ⟨n, rfl, _, _, hl5, _⟩ := validD_parts hV
    split
    · exact ⟨Nat.zero_le _, by simp only; omega, hs⟩
    · have h1 := feedP_room n (500 - ss.length) (rest ++ bytes)
      have h2 := feedP_rest n (500 - ss.length) (rest ++ bytes)
      have h3 := feedP_sizes n (500 - ss.length) (rest ++ bytes)
      rw [ByteArray.size_append] at h2
      simp only [Int.toNat_natCast]
      refine ⟨by omega, by rw [List.length_append]; omega, fun s hs' => ?_⟩
      rcases List.mem_append.1 hs' with h | h
      · exact hs s h
      · have := (h3 s h).2; omega
  · exact ⟨Nat.zero_le _, by simp, by simp⟩

theorem Fed.other {W : World} {b b' i : Nat} {v : Value} {n : Int} {rest : ByteArray} {sl : Value} {bad : Bool} (h : Fed W b n rest sl bad) (hne : b' ≠ b) : Fed (W.setCell ⟨b', i, none⟩ v) b n rest sl bad := by
  have ho : ∀ j, (W.setCell ⟨b', i, none⟩ v).cell? ⟨b, j, none⟩ = W.cell? ⟨b, j, none⟩ := fun j => World.cell?_setCell_other W ⟨b', i, none⟩ ⟨b, j, none⟩ v (by intro e; injection e; exact hne (by assumption))
  exact ⟨(ho 0).trans h.c0, (ho 1).trans h.c1, (ho 2).trans h.c2, (ho 3).trans h.c3, fun j => by simpa using h.cf j⟩

/-- All that a drawing call holds: the reader, the answer's block, the variable's block, its row. -/
structure LD (w W : World) (g : Nat) (a : Option Addr) (cap : Nat) (zs : List Int) (p b3 B : Nat) (m : Int) (rest : ByteArray) (sl : Value) (bad : Bool) (ss : List ByteArray) : Prop where
  rd : Rd W g a cap zs p
  grown : w.grownBy W (some g)
  f2 : Fed W w.heap.size 0 ⟨#[]⟩ (.slice none 0 0) false
  f3 : Fed W b3 m rest sl bad
  own : W.ownsRow B 9 1 sl ss.length (ss.map .string)
  glt : g < w.heap.size
  lt3 : w.heap.size < b3
  ltB : b3 < B
  size : B ≤ W.heap.size

theorem LD.below {w W W' : World} {g : Nat} {a : Option Addr} {cap : Nat} {zs : List Int} {p b3 B : Nat} {m : Int} {rest : ByteArray} {sl : Value} {bad : Bool} {ss : List ByteArray} (h : LD w W g a cap zs p b3 B m rest sl bad ss) (hb : Below W.heap.size W W') : LD w W' g a cap zs p b3 B m rest sl bad ss :=
  ⟨h.rd.below hb, gr_trans h.grown (gr_below hb), h.f2.later hb, h.f3.later hb, owns_below h.own hb, h.glt, h.lt3, h.ltB, Nat.le_trans h.size hb.size⟩
theorem LD.pick {w W W' : World} {g : Nat} {a : Option Addr} {cap : Nat} {zs : List Int} {p p' b3 B : Nat} {m : Int} {rest : ByteArray} {sl : Value} {bad : Bool} {ss : List ByteArray} (h : LD w W g a cap zs p b3 B m rest sl bad ss) (hg : W.grownBy W' (some g)) (hR : Rd W' g a cap zs p') : LD w W' g a cap zs p' b3 B m rest sl bad ss := by
  have h1 := h.glt; have h2 := h.lt3; have h3 := h.ltB
  exact ⟨hR, gr_trans h.grown hg, h.f2.grown' hg h1, h.f3.grown' hg (by omega), owns_rd h.own hg (by omega), h.glt, h.lt3, h.ltB, Nat.le_trans h.size hg.size⟩
/-- A cell of the variable's block is written. -/
theorem LD.set {w W : World} {g : Nat} {a : Option Addr} {cap : Nat} {zs : List Int} {p b3 B : Nat} {m m' : Int} {rest rest' : ByteArray} {sl sl' : Value} {bad bad' : Bool} {ss ss' : List ByteArray} (h : LD w W g a cap zs p b3 B m rest sl bad ss) (i : Nat) (v : Value) (hf : Fed (W.setCell ⟨b3, i, none⟩ v) b3 m' rest' sl' bad') (ho : W.ownsRow B 9 1 sl' ss'.length (ss'.map .string)) : LD w (W.setCell ⟨b3, i, none⟩ v) g a cap zs p b3 B m' rest' sl' bad' ss' := by
  have h1 := h.glt; have h2 := h.lt3; have h3 := h.ltB
  refine ⟨h.rd.kept (grown_set W b3 i v) (fun k hk => by cases hk; omega), gr_own h.grown (grown_set W b3 i v) (fun j hj => by cases hj; omega), h.f2.other (by omega), hf, owns_set ho (fun e => by have := owns_row_ge ho e.symm; omega), h1, h2, h3, by simpa using h.size⟩
/-- The row is appended to. -/
theorem LD.app {w W W' : World} {g : Nat} {a : Option Addr} {cap : Nat} {zs : List Int} {p b3 B : Nat} {m : Int} {rest : ByteArray} {sl sl' : Value} {bad : Bool} {ss ss' : List ByteArray} (h : LD w W g a cap zs p b3 B m rest sl bad ss) (hg : W.grownBy W' sl.ownBlock) (ho : W'.ownsRow B 9 1 sl' ss'.length (ss'.map .string)) : LD w (W'.setCell ⟨b3, 2, none⟩ sl') g a cap zs p b3 B m rest sl' bad ss' := by
  have h1 := h.glt; have h2 := h.lt3; have h3 := h.ltB
  have hr : ∀ k, sl.ownBlock = some k → B ≤ k := fun k hk => owns_row_ge h.own hk
  have hf3 := h.f3.grown hg (fun e => by have := hr _ e.symm; omega)
  have hf2 := h.f2.grown hg (fun e => by have := hr _ e.symm; omega)
  have hR := h.rd.kept hg (fun k hk => by have := hr k hk; omega)
  have hG := gr_own h.grown hg (fun j hj => by have := hr j hj; omega)
  refine ⟨hR.kept (grown_set W' b3 2 sl') (fun k hk => by cases hk; omega), gr_own hG (grown_set W' b3 2 sl') (fun j hj => by cases hj; omega), hf2.other (by omega), hf3.set2, owns_set ho (fun e => by have := owns_row_ge ho e.symm; omega), h1, h2, h3, ?_⟩
  have := hg.size; have := h.size; simp; omega
/-- The answer is written. -/
theorem LD.ends {w W : World} {g : Nat} {a : Option Addr} {cap : Nat} {zs : List Int} {p b3 B : Nat} {m : Int} {rest : ByteArray} {sl : Value} {bad : Bool} {ss : List ByteArray} (h : LD w W g a cap zs p b3 B m rest sl bad ss) :
    Fed ((((W.setCell ⟨w.heap.size, 0, none⟩ (.int .i64 m)).setCell ⟨w.heap.size, 1, none⟩ (.string rest)).setCell ⟨w.heap.size, 2, none⟩ sl).setCell ⟨w.heap.size, 3, none⟩ (.bool bad)) w.heap.size m rest sl bad ∧
    ((((W.setCell ⟨w.heap.size, 0, none⟩ (.int .i64 m)).setCell ⟨w.heap.size, 1, none⟩ (.string rest)).setCell ⟨w.heap.size, 2, none⟩ sl).setCell ⟨w.heap.size, 3, none⟩ (.bool bad)).ownsRow w.heap.size 9 1 sl ss.length (ss.map .string) ∧
    Rd ((((W.setCell ⟨w.heap.size, 0, none⟩ (.int .i64 m)).setCell ⟨w.heap.size, 1, none⟩ (.string rest)).setCell ⟨w.heap.size, 2, none⟩ sl).setCell ⟨w.heap.size, 3, none⟩ (.bool bad)) g a cap zs p ∧
    w.grownBy ((((W.setCell ⟨w.heap.size, 0, none⟩ (.int .i64 m)).setCell ⟨w.heap.size, 1, none⟩ (.string rest)).setCell ⟨w.heap.size, 2, none⟩ sl).setCell ⟨w.heap.size, 3, none⟩ (.bool bad)) (some g) := by
  have h1 := h.glt; have h2 := h.lt3; have h3 := h.ltB
  have hap : some w.heap.size ≠ sl.ownBlock := fun e => by have := owns_row_ge h.own e.symm; omega
  have hk : ∀ k, some w.heap.size = some k → g < k := fun k hk => by cases hk; exact h1
  have hj : ∀ j, some w.heap.size = some j → w.heap.size ≤ j := fun j hj => by cases hj; exact Nat.le_refl _
  exact ⟨h.f2.set0.set1.set2.set3, owns_mono (owns_set (owns_set (owns_set (owns_set h.own hap) hap) hap) hap) (by omega), (((h.rd.kept (grown_set _ _ _ _) hk).kept (grown_set _ _ _ _) hk).kept (grown_set _ _ _ _) hk).kept (grown_set _ _ _ _) hk, gr_own (gr_own (gr_own (gr_own h.grown (grown_set _ _ _ _) hj) (grown_set _ _ _ _) hj) (grown_set _ _ _ _) hj) (grown_set _ _ _ _) hj⟩

theorem encV_size (ss : List ByteArray) (m : Int) : (encV ss m).size ≤ 1018 * 500 := by
  unfold encV
  split
  · rename_i hh
    simp only [Bool.and_eq_true] at hh
    obtain ⟨n, rfl, _, h8⟩ := isW_nat hh.1
    obtain ⟨hl, hs⟩ := pays_true hh.2
    have := encL_len ss n (fun s h => (hs s h).2) h8
    rw [Int.toNat_natCast, size_list]
    omega
  · exact Nat.zero_le _

def lenAt (b : Nat) (w : World) : Nat := match w.cell? ⟨b, 2, none⟩ with
  | some v => lenV v
  | none => 0

theorem feedD_500 (m : Int) (rest bytes : ByteArray) : (feedD m rest [] false bytes).fs.length ≤ 500 := by
  unfold feedD
  split
  · have := feedP_room m.toNat (500 - ([] : List ByteArray).length) (rest ++ bytes)
    simpa using this
  · simp

def DecDrawn (g : Nat) (a : Option Addr) (cap : Nat) (zs : List Int) (p : Nat) (w : World) (e : Ending) (w' : World) : Prop :=
  ∃ m rest ad cp ss bad, e = .returned (decV m rest (.slice ad (List.length ss) cp) bad) ∧ w'.ownsRow w.heap.size 9 1 (.slice ad ss.length cp) ss.length (ss.map .string) ∧ Small rest ss ∧ ss.length ≤ 500 ∧ Dr g a cap zs w w' p 1000

set_option maxRecDepth 20000 in
set_option maxHeartbeats 4000000 in
theorem l3Draw_any (g : Nat) (a : Option Addr) (cap : Nat) (zs : List Int) (p : Nat) (w : World) (h : Rd w g a cap zs p) (hp : p ≤ 10000000) :
    Calls Try.prog 39 #[.pointer (some ⟨g, 0, none⟩)] w fun e w' => DecDrawn g a cap zs p w e w' := by
  obtain ⟨i0, hi, hz0, hz1, hz2⟩ := info_parts Try.infoStr
  have hlt := h.lt
  go_enter Try.func39, Try.ntmps39
  go_wp2_with fail
  have hb0 : Below w.heap.size w (w.alloc (.cells #[.int .i64 0, .string ⟨#[]⟩, .slice none 0 0, .bool false] 32)) := (Below.refl _ _).alloc (Nat.le_refl _) _
  have h20 := fed_new w 0 ⟨#[]⟩ (.slice none 0 0) false
  refine (width_any g a cap zs p _ (h.below hb0) (by omega)).mono ?_
  rintro e w1 ⟨n, rfl, hn1, hn8, ⟨p1, hp1, hR1⟩, hgr1⟩
  have h21 := h20.grown' hgr1 hlt
  have hgx1 : w.grownBy w1 (some g) := gr_trans (gr_below hb0) hgr1
  have hs1 : w.heap.size + 1 ≤ w1.heap.size := by have := hgr1.size; simpa using this
  clear h20 hb0 hgr1
  have hal : Below w1.heap.size w1 (w1.alloc (.cells #[.int .i64 n, .string ⟨#[]⟩, .slice none 0 0, .bool false] 32)) := (Below.refl _ _).alloc (Nat.le_refl _) _
  have h22 := h21.later hal
  have h32 := fed_new w1 n ⟨#[]⟩ (.slice none 0 0) false
  have hR2 := hR1.below hal
  have hgx2 := gr_trans hgx1 (gr_below hal)
  have hb3 : w.heap.size < w1.heap.size := by omega
  go_wp2_with fail
  generalize w1.alloc (.cells #[.int .i64 n, .string ⟨#[]⟩, .slice none 0 0, .bool false] 32) = w2 at *
  generalize w1.heap.size = b3 at *
  have k0 := h32.c0
  have hpay := pays_any g a cap zs p1 w2.drew (hR2.below (w' := w2.drew) (Below.refl _ _).drew) (by omega)
  go_region_held3 (fun w' => w'.cell? ⟨b3, 0, none⟩ = some (.int .i64 n)) (first | go_keep | (exact e3) | (exact e4))
    ((first | (go_at_call 40; refine hpay.mono ?_; rintro e w3 ⟨adp, cpp, pp, rfl, ho3, hl3, hz3, ⟨p3, hp3, hR3⟩, hgr3⟩; have h33 := (h32.later (Below.refl _ _).drew).grown' hgr3 (by omega); have e3 := h33.c0; have henc := specEnc_any adp cpp pp (n : Int) w3 (ss_of_rowD ho3) (by unfold maxLen; omega)) | (go_at_call 8; refine henc.mono ?_; rintro e w4 ⟨rfl, hb4⟩; have h34 := h33.later hb4; have e4 := h34.c0)))
  have hse : (encV pp n).size ≤ 509000 := encV_size pp n
  generalize encV pp n = se at *
  have hb34 : Below w3.heap.size w3 w4 := hb4
  have hgx3 : w.grownBy w3 (some g) := gr_trans hgx2 (gr_trans (gr_below (w' := w2.drew) (Below.refl _ _).drew) hgr3)
  have h23 := (h22.later (W' := w2.drew) (Below.refl _ _).drew).grown' hgr3 hlt
  have hL4 : LD w w4 g a cap zs p3 b3 w4.heap.size n ⟨#[]⟩ (.slice none 0 0) false [] := ⟨hR3.below hb4, gr_trans hgx3 (gr_below hb4), h23.later hb4, h34, ⟨rfl, .inl ⟨rfl, rfl⟩⟩, hlt, hb3, h34.lt, Nat.le_refl _⟩
  clear h22 h32 h33 h34 h23 hR2 hR3 hgx2 hgx3 hgr3 hb4 hb34 e3 e4 henc hpay k0 ho3 hz3 hR1 h21 hgx1 hal
  go_wp2_with fail
  refine (pick_any g a cap zs p3 2 _ hL4.rd (by omega) (by omega) (by omega)).mono ?_
  rintro e w5 ⟨x5, rfl, hx5, hgr5, hR5⟩
  have hL5 := hL4.pick hgr5 hR5
  clear hL4 hgr5 hR5
  by_cases h50 : x5 = 0
  · have hB5 : ((x5 : Int) == 0) = true := by simp; omega
    clear h50
    go_wp2_with fail
    refine (bend_any g a cap zs (p3 + 1) se _ hL5.rd (by omega) (by omega)).mono ?_
    rintro e w6 ⟨s6, rfl, hs6, ⟨p6, hp6, hR6⟩, hgr6⟩
    have hL := hL5.pick hgr6 hR6
    clear hL5 hgr6 hR6
    have c0 := hL.f3.c0
    have c1 := hL.f3.c1
    have c2 := hL.f3.c2
    have c3 := hL.f3.c3
    have hB7 : b3 < w6.heap.size := hL.f3.lt
    go_wp2_with fail
    refine (specFeed_nil (n : Int) ⟨#[]⟩ [] rfl false s6 w6 (Nat.zero_le _) (by omega)).mono ?_
    rintro e w7 ⟨v7, rfl, ho7, hb7⟩
    have hsm : Small (feedD n ⟨#[]⟩ [] false s6).rest (feedD n ⟨#[]⟩ [] false s6).fs := Small.feed (by show 0 + s6.size ≤ 100000000; omega) (by simp) (by simp)
    have hfl := feedD_500 n ⟨#[]⟩ s6
    generalize feedD n ⟨#[]⟩ [] false s6 = d at *
    obtain ⟨ad7, cp7, rfl⟩ := owns_slice ho7
    unfold decV
    have hL7 : LD w w7 g a cap zs p6 b3 w6.heap.size n ⟨#[]⟩ (.slice none 0 0) false [] := by
      have := hL.below hb7
      exact ⟨this.rd, this.grown, this.f2, this.f3, ⟨rfl, .inl ⟨rfl, rfl⟩⟩, this.glt, this.lt3, hB7, hb7.size⟩
    have hnil : ∀ W : World, W.ownsRow w6.heap.size 9 1 (.slice none 0 0) ([] : List ByteArray).length (([] : List ByteArray).map .string) := fun W => ⟨rfl, .inl ⟨rfl, rfl⟩⟩
    have hap7 : some b3 ≠ (Value.slice ad7 d.fs.length cp7).ownBlock := fun e => by have := owns_row_ge ho7 e.symm; omega
    have hLa := hL7.set 0 (.int .i64 d.m) (hL7.f3.set0) (hnil _)
    have hLb := hLa.set 1 (.string d.rest) (hLa.f3.set1) (hnil _)
    have hLc := hLb.set 2 (.slice ad7 d.fs.length cp7) (hLb.f3.set2) (owns_set (owns_set ho7 hap7) hap7)
    have hL8 := hLc.set 3 (.bool d.bad) (hLc.f3.set3) hLc.own
    have x0 := hL7.f3.c0
    have x1 := hL7.f3.c1
    have x2 := hL7.f3.c2
    have x3 := hL7.f3.c3
    have xf := hL7.f3.cf
    clear c0 c1 c2 c3 hL hL7 hLa hLb hLc ho7 hb7 hnil
    go_wp2_with fail
    refine (pick_any g a cap zs p6 12 _ hL8.rd (by omega) (by omega) (by omega)).mono ?_
    rintro e w9 ⟨x, rfl, hx, hgr9, hR9⟩
    have hL := hL8.pick hgr9 hR9
    clear hL8 hgr9 hR9 x0 x1 x2 x3 xf
    generalize w6.heap.size = B at *
    by_cases hx0 : x = 0
    · have hB : ((x : Int) == 0) = true := by simp; omega
      clear hx0
      go_wp2_with fail
      refine (pick_any g a cap zs (p6 + 1) 2 _ hL.rd (by omega) (by omega) (by omega)).mono ?_
      rintro e w10 ⟨y, rfl, hy, hgr10, hR10⟩
      have hL := hL.pick hgr10 hR10
      clear hgr10 hR10
      go_wp2
      go_loopw [29] (fun _ wr => ∃ ss' ad' cp', ss'.length ≤ 500 ∧ Small d.rest ss' ∧ LD w wr g a cap zs (p6 + 1 + 1) b3 B d.m d.rest (.slice ad' (List.length ss') cp') d.bad ss') (fun _ wr => 600 - lenAt b3 wr)
      case atStart => exact ⟨d.fs, ad7, cp7, hfl, hsm, hL⟩
      case round =>
        obtain ⟨ss', ad', cp', hl', hsm', hLr⟩ := hrel
        have z2 := hLr.f3.c2
        have hm0 : lenAt b3 wr = ss'.length := by unfold lenAt; rw [z2]; rfl
        by_cases hlt' : (ss'.length : Int) < 500 - y
        · have ho := hLr.own
          have hBs := hLr.size
          have hBl := hLr.ltB
          have zf := hLr.f3.cf
          go_wp2_with (at_builtin; refine wpList_append_own _ rfl _ _ 22 rfl B 9 i0 _ 1 16 Try.underlying22 hi hz0 hz1 hz2 rfl (by decide) _ _ _ rfl (ho.alloc _) ⟨wr.heap.size, 0, none⟩ 1 1 [.string ⟨#[102]⟩] rfl rfl (cell_one_new _ _ _) (by simp [Value.oneCell']) (by unfold maxLen; omega) (by omega) (by simp; omega) ?_; intro v6 w6' ho6 hg6 _; obtain ⟨ad6, cp6, rfl⟩ := owns_slice ho6; have hfw := (hLr.f3.later ((Below.refl _ _).alloc (Nat.le_refl _) _)).grown hg6 (fun e => by have := owns_row_ge ho e.symm; omega); have q2 := hfw.c2; have qf := hfw.cf)
          refine ⟨⟨ss' ++ [⟨#[102]⟩], ad6, cp6, by simp; omega, ⟨hsm'.rest, by simp; omega, ?_⟩, ?_⟩, ?_⟩
          · intro u hu
            rcases List.mem_append.1 hu with h | h
            · exact hsm'.each u h
            · rw [List.mem_singleton.1 h]; show 1 ≤ 5000; omega
          · rw [show (ss' ++ [(⟨#[102]⟩ : ByteArray)]).length = ss'.length + 1 by simp]
            exact (hLr.below ((Below.refl _ _).alloc (Nat.le_refl _) _)).app hg6 (by rw [List.length_append, List.map_append]; exact ho6)
          · rw [hm0]
            have hfe := hfw.set2 (sl' := .slice ad6 (ss'.length + 1) cp6)
            unfold lenAt
            rw [hfe.c2]
            simp only [lenV]
            omega
        · have z0 := hLr.f3.c0
          have z1 := hLr.f3.c1
          have z3 := hLr.f3.c3
          have u0 := hLr.f2.c0
          have u1 := hLr.f2.c1
          have u2 := hLr.f2.c2
          have u3 := hLr.f2.c3
          have uf := hLr.f2.cf
          have hL := hLr
          clear hm0
          obtain ⟨hT, hO, hRd, hGr⟩ := hL.ends
          go_wp2
          generalize (((wr.setCell ⟨w.heap.size, 0, none⟩ (.int .i64 d.m)).setCell ⟨w.heap.size, 1, none⟩ (.string d.rest)).setCell ⟨w.heap.size, 2, none⟩ (.slice ad' ss'.length cp')).setCell ⟨w.heap.size, 3, none⟩ (.bool d.bad) = W9 at *
          have t0 := hT.c0
          have t1 := hT.c1
          have t2 := hT.c2
          have t3 := hT.c3
          refine bodyPost_ret (v := decV d.m d.rest (.slice ad' ss'.length cp') d.bad) ?_ rfl ⟨d.m, d.rest, _, _, ss', d.bad, rfl, hO, hsm', hl', ⟨_, by omega, hRd⟩, hGr⟩
          go_light
          simp [results, Try.results39, go_sem, t0, t1, t2, t3, decV]
    · have hB : ((x : Int) == 0) = false := by simp; omega
      clear hx0
      have z0 := hL.f3.c0
      have z1 := hL.f3.c1
      have z2 := hL.f3.c2
      have z3 := hL.f3.c3
      have u0 := hL.f2.c0
      have u1 := hL.f2.c1
      have u2 := hL.f2.c2
      have u3 := hL.f2.c3
      have uf := hL.f2.cf
      obtain ⟨hT, hO, hRd, hGr⟩ := hL.ends
      go_wp2
      generalize (((w9.setCell ⟨w.heap.size, 0, none⟩ (.int .i64 d.m)).setCell ⟨w.heap.size, 1, none⟩ (.string d.rest)).setCell ⟨w.heap.size, 2, none⟩ (.slice ad7 d.fs.length cp7)).setCell ⟨w.heap.size, 3, none⟩ (.bool d.bad) = W9 at *
      have t0 := hT.c0
      have t1 := hT.c1
      have t2 := hT.c2
      have t3 := hT.c3
      refine bodyPost_ret (v := decV d.m d.rest (.slice ad7 d.fs.length cp7) d.bad) ?_ rfl ⟨d.m, d.rest, _, _, d.fs, d.bad, rfl, hO, hsm, hfl, ⟨_, by omega, hRd⟩, hGr⟩
      go_light
      simp [results, Try.results39, go_sem, t0, t1, t2, t3, decV]
  · have hB5 : ((x5 : Int) == 0) = false := by simp; omega
    clear h50
    obtain ⟨s6, hs6e⟩ : ∃ s6, s6 = se := ⟨_, rfl⟩
    have hs6 : s6.size ≤ 2 * se.size + 2 := by rw [hs6e]; omega
    rw [← hs6e]
    obtain ⟨p6, hp6e⟩ : ∃ p6, p6 = p3 + 1 := ⟨_, rfl⟩
    rw [← hp6e] at hL5
    have hp6 : p6 ≤ p3 + 1 + 3 := by omega
    have hL := hL5
    clear hL5 hs6e hp6e
    generalize w5 = w6 at *
    have c0 := hL.f3.c0
    have c1 := hL.f3.c1
    have c2 := hL.f3.c2
    have c3 := hL.f3.c3
    have hB7 : b3 < w6.heap.size := hL.f3.lt
    go_wp2_with fail
    refine (specFeed_nil (n : Int) ⟨#[]⟩ [] rfl false s6 w6 (Nat.zero_le _) (by omega)).mono ?_
    rintro e w7 ⟨v7, rfl, ho7, hb7⟩
    have hsm : Small (feedD n ⟨#[]⟩ [] false s6).rest (feedD n ⟨#[]⟩ [] false s6).fs := Small.feed (by show 0 + s6.size ≤ 100000000; omega) (by simp) (by simp)
    have hfl := feedD_500 n ⟨#[]⟩ s6
    generalize feedD n ⟨#[]⟩ [] false s6 = d at *
    obtain ⟨ad7, cp7, rfl⟩ := owns_slice ho7
    unfold decV
    have hL7 : LD w w7 g a cap zs p6 b3 w6.heap.size n ⟨#[]⟩ (.slice none 0 0) false [] := by
      have := hL.below hb7
      exact ⟨this.rd, this.grown, this.f2, this.f3, ⟨rfl, .inl ⟨rfl, rfl⟩⟩, this.glt, this.lt3, hB7, hb7.size⟩
    have hnil : ∀ W : World, W.ownsRow w6.heap.size 9 1 (.slice none 0 0) ([] : List ByteArray).length (([] : List ByteArray).map .string) := fun W => ⟨rfl, .inl ⟨rfl, rfl⟩⟩
    have hap7 : some b3 ≠ (Value.slice ad7 d.fs.length cp7).ownBlock := fun e => by have := owns_row_ge ho7 e.symm; omega
    have hLa := hL7.set 0 (.int .i64 d.m) (hL7.f3.set0) (hnil _)
    have hLb := hLa.set 1 (.string d.rest) (hLa.f3.set1) (hnil _)
    have hLc := hLb.set 2 (.slice ad7 d.fs.length cp7) (hLb.f3.set2) (owns_set (owns_set ho7 hap7) hap7)
    have hL8 := hLc.set 3 (.bool d.bad) (hLc.f3.set3) hLc.own
    have x0 := hL7.f3.c0
    have x1 := hL7.f3.c1
    have x2 := hL7.f3.c2
    have x3 := hL7.f3.c3
    have xf := hL7.f3.cf
    clear c0 c1 c2 c3 hL hL7 hLa hLb hLc ho7 hb7 hnil
    go_wp2_with fail
    refine (pick_any g a cap zs p6 12 _ hL8.rd (by omega) (by omega) (by omega)).mono ?_
    rintro e w9 ⟨x, rfl, hx, hgr9, hR9⟩
    have hL := hL8.pick hgr9 hR9
    clear hL8 hgr9 hR9 x0 x1 x2 x3 xf
    generalize w6.heap.size = B at *
    by_cases hx0 : x = 0
    · have hB : ((x : Int) == 0) = true := by simp; omega
      clear hx0
      go_wp2_with fail
      refine (pick_any g a cap zs (p6 + 1) 2 _ hL.rd (by omega) (by omega) (by omega)).mono ?_
      rintro e w10 ⟨y, rfl, hy, hgr10, hR10⟩
      have hL := hL.pick hgr10 hR10
      clear hgr10 hR10
      go_wp2
      go_loopw [29] (fun _ wr => ∃ ss' ad' cp', ss'.length ≤ 500 ∧ Small d.rest ss' ∧ LD w wr g a cap zs (p6 + 1 + 1) b3 B d.m d.rest (.slice ad' (List.length ss') cp') d.bad ss') (fun _ wr => 600 - lenAt b3 wr)
      case atStart => exact ⟨d.fs, ad7, cp7, hfl, hsm, hL⟩
      case round =>
        obtain ⟨ss', ad', cp', hl', hsm', hLr⟩ := hrel
        have z2 := hLr.f3.c2
        have hm0 : lenAt b3 wr = ss'.length := by unfold lenAt; rw [z2]; rfl
        by_cases hlt' : (ss'.length : Int) < 500 - y
        · have ho := hLr.own
          have hBs := hLr.size
          have hBl := hLr.ltB
          have zf := hLr.f3.cf
          go_wp2_with (at_builtin; refine wpList_append_own _ rfl _ _ 22 rfl B 9 i0 _ 1 16 Try.underlying22 hi hz0 hz1 hz2 rfl (by decide) _ _ _ rfl (ho.alloc _) ⟨wr.heap.size, 0, none⟩ 1 1 [.string ⟨#[102]⟩] rfl rfl (cell_one_new _ _ _) (by simp [Value.oneCell']) (by unfold maxLen; omega) (by omega) (by simp; omega) ?_; intro v6 w6' ho6 hg6 _; obtain ⟨ad6, cp6, rfl⟩ := owns_slice ho6; have hfw := (hLr.f3.later ((Below.refl _ _).alloc (Nat.le_refl _) _)).grown hg6 (fun e => by have := owns_row_ge ho e.symm; omega); have q2 := hfw.c2; have qf := hfw.cf)
          refine ⟨⟨ss' ++ [⟨#[102]⟩], ad6, cp6, by simp; omega, ⟨hsm'.rest, by simp; omega, ?_⟩, ?_⟩, ?_⟩
          · intro u hu
            rcases List.mem_append.1 hu with h | h
            · exact hsm'.each u h
            · rw [List.mem_singleton.1 h]; show 1 ≤ 5000; omega
          · rw [show (ss' ++ [(⟨#[102]⟩ : ByteArray)]).length = ss'.length + 1 by simp]
            exact (hLr.below ((Below.refl _ _).alloc (Nat.le_refl _) _)).app hg6 (by rw [List.length_append, List.map_append]; exact ho6)
          · rw [hm0]
            have hfe := hfw.set2 (sl' := .slice ad6 (ss'.length + 1) cp6)
            unfold lenAt
            rw [hfe.c2]
            simp only [lenV]
            omega
        · have z0 := hLr.f3.c0
          have z1 := hLr.f3.c1
          have z3 := hLr.f3.c3
          have u0 := hLr.f2.c0
          have u1 := hLr.f2.c1
          have u2 := hLr.f2.c2
          have u3 := hLr.f2.c3
          have uf := hLr.f2.cf
          have hL := hLr
          clear hm0
          obtain ⟨hT, hO, hRd, hGr⟩ := hL.ends
          go_wp2
          generalize (((wr.setCell ⟨w.heap.size, 0, none⟩ (.int .i64 d.m)).setCell ⟨w.heap.size, 1, none⟩ (.string d.rest)).setCell ⟨w.heap.size, 2, none⟩ (.slice ad' ss'.length cp')).setCell ⟨w.heap.size, 3, none⟩ (.bool d.bad) = W9 at *
          have t0 := hT.c0
          have t1 := hT.c1
          have t2 := hT.c2
          have t3 := hT.c3
          refine bodyPost_ret (v := decV d.m d.rest (.slice ad' ss'.length cp') d.bad) ?_ rfl ⟨d.m, d.rest, _, _, ss', d.bad, rfl, hO, hsm', hl', ⟨_, by omega, hRd⟩, hGr⟩
          go_light
          simp [results, Try.results39, go_sem, t0, t1, t2, t3, decV]
    · have hB : ((x : Int) == 0) = false := by simp; omega
      clear hx0
      have z0 := hL.f3.c0
      have z1 := hL.f3.c1
      have z2 := hL.f3.c2
      have z3 := hL.f3.c3
      have u0 := hL.f2.c0
      have u1 := hL.f2.c1
      have u2 := hL.f2.c2
      have u3 := hL.f2.c3
      have uf := hL.f2.cf
      obtain ⟨hT, hO, hRd, hGr⟩ := hL.ends
      go_wp2
      generalize (((w9.setCell ⟨w.heap.size, 0, none⟩ (.int .i64 d.m)).setCell ⟨w.heap.size, 1, none⟩ (.string d.rest)).setCell ⟨w.heap.size, 2, none⟩ (.slice ad7 d.fs.length cp7)).setCell ⟨w.heap.size, 3, none⟩ (.bool d.bad) = W9 at *
      have t0 := hT.c0
      have t1 := hT.c1
      have t2 := hT.c2
      have t3 := hT.c3
      refine bodyPost_ret (v := decV d.m d.rest (.slice ad7 d.fs.length cp7) d.bad) ?_ rfl ⟨d.m, d.rest, _, _, d.fs, d.bad, rfl, hO, hsm, hfl, ⟨_, by omega, hRd⟩, hGr⟩
      go_light
      simp [results, Try.results39, go_sem, t0, t1, t2, t3, decV]
end Go.Proofs.Ytdlbmjmhlcaalaa
