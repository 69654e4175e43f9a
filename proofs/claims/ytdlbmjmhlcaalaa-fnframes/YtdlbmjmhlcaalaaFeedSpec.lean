/-
  spec.Feed.
-/
import Derived.Test.YtdlbmjmhlcaalaaFeedImpl
import Derived.Deep.DeepCutAuto
import Derived.Deep.RegionLaw
namespace Go.Proofs.Ytdlbmjmhlcaalaa
open Go.RowKit

theorem fedB2 {w w2 : World} {n : Int} {rest : ByteArray} {dsl : Value} {bad : Bool} {sl : Value} {ss : List ByteArray} (hP : Pre w w2 n rest dsl bad) (hown : w2.ownsRow (w.heap.size + 2) 9 1 sl ss.length (ss.map .string)) :
    FedAt w (w2.alloc (.cells #[.int .i64 n, .string ⟨#[]⟩, sl, .bool bad] 32)) w2.heap.size n rest dsl bad sl ss :=
  ⟨hP.later ((Below.refl _ _).alloc (Nat.le_refl _) _), fed_new _ _ _ _ _, hown.alloc _, hP.lt, fun e => by have := own_lt hown e.symm; omega⟩
theorem fedA2 {w w2 : World} {bf : Nat} {n : Int} {rest : ByteArray} {dsl : Value} {bad : Bool} {sl : Value} {ss : List ByteArray} (hP : Pre w w2 n rest dsl bad) (hf : Fed w2 bf 0 ⟨#[]⟩ (.slice none 0 0) false) (hown : w2.ownsRow (w.heap.size + 2) 9 1 sl ss.length (ss.map .string)) (hlt : w.heap.size + 1 < bf) (hap : some bf ≠ sl.ownBlock) :
    FedAt w ((((w2.setCell ⟨bf, 0, none⟩ (.int .i64 n)).setCell ⟨bf, 1, none⟩ (.string ⟨#[]⟩)).setCell ⟨bf, 2, none⟩ sl).setCell ⟨bf, 3, none⟩ (.bool bad)) bf n rest dsl bad sl ss :=
  ⟨(((hP.set _ _ _ hlt).set _ _ _ hlt).set _ _ _ hlt).set _ _ _ hlt, ((hf.set0).set1.set2).set3, owns_set (owns_set (owns_set (owns_set hown hap) hap) hap) hap, hlt, hap⟩
theorem Fed.grown {W W' : World} {bf : Nat} {n : Int} {rest : ByteArray} {sl : Value} {bad : Bool} {row : Option Nat} (h : Fed W bf n rest sl bad) (hg : W.grownBy W' row) (hne : some bf ≠ row) : Fed W' bf n rest sl bad :=
  ⟨hg.cell h.c0 hne, hg.cell h.c1 hne, hg.cell h.c2 hne, hg.cell h.c3 hne, fun j => (hg.frozen_far ⟨bf, j, none⟩ h.lt hne).trans (h.cf j)⟩
theorem FedAt.later {w W W' : World} {bf : Nat} {n : Int} {rest : ByteArray} {dsl : Value} {bad : Bool} {sl : Value} {ss : List ByteArray} (h : FedAt w W bf n rest dsl bad sl ss) (hb : Below W.heap.size W W') : FedAt w W' bf n rest dsl bad sl ss :=
  ⟨h.pre.later hb, h.fed.later hb, owns_below h.own hb, h.ne, h.apart⟩
theorem FedAt.drew {w W : World} {bf : Nat} {n : Int} {rest : ByteArray} {dsl : Value} {bad : Bool} {sl : Value} {ss : List ByteArray} (h : FedAt w W bf n rest dsl bad sl ss) : FedAt w W.drew bf n rest dsl bad sl ss := h.later (Below.refl _ _).drew
def strSize : Value → Nat
  | .string s => s.size
  | _ => 0
theorem own_nil (w : World) (base : Nat) (h : base ≤ w.heap.size) : (w.alloc (.cells #[] 9)).ownsRow base 9 1 (.slice (some ⟨w.heap.size, 0, none⟩) 0 0) 0 [] :=
  ⟨by simp, .inr ⟨w.heap.size, 0, #[], rfl, h, heap_alloc_new w _, Nat.le_refl _, by unfold maxLen; omega, rfl, by simp⟩⟩

/-- Nothing is appended to an empty row of no room. -/
theorem step_app0 {ops : Array Oper} {o : Oper} {a : Act} {w : World} {K : Act → World → Prop} {Q : Exit → Act → World → Prop} {E : Prop} (hg : o.guard = none) (s x : Operand) (hop : o.op = Op.call { callee := Callee.builtin Builtin.append, args := #[s, x], argTypes := #[22, 22] })
    (i : TypeInfo) (hi : Try.prog.info? 9 = some i) (hz : i.size = 1) (X : Nat) (hs : a.eval s = .slice (some ⟨X, 0, none⟩) 0 0) (ad : Addr) (m c : Nat) (hm : m = 0) (hx : a.eval x = .slice (some ad) m c)
    (hK : K (a.put o.dst (.slice (some ⟨X, 0, none⟩) m 0)) w) : if Region.wanted o (yielded ops a.tmps) = true then Oper.wp Try.prog o a w K Q else E := by
  subst hm
  exact step_append_room hg s x 22 hop 9 i 1 Try.underlying22 hi hz X 0 0 0 hs ad 0 c [] hx rfl (fun j u h => by simp at h) (fun u h => by simp at h) (Nat.le_refl _) (fun j h => by simp at h) hK

set_option maxRecDepth 20000 in
set_option maxHeartbeats 4000000 in
theorem specFeed_any (m : Int) (rest : ByteArray) (b off : Nat) (cap : Nat) (ss : List ByteArray) (bad : Bool) (bytes : ByteArray) (w : World) (hss : ∀ i (h : i < ss.length), w.cell? ⟨b, off + i, none⟩ = some (.string ss[i])) (hn : ss.length ≤ maxLen) (hr : rest.size ≤ 1073741824) (hbs : bytes.size ≤ 1073741824) :
    Calls Try.prog 17 #[decV m rest (.slice (some ⟨b, off, none⟩) ss.length cap) bad, .string bytes] w fun e w' => FeedPost w (feedD m rest ss bad bytes) e w' := by
  obtain ⟨i0, hi, hz0, hz1, hz2⟩ := info_parts Try.infoStr
  have hSS : SS w (some ⟨b, off, none⟩) ss := .inr ⟨b, off, rfl, hss⟩
  have hbA : Below w.heap.size w ((w.alloc (.cells #[.int .i64 m, .string rest, .slice (some ⟨b, off, none⟩) ss.length cap, .bool bad] 32)).alloc (.cells #[.int .i64 0, .string ⟨#[]⟩, .slice none 0 0, .bool false] 32)) := ((Below.refl _ _).alloc (Nat.le_refl _) _).alloc (by simp) _
  have hval := specValidD_any m rest (some ⟨b, off, none⟩) cap ss bad _ (hSS.below hbA) hn (by omega)
  unfold decV at hval ⊢
  cases hV : validD m rest ss bad
  · rw [hV] at hval
    rw [show feedD m rest ss bad bytes = ⟨0, ⟨#[]⟩, [], false⟩ by simp [feedD, hV]]
    go_enter Try.func17, Try.ntmps17
    go_wp2_with fail
    refine hval.mono ?_
    rintro e w1 ⟨rfl, hb1⟩
    have d10 := hb1.cell (p := ⟨w.heap.size + 1, 0, none⟩) (by simp)
    have d11 := hb1.cell (p := ⟨w.heap.size + 1, 1, none⟩) (by simp)
    have d12 := hb1.cell (p := ⟨w.heap.size + 1, 2, none⟩) (by simp)
    have d13 := hb1.cell (p := ⟨w.heap.size + 1, 3, none⟩) (by simp)
    have f1 : ∀ j, w1.frozen? ⟨w.heap.size + 1, j, none⟩ = false := fun j => by rw [hb1.frozen (p := ⟨w.heap.size + 1, j, none⟩) (by simp)]; simp [go_sem]
    simp [go_sem] at d10 d11 d12 d13
    have hb0 : Below w.heap.size w w1 := hbA.trans (hb1.mono hbA.size)
    go_wp2
    refine bodyPost_ret (v := decV 0 ⟨#[]⟩ (.slice none 0 0) false) ?_ rfl ⟨.slice none 0 0, rfl, ⟨rfl, .inl ⟨rfl, rfl⟩⟩, ?_⟩
    · go_light
      simp [results, Try.results17, go_sem, d10, d11, d12, d13, decV]
    · exact (((hb0.setCell (by simp) _).setCell (by simp) _).setCell (by simp) _).setCell (by simp) _
  · rw [hV] at hval
    obtain ⟨n, rfl, h1, h8, hl5, hss5⟩ := validD_parts hV
    go_enter Try.func17, Try.ntmps17
    go_wp2_with fail
    refine hval.mono ?_
    rintro e w1 ⟨rfl, hb1⟩
    have d00 := hb1.cell (p := ⟨w.heap.size, 0, none⟩) (by simp; omega)
    have d01 := hb1.cell (p := ⟨w.heap.size, 1, none⟩) (by simp; omega)
    have d02 := hb1.cell (p := ⟨w.heap.size, 2, none⟩) (by simp; omega)
    have d03 := hb1.cell (p := ⟨w.heap.size, 3, none⟩) (by simp; omega)
    have d10 := hb1.cell (p := ⟨w.heap.size + 1, 0, none⟩) (by simp)
    have d11 := hb1.cell (p := ⟨w.heap.size + 1, 1, none⟩) (by simp)
    have d12 := hb1.cell (p := ⟨w.heap.size + 1, 2, none⟩) (by simp)
    have d13 := hb1.cell (p := ⟨w.heap.size + 1, 3, none⟩) (by simp)
    have f1 : ∀ j, w1.frozen? ⟨w.heap.size + 1, j, none⟩ = false := fun j => by rw [hb1.frozen (p := ⟨w.heap.size + 1, j, none⟩) (by simp)]; simp [go_sem]
    simp [go_sem] at d00 d01 d02 d03 d10 d11 d12 d13
    have hb0 : Below w.heap.size w w1 := hbA.trans (hb1.mono hbA.size)
    have hw1 := hb0.size
    have hw1' : w.heap.size + 1 < w1.heap.size := by have := hb1.size; simp at this; omega
    have hP : Pre w w1 (n : Int) rest (.slice (some ⟨b, off, none⟩) ss.length cap) bad := ⟨d00, d01, d02, d03, d10, d11, d12, d13, f1, hb0, hw1'⟩
    clear hval hb1 hbA
    go_upto_region 3 with fail
    go_cut [5] (fun s5 wx => ∃ bf ad cp, s5 = .pointer (some ⟨bf, 0, none⟩) ∧ FedAt w wx bf n rest (.slice (some ⟨b, off, none⟩) ss.length cap) bad (.slice ad ss.length cp) ss)
    case first =>
      have hnl : (ss.map Value.string).length = ss.length * 1 := by simp
      have hn1 : ∀ u ∈ ss.map Value.string, u.oneCell' = true := by
        intro u hu
        simp only [List.mem_map] at hu
        obtain ⟨x, _, rfl⟩ := hu
        rfl
      have hnews : ∀ W, Below w.heap.size w W → ∀ j u, (ss.map Value.string)[j]? = some u → W.cell? (Addr.add ⟨b, off, none⟩ j) = some u := by
        intro W hW j u hu
        have hj : j < ss.length := by have := (List.getElem?_eq_some_iff.1 hu).1; simpa using this
        rw [Go.WideShapes.add_plain]
        refine cell_later hW ((hss j hj).trans ?_)
        rw [← hu, List.getElem?_map, List.getElem?_eq_getElem hj]
        rfl
      have hw2 : w.heap.size + 2 ≤ w1.heap.size := hw1'
      have hE := own_nil w1 (w.heap.size + 2) hw2
      have hEZ := hE.alloc (.cells #[.int .i64 0, .string ⟨#[]⟩, .slice none 0 0, .bool false] 32)
      have hZE := own_nil (w1.alloc (.cells #[.int .i64 0, .string ⟨#[]⟩, .slice none 0 0, .bool false] 32)) (w.heap.size + 2) (by simp; omega)
      have bE : Below w.heap.size w (w1.alloc (.cells #[] 9)) := hb0.alloc hw1 _
      have bEZ : Below w.heap.size w ((w1.alloc (.cells #[] 9)).alloc (.cells #[.int .i64 0, .string ⟨#[]⟩, .slice none 0 0, .bool false] 32)) := bE.alloc bE.size _
      have bZ : Below w.heap.size w (w1.alloc (.cells #[.int .i64 0, .string ⟨#[]⟩, .slice none 0 0, .bool false] 32)) := hb0.alloc hw1 _
      have bZE : Below w.heap.size w ((w1.alloc (.cells #[.int .i64 0, .string ⟨#[]⟩, .slice none 0 0, .bool false] 32)).alloc (.cells #[] 9)) := bZ.alloc bZ.size _
      have pE := hP.later ((Below.refl _ _).alloc (Nat.le_refl _) (.cells #[] 9))
      have pEZ := pE.later ((Below.refl _ _).alloc (Nat.le_refl _) (.cells #[.int .i64 0, .string ⟨#[]⟩, .slice none 0 0, .bool false] 32))
      have pZ := hP.later ((Below.refl _ _).alloc (Nat.le_refl _) (.cells #[.int .i64 0, .string ⟨#[]⟩, .slice none 0 0, .bool false] 32))
      have pZE := pZ.later ((Below.refl _ _).alloc (Nat.le_refl _) (.cells #[] 9))
      have fEZ := fed_new (w1.alloc (.cells #[] 9)) 0 ⟨#[]⟩ (.slice none 0 0) false
      have fZE := (fed_new w1 0 ⟨#[]⟩ (.slice none 0 0) false).later ((Below.refl _ _).alloc (Nat.le_refl _) (.cells #[] 9))
      have pE0 := pE
      have pE := pE.later (Below.refl _ _).drew
      have pEZ := pEZ.later (Below.refl _ _).drew
      have pZE := pZE.later (Below.refl _ _).drew
      have fEZ := fEZ.later (Below.refl _ _).drew
      have fZE := fZE.later (Below.refl _ _).drew
      have zE : w.heap.size + 2 ≤ (w1.alloc (.cells #[] 9)).drew.heap.size := by simp; omega
      have zEZ : w.heap.size + 2 ≤ ((w1.alloc (.cells #[] 9)).alloc (.cells #[.int .i64 0, .string ⟨#[]⟩, .slice none 0 0, .bool false] 32)).drew.heap.size := by simp; omega
      have zZE : w.heap.size + 2 ≤ ((w1.alloc (.cells #[.int .i64 0, .string ⟨#[]⟩, .slice none 0 0, .bool false] 32)).alloc (.cells #[] 9)).drew.heap.size := by simp; omega
      have hneE : some (w1.heap.size + 1) ≠ (Value.slice (some ⟨w1.heap.size, 0, none⟩) 0 0).ownBlock := by simp [Value.ownBlock]
      have hneZ : some w1.heap.size ≠ (Value.slice (some ⟨w1.heap.size + 1, 0, none⟩) 0 0).ownBlock := by simp [Value.ownBlock]
      have hi1 : ¬ w.heap.size = w1.heap.size := by omega
      have hi2 : ¬ w1.heap.size = w.heap.size := by omega
      have hi3 : ¬ w.heap.size = w1.heap.size + 1 := by omega
      have hi4 : ¬ w1.heap.size + 1 = w.heap.size := by omega
      simp only [World.size_alloc] at hZE fEZ
      by_cases hs0 : ss = []
      · have h0 : ss.length = 0 := by rw [hs0]; rfl
        have t0 := pE.d0
        have t2 := pE.d2
        have t3 := pE.d3
        have v0 := pEZ.d0
        have v2 := pEZ.d2
        have v3 := pEZ.d3
        have y0 := pZE.d0
        have y2 := pZE.d2
        have y3 := pZE.d3
        have HS : Hid (ss = []) := hs0
        have H0 : Hid (ss.length = 0) := h0
        have hE0 : (w1.alloc (.cells #[] 9)).ownsRow (w.heap.size + 2) 9 1 (.slice (some ⟨w1.heap.size, 0, none⟩) ss.length 0) ss.length (ss.map .string) := by rw [HS.out]; exact hE
        clear hs0 h0
        go_region_held3 (fun w' => w'.cell? ⟨w.heap.size, 0, none⟩ = some (.int .i64 (n : Int)) ∧ w'.cell? ⟨w.heap.size, 2, none⟩ = some (.slice (some ⟨b, off, none⟩) ss.length cap) ∧ w'.cell? ⟨w.heap.size, 3, none⟩ = some (.bool bad)) (first | go_keep | (exact ⟨t0, t2, t3⟩) | (exact ⟨v0, v2, v3⟩) | (exact ⟨y0, y2, y3⟩))
          ((first | (refine step_app0 (by rfl) _ _ (by rfl) i0 hi hz1 (w1.heap.size) (by rfl) ⟨b, off, none⟩ ss.length cap H0.out (by rfl) ?_) | (refine step_app0 (by rfl) _ _ (by rfl) i0 hi hz1 (w1.heap.size + 1) (by rfl) ⟨b, off, none⟩ ss.length cap H0.out (by rfl) ?_)))
        all_goals go_wp2_with fail
        all_goals go_meet
        · exact ⟨_, _, _, by simp, (fedB2 pE0 hE0).drew⟩
        · exact ⟨_, _, _, by simp, (fedB2 pE0 hE0).drew⟩
        · refine ⟨w1.heap.size, _, _, rfl, FedAt.drew ⟨(hP.later ((Below.refl _ _).alloc (Nat.le_refl _) _)).later ((Below.refl _ _).alloc (Nat.le_refl _) _), (fed_new w1 n ⟨#[]⟩ (.slice (some ⟨w1.heap.size + 1, 0, none⟩) ss.length 0) bad).later ((Below.refl _ _).alloc (Nat.le_refl _) _), ?_, hw1', ?_⟩⟩
          · have hx := own_nil (w1.alloc (.cells #[.int .i64 (n : Int), .string ⟨#[]⟩, .slice (some ⟨w1.heap.size + 1, 0, none⟩) ss.length 0, .bool bad] 32)) (w.heap.size + 2) (by simp; omega)
            rw [HS.out] at hx ⊢
            simpa using hx
          · simp [Value.ownBlock]
      · have hpos : 0 < ss.length := List.length_pos_iff.2 hs0
        go_region_held3 (fun w' => w'.cell? ⟨w.heap.size, 0, none⟩ = some (.int .i64 (n : Int)) ∧ w'.cell? ⟨w.heap.size, 2, none⟩ = some (.slice (some ⟨b, off, none⟩) ss.length cap) ∧ w'.cell? ⟨w.heap.size, 3, none⟩ = some (.bool bad)) (first | go_keep | (exact ⟨s0, s2, s3⟩))
          ((first | (refine step_append_lies _ (by rfl) _ _ 22 (by rfl) (w.heap.size + 2) 9 i0 _ 1 16 Try.underlying22 hi hz0 hz1 hz2 rfl (by decide) (.slice (some ⟨w1.heap.size, 0, none⟩) 0 0) 0 [] (by rfl) hEZ.drew ⟨b, off, none⟩ ss.length cap (ss.map .string) (by rfl) hnl (hnews _ bEZ.drew) hn1 hpos (by unfold maxLen; omega) (by omega) zEZ (w1.heap.size + 1 + 1) (by simp) ?_; intro g2 cap2 w2 hown2 hgrow2 hat2 hlt2; have pw := pEZ.grown hgrow2 (fun k hk => owns_row_ge hE hk); have s0 := pw.d0; have s2 := pw.d2; have s3 := pw.d3; have fw := fEZ.grown hgrow2 hneE; have q0 := fw.c0; have q1 := fw.c1; have q2 := fw.c2; have q3 := fw.c3; have qf := fw.cf) | (refine step_append_lies _ (by rfl) _ _ 22 (by rfl) (w.heap.size + 2) 9 i0 _ 1 16 Try.underlying22 hi hz0 hz1 hz2 rfl (by decide) (.slice (some ⟨w1.heap.size + 1, 0, none⟩) 0 0) 0 [] (by rfl) hZE.drew ⟨b, off, none⟩ ss.length cap (ss.map .string) (by rfl) hnl (hnews _ bZE.drew) hn1 hpos (by unfold maxLen; omega) (by omega) zZE (w1.heap.size + 1 + 1) (by simp) ?_; intro g2 cap2 w2 hown2 hgrow2 hat2 hlt2; have pw := pZE.grown hgrow2 (fun k hk => owns_row_ge hZE hk); have s0 := pw.d0; have s2 := pw.d2; have s3 := pw.d3; have fw := fZE.grown hgrow2 hneZ; have q0 := fw.c0; have q1 := fw.c1; have q2 := fw.c2; have q3 := fw.c3; have qf := fw.cf) | (refine step_append_lies _ (by rfl) _ _ 22 (by rfl) (w.heap.size + 2) 9 i0 _ 1 16 Try.underlying22 hi hz0 hz1 hz2 rfl (by decide) (.slice (some ⟨w1.heap.size, 0, none⟩) 0 0) 0 [] (by rfl) hE.drew ⟨b, off, none⟩ ss.length cap (ss.map .string) (by rfl) hnl (hnews _ bE.drew) hn1 hpos (by unfold maxLen; omega) (by omega) zE (w1.heap.size + 1) (by simp) ?_; intro g2 cap2 w2 hown2 hgrow2 hat2 hlt2; have pw := pE.grown hgrow2 (fun k hk => owns_row_ge hE hk); have s0 := pw.d0; have s2 := pw.d2; have s3 := pw.d3)))
        all_goals simp only [Nat.zero_add, List.nil_append] at hown2
        all_goals go_wp2_with fail
        all_goals go_meet
        · exact ⟨_, _, _, rfl, fedB2 pw hown2⟩
        · refine ⟨_, _, _, rfl, fedA2 pw fw hown2 (by omega) ?_⟩
          intro e
          have e' : w1.heap.size + 1 = g2 := by simpa [Value.ownBlock] using e
          rcases hat2 with h | h
          · have h' : w1.heap.size = g2 := by simpa [Value.ownBlock] using h
            omega
          · omega
        · refine ⟨_, _, _, rfl, fedA2 pw fw hown2 hw1' ?_⟩
          intro e
          have e' : w1.heap.size = g2 := by simpa [Value.ownBlock] using e
          rcases hat2 with h | h
          · have h' : w1.heap.size + 1 = g2 := by simpa [Value.ownBlock] using h
            omega
          · omega
    case rest =>
      obtain ⟨bf, ad2, cp2, rfl, hF⟩ := hcut
      clear hP d00 d01 d02 d03 d10 d11 d12 d13 f1 hb0 hw1 hw1'
      have hne := hF.ne
      have hx1 : ¬ w.heap.size + 1 = bf := by omega
      have hx2 : ¬ bf = w.heap.size + 1 := by omega
      cases bad
      · have HD : Hid (feedD n rest ss false bytes = ⟨n, (feedP n (500 - ss.length) (rest ++ bytes)).2.1, ss ++ (feedP n (500 - ss.length) (rest ++ bytes)).1, (feedP n (500 - ss.length) (rest ++ bytes)).2.2⟩) := by
          have : feedD n rest ss false bytes = ⟨n, (feedP n (500 - ss.length) (rest ++ bytes)).2.1, ss ++ (feedP n (500 - ss.length) (rest ++ bytes)).1, (feedP n (500 - ss.length) (rest ++ bytes)).2.2⟩ := by simp [feedD, hV]
          exact this
        have hcat : ¬ 9223372036854775807 < rest.size + bytes.size := by omega
        have b1 := hF.pre.d1
        have b3 := hF.pre.d3
        go_wp2
        go_loopw [6] (fun s6 wr => ∃ rs ts room ad cp, s6 = .string rs ∧ rs.size ≤ 2147483648 ∧ ss.length + ts.length + room = 500 ∧ feedP n (500 - ss.length) (rest ++ bytes) = (ts ++ (feedP n room rs).1, (feedP n room rs).2) ∧ FedAt w wr bf n rest (.slice (some ⟨b, off, none⟩) ss.length cap) false (.slice ad (ss ++ ts).length cp) (ss ++ ts)) (fun s6 _ => strSize s6)
        case atStart =>
          exact ⟨rest ++ bytes, [], 500 - ss.length, ad2, cp2, rfl, by rw [ByteArray.size_append]; omega, by simp; omega, by simp, by rw [List.append_nil]; exact hF⟩
        case round =>
          obtain ⟨rs, ts, room, ad, cp, rfl, hrs, hroom, hfp, hFr⟩ := hrel
          have HP : Hid (feedP n (500 - ss.length) (rest ++ bytes) = (ts ++ (feedP n room rs).1, (feedP n room rs).2)) := hfp
          obtain ⟨fs, hfs⟩ : ∃ fs, fs = ss ++ ts := ⟨_, rfl⟩
          rw [← hfs] at hFr
          have hlen : fs.length + room = 500 := by rw [hfs, List.length_append]; omega
          have HFS : Hid (fs = ss ++ ts) := hfs
          have b0 := hFr.pre.d0
          clear hfp b1 b3 hF hfs hroom
          go_wp2_with fail
          refine (l3Front_any rs n wr (by omega) h1 h8).mono ?_
          rintro e w2 ⟨rfl, hb2⟩
          have hF2 := hFr.later hb2
          clear hFr hb2 b0
          have c0 := hF2.fed.c0
          have c1 := hF2.fed.c1
          have c2 := hF2.fed.c2
          have c3 := hF2.fed.c3
          have cf := hF2.fed.cf
          have o0 := hF2.pre.o0
          have o1 := hF2.pre.o1
          have o2 := hF2.pre.o2
          have o3 := hF2.pre.o3
          have of := hF2.pre.of
          cases hf : front rs n using Front.three with
          | more =>
            have HV : Hid (feedD n rest ss false bytes = ⟨n, rs, fs, false⟩) := by
              have : feedD n rest ss false bytes = ⟨n, rs, fs, false⟩ := by rw [HD.out, HP.out, feedP_more hf, HFS.out]; simp
              exact this
            have hT := told (hF2.pre.set bf 1 (.string rs) hne) ⟨n, rs, fs, false⟩ (.slice ad fs.length cp) (owns_set hF2.own hF2.apart)
            simp only at hT
            simp only [frontV]
            go_wp2
            generalize ((((w2.setCell ⟨bf, 1, none⟩ (.string rs)).setCell ⟨w.heap.size + 1, 0, none⟩ (.int .i64 (n : Int))).setCell ⟨w.heap.size + 1, 1, none⟩ (.string rs)).setCell ⟨w.heap.size + 1, 2, none⟩ (.slice ad fs.length cp)).setCell ⟨w.heap.size + 1, 3, none⟩ (.bool false) = W9 at *
            have t0 := hT.c0
            have t1 := hT.c1
            have t2 := hT.c2
            have t3 := hT.c3
            simp only at t0 t1 t2 t3
            rw [HV.out]
            refine bodyPost_ret (v := decV n rs (.slice ad fs.length cp) false) ?_ rfl ⟨_, rfl, hT.own, hT.below⟩
            go_light
            simp [results, Try.results17, go_sem, t0, t1, t2, t3, decV]
          | bad =>
            have HV : Hid (feedD n rest ss false bytes = ⟨n, ⟨#[]⟩, fs, true⟩) := by
              have : feedD n rest ss false bytes = ⟨n, ⟨#[]⟩, fs, true⟩ := by rw [HD.out, HP.out, feedP_bad hf, HFS.out]; simp
              exact this
            have hT := told (hF2.pre.set bf 3 (.bool true) hne) ⟨n, ⟨#[]⟩, fs, true⟩ (.slice ad fs.length cp) (owns_set hF2.own hF2.apart)
            simp only at hT
            simp only [frontV]
            go_wp2
            generalize ((((w2.setCell ⟨bf, 3, none⟩ (.bool true)).setCell ⟨w.heap.size + 1, 0, none⟩ (.int .i64 (n : Int))).setCell ⟨w.heap.size + 1, 1, none⟩ (.string ⟨#[]⟩)).setCell ⟨w.heap.size + 1, 2, none⟩ (.slice ad fs.length cp)).setCell ⟨w.heap.size + 1, 3, none⟩ (.bool true) = W9 at *
            have t0 := hT.c0
            have t1 := hT.c1
            have t2 := hT.c2
            have t3 := hT.c3
            simp only at t0 t1 t2 t3
            rw [HV.out]
            refine bodyPost_ret (v := decV n ⟨#[]⟩ (.slice ad fs.length cp) true) ?_ rfl ⟨_, rfl, hT.own, hT.below⟩
            go_light
            simp [results, Try.results17, go_sem, t0, t1, t2, t3, decV]
          | whole p k =>
            obtain ⟨hk1, hk2, hp1, hp2⟩ := whole_facts hf
            by_cases h0 : room = 0
            · have HV : Hid (feedD n rest ss false bytes = ⟨n, ⟨#[]⟩, fs, true⟩) := by
                have : feedD n rest ss false bytes = ⟨n, ⟨#[]⟩, fs, true⟩ := by rw [HD.out, HP.out, h0, feedP_full hf, HFS.out]; simp
                exact this
              have hd : (500 : Int) ≤ (fs.length : Int) := by omega
              have hT := told (hF2.pre.set bf 3 (.bool true) hne) ⟨n, ⟨#[]⟩, fs, true⟩ (.slice ad fs.length cp) (owns_set hF2.own hF2.apart)
              simp only at hT
              simp only [frontV]
              go_wp2
              generalize ((((w2.setCell ⟨bf, 3, none⟩ (.bool true)).setCell ⟨w.heap.size + 1, 0, none⟩ (.int .i64 (n : Int))).setCell ⟨w.heap.size + 1, 1, none⟩ (.string ⟨#[]⟩)).setCell ⟨w.heap.size + 1, 2, none⟩ (.slice ad fs.length cp)).setCell ⟨w.heap.size + 1, 3, none⟩ (.bool true) = W9 at *
              have t0 := hT.c0
              have t1 := hT.c1
              have t2 := hT.c2
              have t3 := hT.c3
              simp only at t0 t1 t2 t3
              rw [HV.out]
              refine bodyPost_ret (v := decV n ⟨#[]⟩ (.slice ad fs.length cp) true) ?_ rfl ⟨_, rfl, hT.own, hT.below⟩
              go_light
              simp [results, Try.results17, go_sem, t0, t1, t2, t3, decV]
            · obtain ⟨rm, hrm⟩ : ∃ rm, room = rm + 1 := ⟨room - 1, by omega⟩
              have HP2 : Hid (feedP n (500 - ss.length) (rest ++ bytes) = ((ts ++ [p]) ++ (feedP n rm (rs.extract k rs.size)).1, (feedP n rm (rs.extract k rs.size)).2)) := by
                have : feedP n (500 - ss.length) (rest ++ bytes) = ((ts ++ [p]) ++ (feedP n rm (rs.extract k rs.size)).1, (feedP n rm (rs.extract k rs.size)).2) := by rw [HP.out, hrm, feedP_take hf]; simp
                exact this
              have hd : ¬ (500 : Int) ≤ (fs.length : Int) := by omega
              have hki : (0 : Int) ≤ k := by omega
              have hki2 : (k : Int) ≤ rs.size := by omega
              have hsz : w.heap.size + 2 ≤ w2.heap.size := by have := hF2.pre.lt; omega
              have hown := hF2.own
              have hbl : bf < w2.heap.size := hF2.fed.lt
              have hap := hF2.apart
              have hgp : ∀ o, Pre w (w2.alloc o) n rest (.slice (some ⟨b, off, none⟩) ss.length cap) false := fun o => hF2.pre.later ((Below.refl _ _).alloc (Nat.le_refl _) o)
              have hgf : ∀ o, Fed (w2.alloc o) bf n ⟨#[]⟩ (.slice ad fs.length cp) false := fun o => hF2.fed.later ((Below.refl _ _).alloc (Nat.le_refl _) o)
              have hle : fs.length ≤ 500 := by omega
              have HL : Hid (fs.length + room = 500) := hlen
              clear hlen
              simp only [frontV]
              go_wp2_with (at_builtin; refine wpList_append_lies _ rfl _ _ 22 rfl (w.heap.size + 2) 9 i0 _ 1 16 Try.underlying22 hi hz0 hz1 hz2 rfl (by decide) _ _ _ rfl (hown.alloc _) ⟨w2.heap.size, 0, none⟩ 1 1 [.string p] rfl rfl (cell_one_new _ _ _) (by simp [Value.oneCell']) (by omega) (by unfold maxLen; omega) (by omega) (by simp; omega) (w2.heap.size + 1) (by simp) ?_; intro g3 cap3 w3 hown3 hgrow3 hat3 hlt3; have pw := (hgp _).grown hgrow3 (fun k hk => owns_row_ge hown hk); have fw := (hgf _).grown hgrow3 hap; have q2 := fw.c2; have qf := fw.cf)
              have e1 : ss ++ (ts ++ [p]) = fs ++ [p] := by rw [HFS.out, List.append_assoc]
              have e2 : (fs ++ [p]).length = fs.length + 1 := by simp
              have hap3 : some bf ≠ (Value.slice (some ⟨g3, 0, none⟩) (fs.length + 1) cap3).ownBlock := by
                intro e
                have e' : bf = g3 := by simpa [Value.ownBlock] using e
                rcases hat3 with h | h
                · exact hap ((congrArg some e').trans h.symm)
                · omega
              refine ⟨⟨rs.extract k rs.size, ts ++ [p], rm, some ⟨g3, 0, none⟩, cap3, rfl, ?_, ?_, HP2.out, ?_⟩, ?_⟩
              · rw [ByteArray.size_extract]; omega
              · have h5 := HL.out
                rw [HFS.out, List.length_append] at h5
                simp only [List.length_append, List.length_cons, List.length_nil]
                omega
              · rw [e1, e2]
                refine ⟨pw.set bf 2 _ hne, fw.set2, ?_, hne, hap3⟩
                rw [e2, List.map_append]
                exact owns_set hown3 hap3
              · simp only [strSize, ByteArray.size_extract]
                omega
      · have HD : Hid (feedD n rest ss true bytes = ⟨n, ⟨#[]⟩, ss, true⟩) := by
          have : feedD n rest ss true bytes = ⟨n, ⟨#[]⟩, ss, true⟩ := by simp [feedD, hV]
          exact this
        have b3 := hF.pre.d3
        have o0 := hF.pre.o0
        have o1 := hF.pre.o1
        have o2 := hF.pre.o2
        have o3 := hF.pre.o3
        have of := hF.pre.of
        have c0 := hF.fed.c0
        have c1 := hF.fed.c1
        have c2 := hF.fed.c2
        have c3 := hF.fed.c3
        have hT := told hF.pre ⟨n, ⟨#[]⟩, ss, true⟩ (.slice ad2 ss.length cp2) hF.own
        simp only at hT
        clear hF
        go_wp2
        generalize (((wc.setCell ⟨w.heap.size + 1, 0, none⟩ (.int .i64 (n : Int))).setCell ⟨w.heap.size + 1, 1, none⟩ (.string ⟨#[]⟩)).setCell ⟨w.heap.size + 1, 2, none⟩ (.slice ad2 ss.length cp2)).setCell ⟨w.heap.size + 1, 3, none⟩ (.bool true) = W9 at *
        have t0 := hT.c0
        have t1 := hT.c1
        have t2 := hT.c2
        have t3 := hT.c3
        simp only at t0 t1 t2 t3
        rw [HD.out]
        refine bodyPost_ret (v := decV n ⟨#[]⟩ (.slice ad2 ss.length cp2) true) ?_ rfl ⟨_, rfl, hT.own, hT.below⟩
        go_light
        simp [results, Try.results17, go_sem, t0, t1, t2, t3, decV]
end Go.Proofs.Ytdlbmjmhlcaalaa
