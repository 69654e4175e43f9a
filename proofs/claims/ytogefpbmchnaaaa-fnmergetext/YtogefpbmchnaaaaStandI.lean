/-
  impl.standing, impl.choose at texts.
-/
import Derived.Test.YtogefpbmchnaaaaMergeP
import Derived.Test.YtogefpbmchnaaaaPairB
import Derived.Deep.RegionLaw
namespace Go.Proofs.Ytogefpbmchnaaaa
open Go.RowKit

/-- Places as cells. -/
def plC (ts : List Pl) : List Value := ts.flatMap fun t => [Value.int .i64 (t.1 : Int), Value.int .i64 (t.2.1 : Int), Value.int .i64 (t.2.2 : Int)]
theorem plC_snoc (ts : List Pl) (x y z : Nat) : plC (ts ++ [(x, y, z)]) = plC ts ++ [Value.int .i64 (x : Int), Value.int .i64 (y : Int), Value.int .i64 (z : Int)] := by simp [plC]
theorem Try.infoPlace : (Try.prog.info? 38).map (fun i => (i.zero, i.size, i.bytes)) = some (some (.agg #[.int .i64 0, .int .i64 0, .int .i64 0]), 3, 24) := by kernel_rfl

set_option maxHeartbeats 1000000 in
theorem choose_any (x y z : ByteArray) (w : World) :
    Calls Try.prog 15 #[.string x, .string y, .string z] w fun e w' => e = .returned (match three x.data.toList y.data.toList z.data.toList with
      | none => .tuple #[.string ⟨#[]⟩, .bool false]
      | some s => .tuple #[.string (lnB s), .bool true]) ∧ w' = w := by
  have hne : ∀ {a b : ByteArray}, ¬ a.data.toList = b.data.toList → (a.toList == b.toList) = false := fun h => bs_diff (fun e => h (by rw [e]))
  have hqe : ∀ {a b : ByteArray}, a.data.toList = b.data.toList → (a.toList == b.toList) = true := fun {a b} h => bs_same (by rw [← lnB_data a, h, lnB_data])
  unfold three
  by_cases h1 : y.data.toList = x.data.toList
  · have e1 := hqe h1
    rw [if_pos h1]
    simp only [lnB_data]
    clear h1 hne hqe
    go_enter Try.func15, Try.ntmps15
    go_wp2
    go_ret2
    exact ⟨rfl, rfl⟩
  · have e1 := hne h1
    rw [if_neg h1]
    by_cases h2 : z.data.toList = x.data.toList
    · have e2 := hqe h2
      rw [if_pos (.inl h2)]
      simp only [lnB_data]
      clear h1 h2 hne hqe
      go_enter Try.func15, Try.ntmps15
      go_wp2
      go_ret2
      exact ⟨rfl, rfl⟩
    · have e2 := hne h2
      by_cases h3 : z.data.toList = y.data.toList
      · have e3 := hqe h3
        rw [if_pos (.inr h3)]
        simp only [lnB_data]
        clear h1 h2 h3 hne hqe
        go_enter Try.func15, Try.ntmps15
        go_wp2
        go_ret2
        exact ⟨rfl, rfl⟩
      · have e3 := hne h3
        rw [if_neg (by rintro (h | h) <;> contradiction)]
        clear h1 h2 h3 hne hqe
        go_enter Try.func15, Try.ntmps15
        go_wp2
        go_ret2
        exact ⟨rfl, rfl⟩
/-- A slice of pairs that is read. -/
structure RdP (w : World) (v : Value) (ps : List (Nat × Nat)) : Prop where
  at_ : ∃ a cap, v = .slice a ps.length cap ∧ ps.length ≤ cap ∧ PS w a ps
theorem RdP.below {w w' : World} {v : Value} {ps : List (Nat × Nat)} (h : RdP w v ps) (hb : Below w.heap.size w w') : RdP w' v ps := by
  obtain ⟨a, cap, e, hc, hp⟩ := h.at_
  exact ⟨a, cap, e, hc, hp.below hb⟩

set_option maxRecDepth 100000 in
/-- What is behind the first pair of a slice. -/
theorem tailP_at {w : World} {a : Option Addr} {cap : Nat} {x : Nat × Nat} {xs : List (Nat × Nat)} (hc : (x :: xs).length ≤ cap) (h : PS w a (x :: xs)) :
    ∃ v, (∀ w1, (Instr.sliceAt 31 (.slice a (x :: xs).length cap) (some (.int .i64 1)) none none).run Try.prog w1 = .ok v w1) ∧ RdP w v xs ∧
      ∃ b o, a = some ⟨b, o, none⟩ ∧ PAt w b o x := by
  obtain ⟨b, o, rfl, hcell⟩ := h.at (k := 0) (by simp)
  refine ⟨sliced (some ⟨b, o, none⟩) 1 (x :: xs).length cap 2, fun w1 => ?_, ⟨?_⟩, b, o, rfl, by have := hcell 0 (by simp); simpa using this⟩
  · rw [run_sliceAt_slice w1 _ _ _ _ _ Try.underlying31, run_slice_l w1 _ _ _ _ Try.underlying31 .i64 1 (by omega) (by simp; omega)]
    have hz : (sizeOf (Try.prog.elem 31)).run Try.prog w1 = .ok 2 w1 := by kernel_rfl
    rw [hz]
    rfl
  · refine ⟨if cap = 1 then some ⟨b, o, none⟩ else some ⟨b, o + 2, none⟩, cap - 1, ?_, by simp at hc; omega, ?_⟩
    · unfold sliced
      split <;> rfl
    · by_cases h1 : cap = 1
      · left
        have : xs.length = 0 := by simp at hc; omega
        exact List.eq_nil_of_length_eq_zero this
      · right
        refine ⟨b, o + 2, by rw [if_neg h1], fun i hi => ?_⟩
        have := hcell (i + 1) (by simp; omega)
        rw [show o + 2 + i * 2 = o + (i + 1) * 2 by omega]
        exact this

theorem placesP_take {pa pb : List (Nat × Nat)} {k : Nat} (h : k < pa.length) : placesP (pa.take (k + 1)) pb = placesP (pa.take k) pb ++ (match withP pb pa[k].1 with
    | none => []
    | some y => [(pa[k].1, pa[k].2, y)]) := by
  unfold placesP
  rw [List.take_succ_eq_append_getElem h, List.filterMap_append]
  congr 1
  cases hw : withP pb pa[k].1 <;> simp [hw]

def PlacesPost (ts : List Pl) (w : World) (e : Ending) (w' : World) : Prop :=
  ∃ ad cp, e = .returned (.slice ad ts.length cp) ∧ w'.ownsRow w.heap.size 38 3 (.slice ad ts.length cp) ts.length (plC ts) ∧ Below w.heap.size w w'

set_option maxRecDepth 20000 in
set_option maxHeartbeats 8000000 in
theorem standing_any (lb la lc : List ByteArray) (pa pb : List (Nat × Nat)) (a1 : Option Addr) (c1 : Nat) (v2 : Value) (w : World) (h1 : PS w a1 pa) (h2 : RdP w v2 pb) (hA : Asc2 lb la 0 0 pa) (hB : Asc2 lb lc 0 0 pb) (hm : pa.length ≤ 1500) (hn : pb.length ≤ 1500) :
    Calls Try.prog 13 #[.slice a1 pa.length c1, v2] w fun e w' => PlacesPost (placesP pa pb) w e w' := by
  obtain ⟨ti, hti, hz0, hz1, hz2⟩ := info_parts Try.infoPlace
  go_enter Try.func13, Try.ntmps13
  go_wp2
  go_loopw [5, 6, 12] (fun v rs ix wr => ∃ (k i j ii jj : Nat) (R : List (Nat × Nat)), k ≤ pa.length ∧ ix = .int .i64 (k : Int) ∧ NKeep (Asc2 lb la i j (pa.drop k) ∧ Asc2 lb lc ii jj R ∧ (∀ n, i ≤ n → withP pb n = withP R n)) ∧ R.length ≤ 1500 ∧ RdP w rs R ∧
    wr.ownsRow w.heap.size 38 3 v (placesP (pa.take k) pb).length (plC (placesP (pa.take k) pb)) ∧ Below w.heap.size w wr) (fun _ _ ix _ => pa.length - (intOf ix).toNat)
  case atStart => exact ⟨0, 0, 0, 0, 0, pb, Nat.zero_le _, rfl, ⟨hA, hB, fun _ _ => rfl⟩, hn, h2, by rw [List.take_zero]; exact World.ownsRow_nil _ _ _ _, Below.refl _ _⟩
  case round =>
    obtain ⟨k, i, j, ii, jj, R, hk, rfl, HK, hRl, hR, hrow, hb⟩ := hrel
    by_cases hlt : k < pa.length
    · obtain ⟨b, off, rfl, hc⟩ := (h1.below hb).at hlt
      obtain ⟨x0, x1⟩ := hc k hlt
      have HT : NKeep (placesP (pa.take (k + 1)) pb = placesP (pa.take k) pb ++ (match withP pb pa[k].1 with
        | none => []
        | some y => [(pa[k].1, pa[k].2, y)])) := ⟨placesP_take hlt⟩
      have hpl := placesP_len (pa.take k) pb
      have hpl2 : (placesP (pa.take k) pb).length ≤ 1500 := by simp at hpl; omega
      have HA : NKeep (i ≤ pa[k].1 ∧ Asc2 lb la (pa[k].1 + 1) (pa[k].2 + 1) (pa.drop (k + 1))) := ⟨by
        have h := HK.out.1
        rw [List.drop_eq_getElem_cons hlt] at h
        exact ⟨h.1, h.2.2.2.2.2⟩⟩
      have HB : NKeep (Asc2 lb lc ii jj R ∧ (∀ n, pa[k].1 ≤ n → withP pb n = withP R n)) := ⟨HK.out.2.1, fun n hn => HK.out.2.2 n (Nat.le_trans HA.out.1 hn)⟩
      clear hc hpl HK h1 h2
      obtain ⟨pi, hpi⟩ : ∃ pi, pa[k].1 = pi := ⟨_, rfl⟩
      obtain ⟨pj, hpj⟩ : ∃ pj, pa[k].2 = pj := ⟨_, rfl⟩
      rw [hpi, hpj] at HT HA
      rw [hpi] at HB x0
      rw [hpj] at x1
      obtain ⟨ts, hts⟩ : ∃ ts, placesP (pa.take k) pb = ts := ⟨_, rfl⟩
      rw [hts] at HT hpl2 hrow
      go_wp2
      obtain ⟨q8, hq8⟩ : ∃ q8, wr.heap.size = q8 := ⟨_, rfl⟩
      obtain ⟨W1, hW1⟩ : ∃ W1, wr.alloc (.cells #[.int .i64 (pi : Int), .int .i64 (pj : Int)] 58) = W1 := ⟨_, rfl⟩
      have hb1 : Below wr.heap.size wr W1 := by rw [← hW1]; exact (Below.refl _ _).alloc (Nat.le_refl _) _
      have hp8 : W1.heap[q8]? = some (.cells #[.int .i64 (pi : Int), .int .i64 (pj : Int)] 58) := by rw [← hW1, ← hq8]; exact heap_alloc_new wr _
      have hrow1 := owns_below hrow hb1
      have hbw1 : Below w.heap.size w W1 := hb.trans (hb1.mono hb.size)
      have hs8 : q8 < W1.heap.size := (Array.getElem?_eq_some_iff.1 hp8).1
      rw [hq8, hW1]
      clear hrow hb hb1 hW1 hq8 x0 x1
      go_loopg [6] R.length (fun g2 rs wr => ∃ (ii jj : Nat) (R2 : List (Nat × Nat)), R2.length = g2 ∧ R2.length ≤ 1500 ∧ NKeep (Asc2 lb lc ii jj R2 ∧ (∀ n, pi ≤ n → withP pb n = withP R2 n)) ∧ RdP w rs R2 ∧ Below W1.heap.size W1 wr)
      case atStart => exact ⟨ii, jj, R, rfl, hRl, HB, hR, Below.refl _ _⟩
      case round =>
        obtain ⟨i2, j2, R2, hgl, hRl2, HB2, hR2, hBi⟩ := hrel
        have hp8r := (hBi.block q8 hs8).trans hp8
        have z0 : wr.cell? ⟨q8, 0, none⟩ = some (.int .i64 (pi : Int)) := by simp [World.cell?, hp8r]
        have z1 : wr.cell? ⟨q8, 1, none⟩ = some (.int .i64 (pj : Int)) := by simp [World.cell?, hp8r]
        have hbwi : Below w.heap.size w wr := hbw1.trans (hBi.mono hbw1.size)
        have hrowi := owns_below hrow1 hBi
        obtain ⟨a2, c2, rfl, hc2, hp2⟩ := hR2.at_
        cases R2 with
        | nil =>
          have HW : NKeep (placesP (pa.take (k + 1)) pb = ts) := ⟨by rw [HT.out, HB2.out.2 pi (Nat.le_refl _)]; simp [withP]⟩
          rw [show (([] : List (Nat × Nat)).length) = 0 from rfl]
          have e0 : decide ((0 : Int) < ((0 : Nat) : Int)) = false := by decide
          go_wp2
          go_region
          all_goals (try go_wp2)
          go_region
          all_goals (try go_wp2)
          go_roundw
          case rel =>
            refine ⟨k + 1, pi + 1, pj + 1, i2, j2, [], by omega, by go_num, ⟨HA.out.2, HB2.out.1, fun n hn => HB2.out.2 n (by omega)⟩, by simp, ⟨a2, c2, rfl, hc2, .inl rfl⟩, ?_, hbwi.drew.drew⟩
            rw [HW.out]; exact hrowi
          case measure => simp [intOf]; omega
        | cons q R3 =>
          obtain ⟨vt, hsl, hRt, b2, o2, rfl, y0', y1'⟩ := tailP_at hc2 hp2
          have y0 := cell_later hbwi y0'
          have y1 := cell_later hbwi y1'
          clear y0' y1'
          obtain ⟨qi, hqi⟩ : ∃ qi, q.1 = qi := ⟨_, rfl⟩
          obtain ⟨qj, hqj⟩ : ∃ qj, q.2 = qj := ⟨_, rfl⟩
          rw [hqi] at y0
          rw [hqj] at y1
          have hlen : (q :: R3).length = R3.length + 1 := rfl
          rw [hlen] at hsl hc2 hRl2 hgl ⊢
          obtain ⟨n2, hn2⟩ : ∃ n2, n2 = R3.length + 1 := ⟨_, rfl⟩
          rw [← hn2] at hsl hc2 hRl2 hgl ⊢
          have HN2 : NKeep (n2 = R3.length + 1) := ⟨hn2⟩
          have hn0 : 0 < n2 := by omega
          have e0 : decide (0 < n2) = true := by simp; omega
          have HGL : NKeep (n2 = gk) := ⟨hgl⟩
          clear hn2 hlen hgl
          have hr3 := HB2.out.1.2.2.2.2.2
          by_cases hqp : qi < pi
          · have HB3 : NKeep (Asc2 lb lc (qi + 1) (qj + 1) R3 ∧ (∀ n, pi ≤ n → withP pb n = withP R3 n)) := ⟨by rw [← hqi, ← hqj]; exact hr3, fun n hn => by rw [HB2.out.2 n hn, withP, if_neg (by omega)]⟩
            clear hr3
            go_wp2
            go_region
            all_goals (try go_wp2)
            go_roundg R3.length
            case measure => have := HN2.out; have := HGL.out; omega
            case rel => exact ⟨qi + 1, qj + 1, R3, rfl, by have := HN2.out; omega, HB3, ⟨hRt.at_⟩, hBi.drew⟩
          · have hbs := owns_base hrowi
            have hszi := hbwi.size
            by_cases hqe : qi = pi
            · have HW : NKeep (placesP (pa.take (k + 1)) pb = ts ++ [(pi, pj, qj)]) := ⟨by rw [HT.out, HB2.out.2 pi (Nat.le_refl _), withP, if_pos (by omega), hqj]⟩
              have hqeI : (qi : Int) = (pi : Int) := by omega
              clear hr3
              go_wp2
              go_region
              all_goals (try go_wp2)
              go_region
              all_goals (try go_wp2)
              go_region_law ((refine step_append_lies _ (by rfl) _ _ 35 (by rfl) w.heap.size 38 ti _ 3 24 Try.underlying35 hti hz0 hz1 hz2 rfl (by decide) u5 ts.length (plC ts) (by rfl) (by exact hrowi.alloc _) ⟨wr.heap.size, 0, none⟩ 1 1 [.int .i64 (pi : Int), .int .i64 (pj : Int), .int .i64 (qj : Int)] (by rfl) (by rfl) (by exact fun j' u h => World.news_of_block (w := wr.alloc _) (heap_alloc_new _ _) j' u h) (by simp [Value.oneCell']) (by omega) (by unfold maxLen; omega) (by omega) (by simp; omega) (wr.heap.size + 1) (by simp) ?_; intro g4 cap4 w4 ho4 hg4 hl4 hlt4))
              all_goals go_wp2
              all_goals
                refine ⟨⟨k + 1, pi + 1, pj + 1, i2, j2, q :: R3, by omega, by go_num, ⟨HA.out.2, HB2.out.1, fun n hn => HB2.out.2 n (by omega)⟩, by have := HN2.out; simp; omega, ?_, ?_, ?_⟩, ?_⟩
                · exact ⟨some ⟨b2, o2, none⟩, c2, by rw [HN2.out]; rfl, by rw [HN2.out] at hc2; exact hc2, hp2⟩
                · rw [HW.out, List.length_append, plC_snoc]; exact ho4
                · exact ((hbwi.alloc (by omega) _).drew.drew.drew.grown hg4 (by simp; omega) hbs)
                · simp [intOf]; omega
            · have HW : NKeep (placesP (pa.take (k + 1)) pb = ts) := ⟨by
                rw [HT.out, HB2.out.2 pi (Nat.le_refl _), withP, if_neg (by omega), withP_lt hr3 (by omega)]
                simp⟩
              have hqeB : ((qi : Int) == (pi : Int)) = false := by simp; omega
              clear hr3
              go_wp2
              go_region
              all_goals (try go_wp2)
              go_region
              all_goals (try go_wp2)
              go_roundw
              case rel =>
                refine ⟨k + 1, pi + 1, pj + 1, i2, j2, q :: R3, by omega, by go_num, ⟨HA.out.2, HB2.out.1, fun n hn => HB2.out.2 n (by omega)⟩, by have := HN2.out; simp; omega, ⟨some ⟨b2, o2, none⟩, c2, by rw [HN2.out]; rfl, by rw [HN2.out] at hc2; exact hc2, hp2⟩, ?_, hbwi.drew.drew⟩
                rw [HW.out]; exact hrowi
              case measure => simp [intOf]; omega
    · obtain rfl : k = pa.length := by omega
      rw [List.take_length] at hrow
      obtain ⟨ad, cp, rfl⟩ := owns_slice hrow
      go_wp2
      go_ret
      exact ⟨ad, cp, rfl, hrow, hb⟩
end Go.Proofs.Ytogefpbmchnaaaa
