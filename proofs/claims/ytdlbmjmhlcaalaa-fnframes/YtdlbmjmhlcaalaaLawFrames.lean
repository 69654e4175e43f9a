/-
  'FnFrames': the walk.
-/
import Derived.Test.YtdlbmjmhlcaalaaFeedAny
import Derived.Test.YtdlbmjmhlcaalaaWDec
namespace Go.Proofs.Ytdlbmjmhlcaalaa
open Go.RowKit

theorem feedD_bounds {m : Int} {rest : ByteArray} {ss : List ByteArray} {bad : Bool} {bytes : ByteArray} (hr : rest.size ≤ 200000000) (hb : bytes.size ≤ 200000000) :
    (feedD m rest ss bad bytes).fs.length ≤ 1000 ∧ (feedD m rest ss bad bytes).rest.size ≤ 400000000 := by
  unfold feedD
  split
  · rename_i hV
    obtain ⟨n, rfl, _, _, hl5, _⟩ := validD_parts hV
    split
    · exact ⟨by simp only; omega, Nat.zero_le _⟩
    · have h1 := feedP_room n (500 - ss.length) (rest ++ bytes)
      have h2 := feedP_rest n (500 - ss.length) (rest ++ bytes)
      rw [ByteArray.size_append] at h2
      simp only [Int.toNat_natCast]
      exact ⟨by rw [List.length_append]; omega, by omega⟩
  · exact ⟨Nat.zero_le _, Nat.zero_le _⟩

theorem ext00 (s : ByteArray) : s.extract 0 0 = ⟨#[]⟩ := by
  apply ByteArray.ext
  apply Array.eq_empty_of_size_eq_zero
  rw [ByteArray.data_extract, Array.size_extract]
  omega
theorem ext_on (s : ByteArray) (k n : Nat) : s.extract 0 k ++ s.extract k (k + n) = s.extract 0 (k + n) := by
  apply ByteArray.ext
  rw [ByteArray.data_append, ByteArray.data_extract, ByteArray.data_extract, ByteArray.data_extract]
  rw [Array.extract_append_extract]
  congr 1 <;> omega

/-- What is known of a decoder in memory. -/
structure DecAt (W : World) (b : Nat) (d : D) (sl : Value) : Prop where
  fed : Fed W b d.m d.rest sl d.bad
  row : ∃ a c, sl = .slice a d.fs.length c ∧ SS W a d.fs

theorem DecAt.later {W W' : World} {b : Nat} {d : D} {sl : Value} (h : DecAt W b d sl) (hb : Below W.heap.size W W') : DecAt W' b d sl := by
  obtain ⟨a, c, e, hs⟩ := h.row
  exact ⟨h.fed.later hb, a, c, e, hs.below hb⟩

theorem ext_full (s : ByteArray) : s.extract 0 s.size = s := by
  apply ByteArray.ext
  rw [ByteArray.data_extract]
  exact Array.extract_size

/-- What is written and fed to a new decoder comes out. -/
theorem enc_back {pp : List ByteArray} {mm : Int} (h : (encV pp mm).toList.isEmpty = false) : feedD mm ⟨#[]⟩ [] false (encV pp mm) = ⟨mm, ⟨#[]⟩, pp, false⟩ := by
  by_cases hh : (isW mm && pays pp) = true
  · have he : encV pp mm = ⟨(encL pp mm.toNat).toArray⟩ := by unfold encV; rw [if_pos hh]
    simp only [Bool.and_eq_true] at hh
    obtain ⟨n, rfl, h1, h8⟩ := isW_nat hh.1
    obtain ⟨hl, hs⟩ := pays_true hh.2
    have hV : validD (n : Int) ⟨#[]⟩ [] false = true := by
      rw [validD_iff n ⟨#[]⟩ [] false hh.1 (by rfl)]
      rw [front_none (by unfold hdr; exact if_pos rfl)]
      rfl
    rw [he]
    have hf := feed_enc n pp 500 hl hs
    have ha : (⟨#[]⟩ : ByteArray) ++ ⟨(encL pp n).toArray⟩ = ⟨(encL pp n).toArray⟩ := ByteArray.empty_append
    simp only [feedD, hV, if_true, Bool.false_eq_true, if_false, Int.toNat_natCast, List.length_nil, Nat.sub_zero, ha, hf, List.nil_append]
  · have he : encV pp mm = ⟨#[]⟩ := by unfold encV; rw [if_neg hh]
    rw [he, ByteArray.toList_eq] at h
    simp at h

/-- A row of texts that lies elsewhere. -/
def Ap (b : Nat) (a : Option Addr) (fs : List ByteArray) : Prop := fs = [] ∨ ∀ q, a = some q → q.block ≠ b
theorem SS.set {W : World} {a : Option Addr} {fs : List ByteArray} (h : SS W a fs) {b : Nat} (hap : Ap b a fs) (i : Nat) (v : Value) : SS (W.setCell ⟨b, i, none⟩ v) a fs := by
  rcases h with h | ⟨b', off, ha, hc⟩
  · exact .inl h
  · rcases hap with h0 | hap
    · exact .inl h0
    · have hne := hap _ ha
      refine .inr ⟨b', off, ha, fun j hj => ?_⟩
      rw [World.cell?_setCell_other _ _ _ _ (by intro e; cases e; exact hne rfl)]
      exact hc j hj
theorem ap_new {W : World} {a : Option Addr} {fs : List ByteArray} (h : SS W a fs) : Ap W.heap.size a fs := by
  by_cases h0 : fs = []
  · exact .inl h0
  · right
    intro q hq e
    obtain ⟨b', off, ha, hc⟩ := h.at (k := 0) (List.length_pos_iff.2 h0)
    rw [ha] at hq
    cases hq
    have := World.block_lt_of_cell? W ⟨b', off + 0, none⟩ (hc 0 (List.length_pos_iff.2 h0))
    simp only at e this
    omega
theorem DecAt.put {W : World} {b : Nat} {d d' : D} {sl : Value} (h : DecAt W b d sl) {base : Nat} {a' : Option Addr} {c' : Nat} (ho : W.ownsRow base 9 1 (.slice a' d'.fs.length c') d'.fs.length (d'.fs.map .string)) (hb : b < base) :
    DecAt ((((W.setCell ⟨b, 0, none⟩ (.int .i64 d'.m)).setCell ⟨b, 1, none⟩ (.string d'.rest)).setCell ⟨b, 2, none⟩ (.slice a' d'.fs.length c')).setCell ⟨b, 3, none⟩ (.bool d'.bad)) b d' (.slice a' d'.fs.length c') ∧ Ap b a' d'.fs := by
  have hne : some b ≠ (Value.slice a' d'.fs.length c').ownBlock := fun e => by have := owns_row_ge ho e.symm; omega
  refine ⟨⟨h.fed.set0.set1.set2.set3, a', c', rfl, ss_of_rowD (owns_set (owns_set (owns_set (owns_set ho hne) hne) hne) hne)⟩, ?_⟩
  rcases ho.2 with ⟨_, h0⟩ | ⟨g, c, cur, hv, h1, _⟩
  · exact .inl (List.eq_nil_of_length_eq_zero h0)
  · cases hv
    right
    intro q hq e
    cases hq
    simp only at e
    omega
theorem DecAt.other {W : World} {b b' : Nat} {d : D} {a : Option Addr} {c : Nat} (h : DecAt W b d (.slice a d.fs.length c)) (hne : b' ≠ b) (hap : Ap b' a d.fs) (i : Nat) (v : Value) : DecAt (W.setCell ⟨b', i, none⟩ v) b d (.slice a d.fs.length c) := by
  obtain ⟨a1, c1, e, hs⟩ := h.row
  cases e
  exact ⟨h.fed.other hne, a, c, rfl, hs.set hap _ _⟩

set_option maxRecDepth 20000 in
set_option maxHeartbeats 4000000 in
theorem frames_walk (a b : Option Addr) (ca cb : Nat) (zs ys : List Int) (w : World) (hc : Code0 w a ca zs) (hy : Code0 w b cb ys) :
    Calls Try.prog 6 #[.slice a zs.length ca, .slice b ys.length cb] w fun e w' => e = .returned (.bool true) ∧ Below w.heap.size w w' := by
  by_cases hbig : (1048576 : Int) < zs.length
  · go_enter Try.func6, Try.ntmps6
    go_wp2
    go_ret
    exact ⟨rfl, Below.refl _ _⟩
  by_cases hbig2 : (1048576 : Int) < ys.length
  · go_enter Try.func6, Try.ntmps6
    go_wp2
    go_ret
    exact ⟨rfl, Below.refl _ _⟩
  go_enter Try.func6, Try.ntmps6
  go_wp2_with fail
  refine (drawFeed_any a ca zs w hc).mono ?_
  rintro e w1 ⟨m, rest, ad, cp, ss, bad, s, rfl, ho1, hsm, hs, hb1⟩
  have hsl := hsm.len
  have hsr := hsm.rest
  have hal1 : Below w1.heap.size w1 (w1.alloc (.cells #[.int .i64 m, .string rest, .slice ad ss.length cp, .bool bad] 32)) := (Below.refl _ _).alloc (Nat.le_refl _) _
  have hd1 : DecAt (w1.alloc (.cells #[.int .i64 m, .string rest, .slice ad ss.length cp, .bool bad] 32)) w1.heap.size ⟨m, rest, ss, bad⟩ (.slice ad ss.length cp) := ⟨fed_new w1 m rest _ bad, ad, cp, rfl, (ss_of_rowD ho1).below hal1⟩
  have ho1' := owns_below ho1 hal1
  have hx1 := hb1.trans (hal1.mono hb1.size)
  have hz1 : w.heap.size ≤ w1.heap.size := hb1.size
  unfold decV
  clear ho1 hb1 hal1
  generalize hW : w1.alloc (.cells #[.int .i64 m, .string rest, .slice ad ss.length cp, .bool bad] 32) = W at *
  generalize hb5 : w1.heap.size = b5 at *
  obtain ⟨ads, cps, es, hss⟩ := hd1.row
  cases es
  have c0 := hd1.fed.c0
  have c1 := hd1.fed.c1
  have c2 := hd1.fed.c2
  have c3 := hd1.fed.c3
  have hfx := implFeed_any m rest ad cp ss bad s W hss (by unfold maxLen; omega) (by omega) (by omega)
  unfold decV at hfx
  go_wp2_with fail
  refine hfx.mono ?_
  rintro e w2 ⟨v2, rfl, ho2, hb2⟩
  obtain ⟨hdl, hdr⟩ := feedD_bounds (m := m) (ss := ss) (bad := bad) (rest := rest) (bytes := s) (by omega) (by omega)
  have hfs := specFeed_own (base := w.heap.size) (ad := ad) (cp := cp) m rest ss bad s
  obtain ⟨dx, hdx⟩ : ∃ d, d = feedD m rest ss bad s := ⟨_, rfl⟩
  rw [← hdx] at ho2 hdl hdr hfs ⊢
  have HX : Hid (dx = feedD m rest ss bad s) := hdx
  clear hdx hfx
  obtain ⟨ax, cx, rfl⟩ := owns_slice ho2
  unfold decV
  have hal2 : Below w2.heap.size w2 (w2.alloc (.cells #[.int .i64 dx.m, .string dx.rest, .slice ax dx.fs.length cx, .bool dx.bad] 32)) := (Below.refl _ _).alloc (Nat.le_refl _) _
  have hb2' := hb2.trans (hal2.mono hb2.size)
  have hd7 : DecAt (w2.alloc (.cells #[.int .i64 dx.m, .string dx.rest, .slice ax dx.fs.length cx, .bool dx.bad] 32)) w2.heap.size dx (.slice ax dx.fs.length cx) := ⟨fed_new w2 dx.m dx.rest _ dx.bad, ax, cx, rfl, (ss_of_rowD ho2).below hal2⟩
  have hd5 := hd1.later hb2'
  have ho5 := owns_below ho1' hb2'
  have hx2 := hx1.trans (hb2'.mono hx1.size)
  clear ho1' hd1 hss hx1 hb2 hal2 ho2 c0 c1 c2 c3 hb2' hW
  go_upto_region 5 with fail
  clear hb5
  generalize w2.alloc (.cells #[.int .i64 dx.m, .string dx.rest, .slice ax dx.fs.length cx, .bool dx.bad] 32) = W2 at *
  generalize w2.heap.size = b7 at *
  go_cut [37] (fun v wx => v = .bool false ∧ Below W2.heap.size W2 wx)
  case first =>
    have c0 := hd5.fed.c0
    have c1 := hd5.fed.c1
    have c2 := hd5.fed.c2
    have c3 := hd5.fed.c3
    have e0 := hd7.fed.c0
    have e1 := hd7.fed.c1
    have e2 := hd7.fed.c2
    have e3 := hd7.fed.c3
    have hfd := hfs W2.drew (owns_below (w' := W2.drew) ho5 (Below.refl _ _).drew) (by unfold maxLen; omega) (by omega) (by omega)
    unfold decV at hfd
    have hss7 : SS W2.drew ax dx.fs := by
      obtain ⟨a', c', e', hs'⟩ := hd7.row
      cases e'
      exact hs'.below (w' := W2.drew) (Below.refl _ _).drew
    go_region_with (first | (go_at_call 17; refine hfd.mono ?_; rintro e w4 ⟨v4, rfl, ho4, hb4⟩; obtain ⟨a4, c4, rfl⟩ := owns_slice ho4; unfold decV; have hd4 := hd7.later (W' := w4) (Below.trans (Below.refl _ _).drew hb4); have q0 := hd4.fed.c0; have q1 := hd4.fed.c1; have q2 := hd4.fed.c2; have q3 := hd4.fed.c3; have hwd := wDecoder_any dx.m dx.rest ax a4 cx c4 dx.fs dx.bad w4 (hss7.below hb4) (ss_of_rowD ho4) (by omega)) | (go_at_call 22; unfold decV at hwd; refine hwd.mono ?_; rintro e w5 ⟨rfl, hb5⟩))
    all_goals
      go_wp2_with fail
      go_meet
    case rel => exact ⟨rfl, (Below.trans (Below.refl _ _).drew hb4).trans (hb5.mono hb4.size)⟩
    case rel => exact ⟨rfl, (Below.trans (Below.refl _ _).drew hb4).trans (hb5.mono hb4.size)⟩
    case rel => exact ⟨rfl, (Below.trans (Below.refl _ _).drew hb4).trans (hb5.mono hb4.size)⟩
  case rest =>
    obtain ⟨rfl, hbc⟩ := hcut
    have hd5 := hd5.later hbc
    have hd7 := hd7.later hbc
    have hx3 := hx2.trans (hbc.mono hx2.size)
    clear hbc hx2 ho5 hfs
    obtain ⟨ads, cps, es, hss⟩ := hd5.row
    cases es
    have c0 := hd5.fed.c0
    have c1 := hd5.fed.c1
    have c2 := hd5.fed.c2
    have c3 := hd5.fed.c3
    have hvs := specValidD_any m rest ad cp ss bad wc hss (by unfold maxLen; omega) (by omega)
    unfold decV at hvs
    go_wp2_with fail
    refine hvs.mono ?_
    rintro e w4 ⟨rfl, hb4⟩
    have hd5 := hd5.later hb4
    have hd7 := hd7.later hb4
    have hx4 := hx3.trans (hb4.mono hx3.size)
    have hss := hss.below hb4
    clear hx3 hvs hb4 c0 c1 c2 c3
    have c0 := hd5.fed.c0
    have c1 := hd5.fed.c1
    have c2 := hd5.fed.c2
    have c3 := hd5.fed.c3
    cases hV : validD m rest ss bad with
    | false =>
      have hvi := implValidD_any m rest ad cp ss bad w4 hss (by unfold maxLen; omega) (by omega)
      unfold decV at hvi
      rw [hV] at hvi
      go_wp2_with fail
      refine hvi.mono ?_
      rintro e w5 ⟨rfl, hb5⟩
      go_wp2
      go_ret
      exact ⟨rfl, hx4.trans (hb5.mono hx4.size)⟩
    | true =>
      have hal : Below w4.heap.size w4 (w4.alloc (.cells #[.int .i64 m, .string rest, .slice ad ss.length cp, .bool bad] 32)) := (Below.refl _ _).alloc (Nat.le_refl _) _
      have hd8 : DecAt (w4.alloc (.cells #[.int .i64 m, .string rest, .slice ad ss.length cp, .bool bad] 32)) w4.heap.size (feedD m rest ss bad (s.extract 0 0)) (.slice ad ss.length cp) := by
        rw [ext00, feedD_none hV]
        exact ⟨fed_new w4 m rest _ bad, ad, cp, rfl, hss.below hal⟩
      have hd7a := hd7.later hal
      have hxa := hx4.trans (hal.mono hx4.size)
      have HV : Hid (validD m rest ss bad = true) := hV
      have hap7 : Ap w4.heap.size ax dx.fs := by
        obtain ⟨a1, c1', e1, hs1⟩ := hd7.row
        cases e1
        exact ap_new hs1
      have hap8 : Ap w4.heap.size ad (feedD m rest ss bad (s.extract 0 0)).fs := by
        rw [ext00, feedD_none hV]
        exact ap_new hss
      have h78 : w4.heap.size ≠ b7 := by have := hd7.fed.lt; omega
      have hge8 : w.heap.size ≤ w4.heap.size := hx4.size
      clear hV hd5 hd7 hx4 hss
      go_wp2
      clear c0 c1 c2 c3
      generalize w4.alloc (.cells #[.int .i64 m, .string rest, .slice ad ss.length cp, .bool bad] 32) = W4 at *
      generalize w4.heap.size = b8 at *
      go_loopw [9, 10] (fun at' i wr => ∃ (k j : Nat) (a8 : Option Addr) (c8 : Nat), at' = .int .i64 k ∧ i = .int .i64 j ∧ k ≤ s.size ∧ j ≤ ys.length + k ∧ DecAt wr b8 (feedD m rest ss bad (s.extract 0 k)) (.slice a8 (feedD m rest ss bad (s.extract 0 k)).fs.length c8) ∧ Ap b8 a8 (feedD m rest ss bad (s.extract 0 k)).fs ∧ DecAt wr b7 dx (.slice ax dx.fs.length cx) ∧ Below w.heap.size w wr) (fun at' i _ => (ys.length - (intOf i).toNat) + (s.size - (intOf at').toNat))
      case atStart =>
        refine ⟨0, 0, ad, cp, rfl, rfl, Nat.zero_le _, Nat.zero_le _, ?_, hap8, hd7a, hxa⟩
        rw [show (feedD m rest ss bad (s.extract 0 0)).fs.length = ss.length by rw [ext00, feedD_none HV.out]]
        exact hd8
      case round =>
        obtain ⟨k, j, a8, c8, rfl, rfl, hk, hj, hd8, hap, hd7, hxr⟩ := hrel
        clear hd7a hxa hap8
        obtain ⟨hdl8, hdr8⟩ := feedD_bounds (m := m) (ss := ss) (bad := bad) (rest := rest) (bytes := s.extract 0 k) (by omega) (by rw [ByteArray.size_extract]; omega)
        have hon := fun t => feedD_on HV.out (s.extract 0 k) t
        obtain ⟨dk, hdk⟩ : ∃ d, d = feedD m rest ss bad (s.extract 0 k) := ⟨_, rfl⟩
        rw [← hdk] at hd8 hap hdl8 hdr8 hon
        have HK : Hid (dk = feedD m rest ss bad (s.extract 0 k)) := hdk
        clear hdk
        obtain ⟨a8', c8', e8, hss8⟩ := hd8.row
        cases e8
        by_cases hlt : k < s.size
        · have hlt' : (k : Int) < s.size := by omega
          go_upto_if 54 with fail
          go_cut [11] (fun n wx => ∃ n' : Nat, n = .int .i64 n' ∧ n' ≤ 8 ∧ (ys.length ≤ j → 1 ≤ n') ∧ wr = wx)
          case first =>
            by_cases hji : j < ys.length
            · have hji' : (j : Int) < ys.length := by omega
              obtain ⟨bm, om, hbe, hltb, hcm⟩ : ∃ bm om, b = some ⟨bm, om, none⟩ ∧ bm < w.heap.size ∧ ∀ i (h : i < ys.length), w.cell? ⟨bm, om + i, none⟩ = some (.int .u8 ys[i]) := by
                rcases hy.bytes with h0 | h0
                · rw [h0] at hji; simp at hji
                · exact h0
              subst hbe
              have hq := (hxr.cell (p := ⟨bm, om + j, none⟩) hltb).trans (hcm j hji)
              obtain ⟨hw0, hw1⟩ := hy.wf ys[j] (List.getElem_mem hji)
              obtain ⟨q, hqe⟩ : ∃ q : Nat, ys[j] = (q : Int) := ⟨ys[j].toNat, by omega⟩
              rw [hqe] at hq hw1
              clear hqe hw0 hcm
              go_wp2_with fail
              go_meet
              case rel => exact ⟨q % 9, by congr 1, by omega, fun h => by omega, rfl⟩
            · have hji' : ¬ (j : Int) < ys.length := by omega
              go_wp2_with fail
              go_meet
              case rel => exact ⟨1, rfl, by omega, fun _ => Nat.le_refl _, rfl⟩
          case rest =>
            obtain ⟨n, rfl, hn8, hn1, rfl⟩ := hcut
            go_upto_if 66 with fail
            go_cut [11] (fun v wx => ∃ n' : Nat, v = .int .i64 n' ∧ k + n' ≤ s.size ∧ (ys.length ≤ j → 1 ≤ n') ∧ wr = wx)
            case first =>
              by_cases hgt : (s.size : Int) - k < n
              · go_wp2_with fail
                go_meet
                case rel => exact ⟨s.size - k, by congr 1; omega, by omega, fun h => by omega, rfl⟩
              · go_wp2_with fail
                go_meet
                case rel => exact ⟨n, rfl, by omega, hn1, rfl⟩
            case rest =>
              clear hn8 hn1
              obtain ⟨n, rfl, hkn, hn1, rfl⟩ := hcut
              have hw1 : IntKind.i64.wrap ((k : Int) + n) = (k : Int) + n := by rw [IntKind.wrap_i64]; omega
              have i1 : (0 : Int) ≤ k := by omega
              have i2 : (k : Int) ≤ k + n := by omega
              have i3 : (k : Int) + n ≤ s.size := by omega
              have hdd := hd8.later (W' := wr.drew) (Below.refl _ _).drew
              have c0 := hdd.fed.c0
              have c1 := hdd.fed.c1
              have c2 := hdd.fed.c2
              have c3 := hdd.fed.c3
              have hpz : (s.extract k (k + n)).size ≤ 3000000 := by rw [ByteArray.size_extract]; omega
              have hfy := implFeed_any dk.m dk.rest a8 c8 dk.fs dk.bad (s.extract k (k + n)) wr.drew (hss8.below (w' := wr.drew) (Below.refl _ _).drew) (by unfold maxLen; omega) (by omega) (by omega)
              obtain ⟨hval, hnext⟩ := hon (s.extract k (k + n))
              rw [hnext, ext_on] at hfy
              have hvn := (feedD_on HV.out (s.extract 0 (k + n)) ⟨#[]⟩).1
              obtain ⟨hdln, hdrn⟩ := feedD_bounds (m := m) (ss := ss) (bad := bad) (rest := rest) (bytes := s.extract 0 (k + n)) (by omega) (by rw [ByteArray.size_extract]; omega)
              obtain ⟨dn, hdn⟩ : ∃ d, d = feedD m rest ss bad (s.extract 0 (k + n)) := ⟨_, rfl⟩
              rw [← hdn] at hfy hvn hdln hdrn
              have HN : Hid (dn = feedD m rest ss bad (s.extract 0 (k + n))) := hdn
              have HVN : Hid (validD dn.m dn.rest dn.fs dn.bad = true) := hvn
              clear hdn hvn hval hnext hon
              unfold decV at hfy
              have hb8lt := hd8.fed.lt
              go_wp2_with fail
              go_region_law ((refine step_fn2 (by rfl) 18 _ _ _ _ (by rfl) (.agg #[.int .i64 dk.m, .string dk.rest, .slice a8 dk.fs.length c8, .bool dk.bad]) (.string (s.extract k (k + n))) (by kernel_rfl) (by kernel_rfl) (fun _ => by kernel_rfl) hfy ?_; rintro e w8 ⟨v8, rfl, ho8, hb8⟩; obtain ⟨an, cn, rfl⟩ := owns_slice ho8; refine ⟨_, rfl, ?_⟩; unfold decV; have hd9 := hdd.later hb8; have x0 := hd9.fed.c0; have x1 := hd9.fed.c1; have x2 := hd9.fed.c2; have x3 := hd9.fed.c3; have xf := hd9.fed.cf))
              obtain ⟨hdp, hapn⟩ := hd9.put ho8 (show b8 < wr.drew.heap.size from hb8lt)
              have hdx := ((((((hd7.later (W' := wr.drew) (Below.refl _ _).drew).later hb8).other h78 hap7 0 (.int .i64 dn.m)).other h78 hap7 1 (.string dn.rest)).other h78 hap7 2 (.slice an dn.fs.length cn)).other h78 hap7 3 (.bool dn.bad))
              have hx8 := hxr.drew.trans (hb8.mono hxr.size)
              have hset : ∀ (X : World) (i : Nat) (v : Value), Below w.heap.size w X → Below w.heap.size w (X.setCell ⟨b8, i, none⟩ v) := fun X i v hX => hX.setCell hge8 _
              have hx9 := hset _ 3 (.bool dn.bad) (hset _ 2 (.slice an dn.fs.length cn) (hset _ 1 (.string dn.rest) (hset _ 0 (.int .i64 dn.m) hx8)))
              clear hset hx8 x0 x1 x2 x3 xf hd9 ho8 hb8 hfy c0 c1 c2 c3 hdd hd7 hd8 hss8 hap hxr
              generalize (((w8.setCell ⟨b8, 0, none⟩ (.int .i64 dn.m)).setCell ⟨b8, 1, none⟩ (.string dn.rest)).setCell ⟨b8, 2, none⟩ (.slice an dn.fs.length cn)).setCell ⟨b8, 3, none⟩ (.bool dn.bad) = W9 at *
              have c0 := hdp.fed.c0
              have c1 := hdp.fed.c1
              have c2 := hdp.fed.c2
              have c3 := hdp.fed.c3
              have hssn : SS W9 an dn.fs := by
                obtain ⟨a1, c1', e1, hs1⟩ := hdp.row
                cases e1
                exact hs1
              have hvi := implValidD_any dn.m dn.rest an cn dn.fs dn.bad W9 hssn (by unfold maxLen; omega) (by omega)
              rw [HVN.out] at hvi
              unfold decV at hvi
              go_wp2_with fail
              refine hvi.mono ?_
              rintro e w10 ⟨rfl, hb10⟩
              have hdq := hdp.later hb10
              have hdy := hdx.later hb10
              have hx10 := hx9.trans (hb10.mono hx9.size)
              clear hvi hssn c0 c1 c2 c3 hdp hdx hx9 hb10
              go_wp2
              go_roundw
              case rel =>
                refine ⟨k + n, j + 1, an, cn, by congr 1, by congr 1, hkn, by omega, ?_, ?_, hdy, hx10⟩
                · rw [← HN.out]; exact hdq
                · rw [← HN.out]; exact hapn
              case measure => simp only [intOf]; omega
        · obtain rfl : k = s.size := by omega
          have hde : dk = dx := by rw [HK.out, HX.out, ext_full]
          subst hde
          have hss7 : SS wr ax dk.fs := by
            obtain ⟨a1, c1', e1, hs1⟩ := hd7.row
            cases e1
            exact hs1
          have c0 := hd8.fed.c0
          have c1 := hd8.fed.c1
          have c2 := hd8.fed.c2
          have c3 := hd8.fed.c3
          have e0 := hd7.fed.c0
          have e1 := hd7.fed.c1
          have e2 := hd7.fed.c2
          have e3 := hd7.fed.c3
          have hwd := wDecoder_any dk.m dk.rest ax a8 cx c8 dk.fs dk.bad wr hss7 hss8 (by omega)
          unfold decV at hwd
          clear hon
          go_wp2_with fail
          refine hwd.mono ?_
          rintro e w5 ⟨rfl, hb5'⟩
          have hx5 := hxr.trans (hb5'.mono hxr.size)
          clear hwd hss7 hss8 c0 c1 c2 c3 e0 e1 e2 e3 hd7 hd8 hap hxr hb5'
          go_wp2_with fail
          refine (drawEnc_any a ca zs w5 (hc.later hx5)).mono ?_
          rintro e w6 ⟨ap, cpp, pp, mm, rfl, hop, hpl, hpz, hb6⟩
          have hx6 := hx5.trans (hb6.mono hx5.size)
          have hsp := ss_of_rowD hop
          clear hx5 hb6
          go_wp2_with fail
          refine (implEnc_any ap cpp pp mm w6 hsp (by unfold maxLen; omega)).mono ?_
          rintro e w7 ⟨rfl, hb7⟩
          have hx7 := hx6.trans (hb7.mono hx6.size)
          have hsp := hsp.below hb7
          clear hx6 hb7 hop
          go_wp2_with fail
          refine (specEnc_any ap cpp pp mm w7 hsp (by unfold maxLen; omega)).mono ?_
          rintro e w8 ⟨rfl, hb8⟩
          have hx8 := hx7.trans (hb8.mono hx7.size)
          have hsp := hsp.below hb8
          clear hx7 hb8
          have hez : (encV pp mm).size ≤ 509000 := encV_size pp mm
          have hfz := implFeed_any mm ⟨#[]⟩ none 0 [] false (encV pp mm) w8 (.inl rfl) (Nat.zero_le _) (Nat.zero_le _) (by omega)
          unfold decV at hfz
          have hback := enc_back (pp := pp) (mm := mm)
          generalize encV pp mm = ee at *
          have hsame : (ee.toList == ee.toList) = true := by simp
          go_wp2_with fail
          refine hfz.mono ?_
          rintro e w9 ⟨v9, rfl, ho9, hb9⟩
          obtain ⟨a9, c9, rfl⟩ := owns_slice ho9
          have hx9 := hx8.trans (hb9.mono hx8.size)
          have hsp := hsp.below hb9
          have hs9 := ss_of_rowD ho9
          clear hx8 hb9 hfz ho9
          cases hE : ee.toList.isEmpty with
          | true =>
            clear hback
            unfold decV
            go_wp2
            go_ret
            exact ⟨rfl, hx9.alloc hx9.size _⟩
          | false =>
            have hbk := hback hE
            rw [hbk] at hs9 ⊢
            clear hback hbk
            unfold decV
            simp only at hs9 ⊢
            have hal : Below w9.heap.size w9 (w9.alloc (.cells #[.int .i64 mm, .string ⟨#[]⟩, .slice a9 pp.length c9, .bool false] 32)) := (Below.refl _ _).alloc (Nat.le_refl _) _
            have hwt := wTexts_any a9 ap c9 cpp pp _ (hs9.below hal) (hsp.below hal) (by omega)
            go_wp2_with fail
            refine hwt.mono ?_
            rintro e w10 ⟨rfl, kk, rfl⟩
            go_wp2
            go_ret
            exact ⟨rfl, (hx9.alloc hx9.size _).trans ⟨rfl, rfl, rfl, Nat.le_refl _, fun _ _ => rfl⟩⟩
end Go.Proofs.Ytdlbmjmhlcaalaa
