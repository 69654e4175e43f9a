/-
  spec.DrawFeed.
-/
import Derived.Test.YtdlbmjmhlcaalaaDrawFeed
import Derived.Deep.CutBlock
namespace Go.Proofs.Ytdlbmjmhlcaalaa
open Go.RowKit

/-- Where the ways of DrawFeed meet. -/
def FdS (N : Nat) (w : World) (a : Option Addr) (cap : Nat) (zs : List Int) (b5 : Nat) (s6 : Value) (wx : World) : Prop :=
  ∃ s p B m rest ad cp ss bad, s6 = .string s ∧ s.size ≤ N ∧ DF w wx (w.heap.size + 1) a cap zs p b5 B m rest (.slice ad (List.length ss) cp) bad ss ∧ Small rest ss ∧ ss.length ≤ 1999 ∧ p ≤ N / 1000

theorem sumI_size (l : List UInt8) (n : Int) : (sumI l n).size ≤ 8 := by
  unfold sumI
  split
  · rename_i h
    obtain ⟨k, rfl, h1, h8⟩ := isW_nat h
    have := sum_len l ((k : Int)).toNat
    rw [Int.toNat_natCast] at this ⊢
    have e : (sumStr l k).size = (sumStr l k).data.toList.length := rfl
    omega
  · exact Nat.zero_le _

set_option maxRecDepth 20000 in
set_option maxHeartbeats 4000000 in
theorem drawFeed_any (a : Option Addr) (cap : Nat) (zs : List Int) (w : World) (h : Code0 w a cap zs) :
    Calls Try.prog 21 #[.slice a zs.length cap] w fun e w' => FeedDrawn w e w' := by
  obtain ⟨i0, hi, hz0, hz1, hz2⟩ := info_parts Try.infoStr
  have hb0 : Below w.heap.size w (w.alloc (.cells #[.int .i64 0, .string ⟨#[]⟩, .slice none 0 0, .bool false] 32)) := (Below.refl _ _).alloc (Nat.le_refl _) _
  have h20 := fed_new w 0 ⟨#[]⟩ (.slice none 0 0) false
  have hop := open_any a cap zs _ (h.later hb0)
  go_enter Try.func21, Try.ntmps21
  go_wp2_with fail
  refine hop.mono ?_
  rintro e w1 ⟨rfl, hb1, hs1, zs', hR1⟩
  have h21 := h20.later hb1
  have hbx1 := hb0.trans (hb1.mono hb0.size)
  rw [World.size_alloc] at hR1 hs1
  clear hop h20 hb0 hb1
  go_wp2_with fail
  refine (l3Draw_any (w.heap.size + 1) a cap zs' 0 w1 hR1 (by omega)).mono ?_
  rintro e w2 ⟨m, rest, ad, cp, ss, bad, rfl, ho2, hsm, hl5, ⟨p2, hp2, hR2⟩, hgr2⟩
  have h22 := h21.grown hgr2 (by simp)
  have hbx2 := hbx1.grown hgr2 hbx1.size (fun k hk => by cases hk; omega)
  have hs2 : w.heap.size + 2 ≤ w2.heap.size := by have := hgr2.size; omega
  have hal : Below w2.heap.size w2 (w2.alloc (.cells #[.int .i64 m, .string rest, .slice ad ss.length cp, .bool bad] 32)) := (Below.refl _ _).alloc (Nat.le_refl _) _
  have hD : DF w (w2.alloc (.cells #[.int .i64 m, .string rest, .slice ad ss.length cp, .bool bad] 32)) (w.heap.size + 1) a cap zs' p2 w2.heap.size w1.heap.size m rest (.slice ad ss.length cp) bad ss :=
    ⟨hR2.below hal, hbx2.trans (hal.mono hbx2.size), h22.later hal, fed_new w2 m rest _ bad, ⟨_, _, heap_alloc_new w2 _⟩, owns_below ho2 hal, by omega, by omega, by omega, by have := hgr2.size; simp; omega⟩
  unfold decV
  clear h21 h22 hbx1 hbx2 hR1 hR2 ho2 hgr2 hal hs1
  go_wp2_with fail
  have hb25 : w.heap.size + 1 < w2.heap.size := by omega
  generalize w2.alloc (.cells #[.int .i64 m, .string rest, .slice ad ss.length cp, .bool bad] 32) = W at *
  generalize w2.heap.size = b5 at *
  generalize w1.heap.size = B at *
  have k0 := hD.f5.c0
  have hpay := pays_any (w.heap.size + 1) a cap zs' p2 W.drew (hD.rd.below (w' := W.drew) (Below.refl _ _).drew) (by omega)
  go_region_held3 (fun w' => w'.cell? ⟨b5, 0, none⟩ = some (.int .i64 m)) (first | go_keep | (exact e3) | (exact e4))
    ((first | (go_at_call 40; refine hpay.mono ?_; rintro e w3 ⟨adp, cpp, pp, rfl, ho3, hl3, hz3, ⟨p3, hp3, hR3⟩, hgr3⟩; have hD3 := (hD.grow (W' := W.drew) (Below.refl _ _).drew).pick hgr3 hR3; have e3 := hD3.f5.c0; have henc := specEnc_any adp cpp pp m w3 (ss_of_rowD ho3) (by unfold maxLen; omega)) | (go_at_call 8; refine henc.mono ?_; rintro e w4 ⟨rfl, hb4⟩; have hD4 := hD3.grow hb4; have e4 := hD4.f5.c0)))
  have hse : (encV pp m).size ≤ 509000 := encV_size pp m
  generalize encV pp m = se at *
  clear hD hD3 hb4 henc hpay k0 e3 e4 ho3 hz3 hR3 hgr3
  go_wp2_with fail
  refine (pick_any (w.heap.size + 1) a cap zs' p3 6 _ hD4.rd (by omega) (by omega) (by omega)).mono ?_
  rintro e w5 ⟨x5, rfl, hx5, hgr5, hR5⟩
  have hD5 := hD4.pick hgr5 hR5
  clear hD4 hgr5 hR5
  go_upto_block 0 with fail
  go_cut [6] (fun s6 wx => FdS 2000000 w a cap zs' b5 s6 wx)
  case first =>
    by_cases h0 : x5 = 0
    · have hB : ((x5 : Int) == 0) = true := by simp; omega
      clear h0
      go_wp2_with fail
      refine (bend_any (w.heap.size + 1) a cap zs' (p3 + 1) se _ hD5.rd (by omega) (by omega)).mono ?_
      rintro e w6 ⟨s6, rfl, hs6, ⟨p6, hp6, hR6⟩, hgr6⟩
      have hD6 := hD5.pick hgr6 hR6
      go_wp2_with fail
      go_meet
      case rel => exact ⟨s6, p6, B, m, rest, ad, cp, ss, bad, rfl, by omega, hD6, hsm, by omega, by omega⟩
    · have hB : ((x5 : Int) == 0) = false := by simp; omega
      by_cases h1 : x5 = 1
      · have hB1 : ((x5 : Int) == 1) = true := by simp; omega
        clear h0 h1
        have hal : Below w5.heap.size w5 (w5.alloc (.cells #[.string ⟨#[97, 32, 102, 114, 97, 109, 101, 32, 105, 110, 32, 116, 119, 111, 32, 112, 105, 101, 99, 101, 115]⟩] 9)) := (Below.refl _ _).alloc (Nat.le_refl _) _
        have hDa := hD5.grow hal
        have c0 := hDa.f5.c0
        have henc := specEnc_any (some ⟨w5.heap.size, 0, none⟩) 1 [⟨#[97, 32, 102, 114, 97, 109, 101, 32, 105, 110, 32, 116, 119, 111, 32, 112, 105, 101, 99, 101, 115]⟩] m (w5.alloc (.cells #[.string ⟨#[97, 32, 102, 114, 97, 109, 101, 32, 105, 110, 32, 116, 119, 111, 32, 112, 105, 101, 99, 101, 115]⟩] 9)) (.inr ⟨w5.heap.size, 0, rfl, fun i hi => by
          obtain rfl : i = 0 := by simp at hi; omega
          simp⟩) (by unfold maxLen; simp)
        go_wp2_with fail
        refine henc.mono ?_
        rintro e w6 ⟨rfl, hb6⟩
        have hD6 := hDa.grow hb6
        have hwh : (encV [⟨#[97, 32, 102, 114, 97, 109, 101, 32, 105, 110, 32, 116, 119, 111, 32, 112, 105, 101, 99, 101, 115]⟩] m).size ≤ 509000 := encV_size _ m
        generalize encV [⟨#[97, 32, 102, 114, 97, 109, 101, 32, 105, 110, 32, 116, 119, 111, 32, 112, 105, 101, 99, 101, 115]⟩] m = wh at *
        clear henc hDa hD5 hb6 hal c0
        have hpk := pick_any (w.heap.size + 1) a cap zs' (p3 + 1) (wh.size + 1) _ hD6.rd (by omega) (by omega) (by omega)
        rw [show ((wh.size + 1 : Nat) : Int) = (wh.size : Int) + 1 by omega] at hpk
        go_wp2_with fail
        refine hpk.mono ?_
        rintro e w7 ⟨k, rfl, hk, hgr7, hR7⟩
        have hD7 := hD6.pick hgr7 hR7
        clear hD6 hgr7 hR7 hpk
        have k1 : (0 : Int) ≤ k := by omega
        have k2 : (k : Int) ≤ wh.size := by omega
        go_wp2_with fail
        have hDd := hD7.grow (W' := w7.drew) (Below.refl _ _).drew
        have c0 := hDd.f5.c0
        have hze : (wh.extract 0 k).size ≤ 509000 := by rw [ByteArray.size_extract]; omega
        have hfd := specFeed_nil m ⟨#[]⟩ [] rfl false (wh.extract 0 k) w7.drew (Nat.zero_le _) (by omega)
        have hsm8 : Small (feedD m ⟨#[]⟩ [] false (wh.extract 0 k)).rest (feedD m ⟨#[]⟩ [] false (wh.extract 0 k)).fs := Small.feed (by show 0 + (wh.extract 0 k).size ≤ 100000000; omega) (by simp) (by simp)
        have hfl8 := feedD_500 m ⟨#[]⟩ (wh.extract 0 k)
        generalize feedD m ⟨#[]⟩ [] false (wh.extract 0 k) = d at *
        unfold decV at hfd
        go_region_law ((refine step_fn2 (by rfl) 17 _ _ _ _ (by rfl) (.agg #[.int .i64 m, .string ⟨#[]⟩, .slice none 0 0, .bool false]) (.string (wh.extract 0 k)) (by kernel_rfl) (by kernel_rfl) (fun _ => by kernel_rfl) hfd ?_; rintro e w8 ⟨v8, rfl, ho8, hb8⟩; obtain ⟨ad8, cp8, rfl⟩ := owns_slice ho8; refine ⟨_, rfl, ?_⟩; unfold decV; have hD8 := hDd.grow hb8; have x0 := hD8.f5.c0; have x1 := hD8.f5.c1; have x2 := hD8.f5.c2; have x3 := hD8.f5.c3; have xf := hD8.f5.cf))
        have hD9 := hD8.put (m' := d.m) (rest' := d.rest) (bad' := d.bad) ho8 (by have := hDd.B1; have := hDd.B2; show w.heap.size + 1 < w7.drew.heap.size; omega) hb8.size
        have hcc : ¬ 9223372036854775807 < (wh.extract k wh.size).size + se.size := by rw [ByteArray.size_extract]; omega
        have hsz : (wh.extract k wh.size ++ se).size ≤ 2000000 := by rw [ByteArray.size_append, ByteArray.size_extract]; omega
        clear hD8 ho8 hb8 hDd hD7 hfd c0 x0 x1 x2 x3 xf
        go_wp2_with fail
        go_meet
        case rel => exact ⟨_, p3 + 1 + 1, _, d.m, d.rest, ad8, cp8, d.fs, d.bad, rfl, hsz, hD9, hsm8, by omega, by omega⟩
      · have hB1 : ((x5 : Int) == 1) = false := by simp; omega
        clear h0 h1
        go_wp2_with fail
        go_meet
        case rel => exact ⟨se, p3 + 1, B, m, rest, ad, cp, ss, bad, rfl, by omega, hD5, hsm, by omega, by omega⟩
  case rest =>
    clear hD5
    obtain ⟨s, p, B', m', rest', ad', cp', ss', bad', rfl, hs, hD, hsm', hl', hp⟩ := hcut
    go_wp2_with fail
    refine (pick_any (w.heap.size + 1) a cap zs' p 10 _ hD.rd (by omega) (by omega) (by omega)).mono ?_
    rintro e w6 ⟨y, rfl, hy, hgr6, hR6⟩
    have hD6 := hD.pick hgr6 hR6
    clear hD hgr6 hR6
    go_upto_if 50 with fail
    go_cut [6] (fun s6 wx => FdS 3000000 w a cap zs' b5 s6 wx)
    case first =>
      by_cases h0 : y = 0
      · have hB : ((y : Int) == 0) = true := by simp; omega
        clear h0
        have c0 := hD6.f5.c0
        go_wp2_with fail
        refine (specSum_all ⟨#[97]⟩ m' w6 (by unfold maxLen; show 1 ≤ _; omega)).mono ?_
        rintro e w7 ⟨rfl, hb7⟩
        have hD7 := hD6.grow hb7
        have hz := sumI_size (⟨#[97]⟩ : ByteArray).data.toList m'
        generalize sumI (⟨#[97]⟩ : ByteArray).data.toList m' = su at *
        have hc1 : ¬ 9223372036854775807 < (⟨#[129, 0, 97]⟩ : ByteArray).size + su.size := by show ¬ _ < 3 + su.size; omega
        have hz1 : ((⟨#[129, 0, 97]⟩ : ByteArray) ++ su).size ≤ 11 := by rw [ByteArray.size_append]; show 3 + su.size ≤ 11; omega
        have hc2 : ¬ 9223372036854775807 < ((⟨#[129, 0, 97]⟩ : ByteArray) ++ su).size + s.size := by omega
        have hz2 : ((⟨#[129, 0, 97]⟩ : ByteArray) ++ su ++ s).size ≤ 3000000 := by rw [ByteArray.size_append]; omega
        clear c0 hD6 hb7
        go_wp2_with fail
        go_meet
        case rel => exact ⟨_, p + 1, B', m', rest', ad', cp', ss', bad', rfl, hz2, hD7, hsm', hl', by omega⟩
      · have hB : ((y : Int) == 0) = false := by simp; omega
        clear h0
        go_wp2_with fail
        go_meet
        case rel => exact ⟨s, p + 1, B', m', rest', ad', cp', ss', bad', rfl, by omega, hD6, hsm', hl', by omega⟩
    case rest =>
      clear hD6
      obtain ⟨s, p, B', m', rest', ad', cp', ss', bad', rfl, hs, hD, hsm', hl', hp⟩ := hcut
      go_wp2_with fail
      refine (pick_any (w.heap.size + 1) a cap zs' p 8 _ hD.rd (by omega) (by omega) (by omega)).mono ?_
      rintro e w7 ⟨z, rfl, hz, hgr7, hR7⟩
      have hD7 := hD.pick hgr7 hR7
      clear hD hgr7 hR7
      go_upto_if 59 with fail
      go_cut [58] (fun _ wx => ∃ p B m rest ad cp ss bad, DF w wx (w.heap.size + 1) a cap zs' p b5 B m rest (.slice ad (List.length ss) cp) bad ss ∧ Small rest ss)
      case first =>
        by_cases h0 : z = 0
        · have hB : ((z : Int) == 0) = true := by simp; omega
          clear h0
          have x0 := hD7.f5.c0
          have x1 := hD7.f5.c1
          have x2 := hD7.f5.c2
          have x3 := hD7.f5.c3
          have hsp := spoil_any (w.heap.size + 1) a cap zs' (p + 1) B' m' rest' ad' cp' ss' bad' w7 hD7.rd (by omega) hD7.own hsm' hl' hD7.B1 hD7.B2
          unfold decV at hsp
          go_wp2_with fail
          refine hsp.mono ?_
          rintro e w8 ⟨m8, rest8, ad8, cp8, ss8, bad8, rfl, ho8, hsm8, ⟨p8, hp8, hR8⟩, hG8⟩
          obtain ⟨hf8, hD8⟩ := hD7.spoil (m' := m8) (rest' := rest8) (bad' := bad8) hG8 hR8 ho8
          have y0 := hf8.c0
          have y1 := hf8.c1
          have y2 := hf8.c2
          have y3 := hf8.c3
          have yf := hf8.cf
          unfold decV
          clear hsp hD7 hf8 hG8 hR8 ho8 x0 x1 x2 x3
          go_wp2_with fail
          go_meet
          case rel => exact ⟨_, _, m8, rest8, ad8, cp8, ss8, bad8, hD8, hsm8⟩
        · have hB : ((z : Int) == 0) = false := by simp; omega
          clear h0
          go_wp2_with fail
          go_meet
          case rel => exact ⟨_, _, m', rest', ad', cp', ss', bad', hD7, hsm'⟩
      case rest =>
        clear hD7
        obtain ⟨p9, B9, m9, rest9, ad9, cp9, ss9, bad9, hD, hsm9⟩ := hcut
        have z0 := hD.f5.c0
        have z1 := hD.f5.c1
        have z2 := hD.f5.c2
        have z3 := hD.f5.c3
        have u0 := hD.f2.c0
        have u1 := hD.f2.c1
        have u2 := hD.f2.c2
        have u3 := hD.f2.c3
        have uf := hD.f2.cf
        obtain ⟨hT, hO, hBl⟩ := hD.ends
        go_wp2
        generalize (((wc.setCell ⟨w.heap.size, 0, none⟩ (.int .i64 m9)).setCell ⟨w.heap.size, 1, none⟩ (.string rest9)).setCell ⟨w.heap.size, 2, none⟩ (.slice ad9 ss9.length cp9)).setCell ⟨w.heap.size, 3, none⟩ (.bool bad9) = W9 at *
        have t0 := hT.c0
        have t1 := hT.c1
        have t2 := hT.c2
        have t3 := hT.c3
        refine bodyPost_ret (v := .tuple #[decV m9 rest9 (.slice ad9 ss9.length cp9) bad9, .string s]) ?_ rfl ⟨m9, rest9, ad9, cp9, ss9, bad9, s, rfl, hO, hsm9, by omega, hBl⟩
        go_light
        simp [results, Try.results21, go_sem, t0, t1, t2, t3, decV]
end Go.Proofs.Ytdlbmjmhlcaalaa
