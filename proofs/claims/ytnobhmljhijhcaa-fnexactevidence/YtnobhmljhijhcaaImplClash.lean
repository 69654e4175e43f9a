/-
  The contract of impl.Clash: its map of the first places.
-/
import Derived.Test.YtnobhmljhijhcaaClash
import Derived.Test.YtnobhmljhijhcaaKeys
namespace Go.Proofs.Ytnobhmljhijhcaa
open Go.RowKit

def MapInv (ss : List ByteArray) (n k : Nat) (D : DataW Unit) : Prop := ∀ l : List UInt8,
  (Maps.has D (keyLit (fnv l) n) = true → ∃ i, ∃ (_ : i < k) (h : i < ss.length), D.atKey (keyLit (fnv l) n) (.lit (.int .i64 0)) = .lit (.int .i64 i) ∧ sumStr ss[i].data.toList n = sumStr l n) ∧
  (Maps.has D (keyLit (fnv l) n) = false → ∀ i, i < k → ∀ (h : i < ss.length), sumStr ss[i].data.toList n ≠ sumStr l n)

theorem keyLit_is (v : Int) (n : Nat) : WideAt.IsKeyLit (keyLit v n) := by unfold keyLit; trivial

theorem mapInv_zero (ss : List ByteArray) (n : Nat) : MapInv ss n 0 (.map []) := by
  intro l
  refine ⟨fun h => ?_, fun _ i hi => absurd hi (by omega)⟩
  simp [Maps.has] at h

theorem mapInv_new {ss : List ByteArray} {n k : Nat} {D : DataW Unit} (h8 : n ≤ 8) (hk : k < ss.length) (h : MapInv ss n k D) (hD : Maps.IsMap D) (hh : Maps.has D (keyLit (fnv ss[k].data.toList) n) = false) :
    MapInv ss n (k + 1) (D.put (keyLit (fnv ss[k].data.toList) n) (.lit (.int .i64 k))) := by
  intro l
  by_cases e : keyLit (fnv l) n = keyLit (fnv ss[k].data.toList) n
  · rw [e]
    have es := (keyLit_iff _ _ n h8).1 e
    refine ⟨fun _ => ⟨k, by omega, hk, Maps.atKey_put_same hD (keyLit_is _ _) _ _, es.symm⟩, fun h0 => ?_⟩
    rw [Maps.has_put_same hD (keyLit_is _ _)] at h0
    cases h0
  · rw [Maps.has_put_other e, Maps.atKey_put_other e]
    refine ⟨fun h0 => ?_, fun h0 i hi hl hs => ?_⟩
    · obtain ⟨i, hi, hl, h1, h2⟩ := (h l).1 h0
      exact ⟨i, by omega, hl, h1, h2⟩
    · by_cases hik : i = k
      · subst hik
        exact e ((keyLit_iff _ _ n h8).2 hs.symm)
      · exact (h l).2 h0 i (by omega) hl hs

theorem mapInv_old {ss : List ByteArray} {n k : Nat} {D : DataW Unit} (h8 : n ≤ 8) (hk : k < ss.length) (h : MapInv ss n k D) (hh : Maps.has D (keyLit (fnv ss[k].data.toList) n) = true) : MapInv ss n (k + 1) D := by
  intro l
  refine ⟨fun h0 => ?_, fun h0 i hi hl hs => ?_⟩
  · obtain ⟨i, hi, hl, h1, h2⟩ := (h l).1 h0
    exact ⟨i, by omega, hl, h1, h2⟩
  · by_cases hik : i = k
    · subst hik
      rw [(keyLit_iff _ _ n h8).2 hs, h0] at hh
      cases hh
    · exact (h l).2 h0 i (by omega) hl hs

theorem map_below {w w' : World} {P : Program} {k : TypeId} {R : Value → Option (DataW Unit × List MemPlace)} {b n : Nat} {D : DataW Unit} (h : w.ownsMap P k R b n D) (hb : Below w.heap.size w w') : w'.ownsMap P k R b n D := by
  have hlt := h.lt
  obtain ⟨es, clock, h1, h2⟩ := h
  exact ⟨es, clock, (hb.block b hlt).trans h1, h2⟩

theorem zeroInt (w : World) : (zeroValue 3).run Try.prog w = .ok (.int .i64 0) w := by kernel_rfl

set_option maxHeartbeats 2000000 in
theorem implClash_any (a : Option Addr) (cap : Nat) (ss : List ByteArray) (n : Nat) (w : World) (hss : SS w a ss) (hn : ss.length ≤ 3000) (h1 : 1 ≤ n) (h8 : n ≤ 8) (hm : ∀ s ∈ ss, s.size ≤ 281474976710656) :
    Calls Try.prog 18 #[.slice a ss.length cap, .int .i64 n] w fun e w' => ∃ x y b, e = .returned (.tuple #[.string x, .string y, .bool b]) ∧ ClashR (fun s => sumStr s.data.toList n) ss x y b ∧ Below w.heap.size w w' := by
  have e1 : (decide (1 ≤ (n : Int)) && decide ((n : Int) ≤ 8)) = true := by simp; omega
  have e2 : decide ((3000 : Int) < ss.length) = false := by simp; omega
  have hmm := @run_makeMap Try.prog
  go_enter Try.func18, Try.ntmps18
  go_wp2_with (first | (go_at_call 13; refine (isw_any _ _).mono ?_; rintro e w' ⟨rfl, rfl⟩; rw [e1]))
  clear hmm
  go_loopw [24] (fun i wr => ∃ (k : Nat) (D : DataW Unit), k ≤ ss.length ∧ i = .int .i64 k ∧ wr.ownsMap Try.prog 39 (plainElem Try.prog 3) w.heap.size k D ∧ MapInv ss n k D ∧ NoHit (fun s => sumStr s.data.toList n) ss k ∧ Below w.heap.size w wr) (fun i _ => ss.length - (intOf i).toNat)
  case atStart => exact ⟨0, _, Nat.zero_le _, rfl, World.ownsMap_made _ _ _ _, mapInv_zero _ _, noHit_zero _ _, (Below.refl _ _).alloc (Nat.le_refl _) _⟩
  case round =>
    obtain ⟨k, D, hk, rfl, hown, hinv, hno, hb⟩ := hrel
    by_cases hlt : k < ss.length
    · obtain ⟨b, off, rfl, hc⟩ := hss.at hlt
      have hck := cell_later hb (hc k hlt)
      have hsz : ss[k].size ≤ maxLen := Nat.le_trans (hm ss[k] (List.getElem_mem hlt)) (by unfold maxLen; omega)
      by_cases hh : Maps.has D (keyLit (fnv ss[k].data.toList) n) = true
      · obtain ⟨i, hi, hil, hati, hsum⟩ := (hinv _).1 hh
        have hci := hc i hil
        by_cases hd : ss[i] = ss[k]
        · have hdB := bs_same hd
          have HN : Hid (NoHit (fun s => sumStr s.data.toList n) ss (k + 1)) := noHit_succ _ _ k hlt hno fun i' hi' e => by
            rw [← hd]
            rcases Nat.lt_trichotomy i i' with h | h | h
            · exact (hno i i' (by omega) h hi' (hsum.trans e.symm)).symm
            · subst h; rfl
            · exact hno i' i hil h hi (e.trans hsum.symm)
          have HI := mapInv_old h8 hlt hinv hh
          clear hno hinv hc hd hsum
          go_wp2_with (first | (go_at_call 14; refine (keyOf_any _ _ _ hsz h8).mono ?_; rintro e w1 ⟨rfl, hb1⟩; have hbx := hb.trans (hb1.mono hb.size); have hci1 : ∀ o, (w1.alloc o).cell? ⟨b, off + i, none⟩ = some (.string ss[i]) := fun o => cell_later (hbx.alloc hbx.size o) hci; unfold keyVal) | (at_lookup; refine wpList_lookup_own_ok_int _ rfl _ _ 48 rfl 39 3 .i64 key_law Try.underlying48 Try.underlying3 (zeroInt _) w.heap.size k D rfl ((map_below hown hb1).alloc _) _ _ rfl (keyOf_val ss[k].data.toList n) ?_; intro c hat hwc; obtain rfl : c = (i : Int) := by rw [hati] at hat; simpa using hat.symm))
          go_roundw
          case rel => exact ⟨k + 1, D, by omega, by go_num, ((map_below hown hb1).alloc _).mono (by omega), HI, HN.out, hbx.alloc hbx.size _⟩
          case measure => simp [intOf]; omega
        · have hdB := bs_diff hd
          have hsi := hm ss[i] (List.getElem_mem hil)
          have hsk := hm ss[k] (List.getElem_mem hlt)
          have HP : Hid (sumStr ss[i].data.toList n = sumStr ss[k].data.toList n ∧ ss[i] ≠ ss[k]) := ⟨hsum, hd⟩
          clear hinv hc hd hsum
          go_wp2_with (first | (go_at_call 14; refine (keyOf_any _ _ _ hsz h8).mono ?_; rintro e w1 ⟨rfl, hb1⟩; have hbx := hb.trans (hb1.mono hb.size); have hci1 : ∀ o, (w1.alloc o).cell? ⟨b, off + i, none⟩ = some (.string ss[i]) := fun o => cell_later (hbx.alloc hbx.size o) hci; unfold keyVal) | (at_lookup; refine wpList_lookup_own_ok_int _ rfl _ _ 48 rfl 39 3 .i64 key_law Try.underlying48 Try.underlying3 (zeroInt _) w.heap.size k D rfl ((map_below hown hb1).alloc _) _ _ rfl (keyOf_val ss[k].data.toList n) ?_; intro c hat hwc; obtain rfl : c = (i : Int) := by rw [hati] at hat; simpa using hat.symm))

          refine (clone_any _ _ hsi).mono ?_
          rintro e w2 ⟨rfl, hb2⟩
          go_wp2_with fail
          refine (clone_any _ _ hsk).mono ?_
          rintro e w3 ⟨rfl, hb3⟩
          go_wp2
          go_ret3
          have hb12 := hbx.alloc hbx.size (Obj.cells #[.int .u8 (kb (fnv ss[k].data.toList) n 0), .int .u8 (kb (fnv ss[k].data.toList) n 1), .int .u8 (kb (fnv ss[k].data.toList) n 2), .int .u8 (kb (fnv ss[k].data.toList) n 3), .int .u8 (kb (fnv ss[k].data.toList) n 4), .int .u8 (kb (fnv ss[k].data.toList) n 5), .int .u8 (kb (fnv ss[k].data.toList) n 6), .int .u8 (kb (fnv ss[k].data.toList) n 7)] 39)
          have hb13 := hb12.trans (hb2.mono hb12.size)
          exact ⟨_, _, _, rfl, .inr ⟨rfl, i, k, hlt, hi, rfl, rfl, HP.out.1, HP.out.2, hno⟩, hb13.trans (hb3.mono hb13.size)⟩
      · have hh : Maps.has D (keyLit (fnv ss[k].data.toList) n) = false := by simpa using hh
        have HN : Hid (NoHit (fun s => sumStr s.data.toList n) ss (k + 1)) := noHit_succ _ _ k hlt hno fun i hi e => absurd e ((hinv _).2 hh i hi _)
        have HI := mapInv_new h8 hlt hinv hown.isMap hh
        clear hno hinv hc
        go_wp2_with (first | (go_at_call 14; refine (keyOf_any _ _ _ hsz h8).mono ?_; rintro e w1 ⟨rfl, hb1⟩; unfold keyVal) | (at_lookup; refine wpList_lookup_own_ok_int _ rfl _ _ 48 rfl 39 3 .i64 key_law Try.underlying48 Try.underlying3 (zeroInt _) w.heap.size k D rfl ((map_below hown hb1).alloc _) _ _ rfl (keyOf_val ss[k].data.toList n) ?_; intro c hat hwc) | (at_mapUpdate; refine wpList_mapUpdate_own _ rfl _ _ _ 48 rfl 39 3 key_law Try.underlying48 _ w.heap.size k D rfl ((map_below hown hb1).alloc _) (by unfold maxLen; omega) _ _ _ rfl rfl (keyOf_val ss[k].data.toList n) _ [] (plainElem_int Try.underlying3 (WalkArith.wf_i64 (by omega))) ?_; intro w2 hown2 hgrow2))
        go_roundw
        case rel => exact ⟨k + 1, _, by omega, by go_num, hown2, HI, HN.out, (((hb.trans (hb1.mono hb.size)).alloc (Nat.le_trans hb.size hb1.size) _)).grown hgrow2 (by simp; exact Nat.le_trans (Nat.le_trans hb.size hb1.size) (by omega)) (fun j hj => by cases hj; exact Nat.le_refl _)⟩
        case measure => simp [intOf]; omega
    · obtain rfl : k = ss.length := by omega
      go_wp2
      go_ret3
      exact ⟨_, _, _, rfl, .inl ⟨rfl, rfl, rfl, hno⟩, hb⟩
end Go.Proofs.Ytnobhmljhijhcaa
