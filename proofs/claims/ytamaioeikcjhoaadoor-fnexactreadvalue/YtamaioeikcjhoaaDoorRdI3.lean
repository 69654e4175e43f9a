/-
  impl's reader of forms: counts, flags, numbers, texts.
-/
import Derived.Test.YtamaioeikcjhoaaDoorRdI2
import Derived.Test.YtamaioeikcjhoaaDoorClone
namespace Go.Proofs.YtamaioeikcjhoaaDoor
open Go.RowKit

def CntPost (b : Nat) (W : World) (most : Nat) (l : List UInt8) (v : Value) (xs : List At) (e : Ending) (W' : World) : Prop :=
  Below b W W' ∧ ((pCount most l = none ∧ ∃ y, e = .returned (.tuple #[.int .i64 0, flt y])) ∨ (∃ n r, pCount most l = some (n, r) ∧ e = .returned (.tuple #[.int .i64 n, .nilIface]) ∧ RM b W' r v xs))

set_option maxRecDepth 20000 in
set_option maxHeartbeats 1000000 in
theorem count_any (b : Nat) (W : World) (most : Nat) (hm : most ≤ 1500) (l : List UInt8) (v : Value) (xs : List At) (h : RM b W l v xs) :
    Calls Tryd.prog 65 #[.pointer (some ⟨b, 0, none⟩), .int .u64 most] W fun e W' => CntPost b W most l v xs e W' := by
  go_enter Tryd.func65, Tryd.ntmps65
  go_wp2_with fail
  refine (short_any b W l v xs h).mono ?_
  rintro e w1 ⟨hb1, ⟨hp, y, rfl⟩ | ⟨n, r, hp, rfl, hM1⟩⟩
  · have HP : RKeep (CntPost b W most l v xs (.returned (.tuple #[.int .i64 0, flt y])) w1) := ⟨hb1, .inl ⟨by unfold pCount; rw [hp]; rfl, y, rfl⟩⟩
    clear hp
    unfold flt at HP ⊢
    go_wp2
    refine bodyPost_ret (v := .tuple #[.int .i64 0, .iface 45 (.agg #[.string y])]) ?_ rfl HP.out
    go_light
    simp [results, Tryd.results65, go_sem]
  · have HPN : RKeep (pCount most l = if n ≤ most then some (n, r) else none) := ⟨by unfold pCount; rw [hp]; rfl⟩
    clear hp
    by_cases hn : n ≤ most
    · have HP : RKeep (CntPost b W most l v xs (.returned (.tuple #[.int .i64 n, .nilIface])) w1) := ⟨hb1, .inr ⟨n, r, by rw [HPN.out, if_pos hn], rfl, hM1⟩⟩
      have i1 : ¬ (most : Int) < n := by omega
      go_wp2
      refine bodyPost_ret (v := .tuple #[.int .i64 n, .nilIface]) ?_ rfl HP.out
      go_light
      simp [results, Tryd.results65, go_sem]
    · have HP : RKeep (CntPost b W most l v xs (.returned (.tuple #[.int .i64 0, flt ⟨#[97, 32, 99, 111, 117, 110, 116, 32, 97, 98, 111, 118, 101, 32, 105, 116, 115, 32, 108, 105, 109, 105, 116]⟩])) w1) := ⟨hb1, .inl ⟨by rw [HPN.out, if_neg hn], _, rfl⟩⟩
      have i1 : (most : Int) < n := by omega
      unfold flt at HP
      go_wp2
      refine bodyPost_ret (v := .tuple #[.int .i64 0, .iface 45 (.agg #[.string ⟨#[97, 32, 99, 111, 117, 110, 116, 32, 97, 98, 111, 118, 101, 32, 105, 116, 115, 32, 108, 105, 109, 105, 116]⟩])]) ?_ rfl HP.out
      go_light
      simp [results, Tryd.results65, go_sem]

/-- What reading some atoms comes to. -/
def VPost (b : Nat) (W : World) (xs : List At) (o : Option (List At × List UInt8)) (e : Ending) (W' : World) : Prop :=
  Below b W W' ∧ ((o = none ∧ ∃ y, e = .returned (flt y)) ∨ (∃ ys r v', o = some (ys, r) ∧ e = .returned .nilIface ∧ RM b W' r v' (xs ++ ys)))
def pFlag (room : Nat) : List UInt8 → Option (List At × List UInt8)
  | [] => none
  | c :: r => if c.toNat ≤ 1 ∧ 0 < room then some ([flagA c.toNat], r) else none
def pNum (room : Nat) (l : List UInt8) : Option (List At × List UInt8) := (pSh 0 l).bind fun x => if 0 < room then some ([numA (zag x.1)], x.2) else none
def pTxt (room : Nat) (l : List UInt8) : Option (List At × List UInt8) := (pText l).bind fun x => if 0 < room then some ([textA x.1], x.2) else none
/-- Behind an add. -/
theorem AddPost.v {b : Nat} {W0 W : World} {l : List UInt8} {xs : List At} {a : At} {e : Ending} {W' : World} (h : AddPost b W l xs a e W') (hb : Below b W0 W) {o : Option (List At × List UInt8)} (ho : o = if 0 < 300 - xs.length then some ([a], l) else none) (hx : xs.length ≤ 300) : VPost b W0 xs o e W' := by
  obtain ⟨h1, ⟨h2, y, rfl⟩ | ⟨h2, rfl, v', h3⟩⟩ := h
  · exact ⟨hb.trans h1, .inl ⟨by rw [ho, if_neg (by omega)], y, rfl⟩⟩
  · exact ⟨hb.trans h1, .inr ⟨[a], l, v', by rw [ho, if_pos (by omega)], rfl, h3⟩⟩
theorem AddPost.ret {b : Nat} {W : World} {l : List UInt8} {xs : List At} {a : At} {e : Ending} {W' : World} (h : AddPost b W l xs a e W') : (∃ y, e = .returned (.iface 45 (.agg #[.string y]))) ∨ e = .returned .nilIface := by
  obtain ⟨h1, ⟨h2, y, rfl⟩ | ⟨h2, rfl, v', h3⟩⟩ := h
  · exact .inl ⟨y, rfl⟩
  · exact .inr rfl

set_option maxRecDepth 20000 in
set_option maxHeartbeats 1000000 in
theorem flag_any (b : Nat) (W : World) (l : List UInt8) (v : Value) (xs : List At) (h : RM b W l v xs) (hx : xs.length ≤ 300) :
    Calls Tryd.prog 51 #[.pointer (some ⟨b, 0, none⟩)] W fun e W' => VPost b W xs (pFlag (300 - xs.length) l) e W' := by
  go_enter Tryd.func51, Tryd.ntmps51
  go_wp2_with fail
  refine (oneByte_any b W l v xs h).mono ?_
  rintro e w1 ⟨hb1, ⟨hl, y, rfl⟩ | ⟨c, r, hl, rfl, hM1⟩⟩
  · have HP : RKeep (VPost b W xs (pFlag (300 - xs.length) l) (.returned (flt y)) w1) := ⟨hb1, .inl ⟨by rw [hl]; rfl, y, rfl⟩⟩
    clear hl
    unfold flt at HP ⊢
    go_wp2
    refine bodyPost_ret (v := .iface 45 (.agg #[.string y])) ?_ rfl HP.out
    go_light
    simp [results, Tryd.results51, go_sem]
  · have HL : RKeep (pFlag (300 - xs.length) l = if c.toNat ≤ 1 ∧ 0 < 300 - xs.length then some ([flagA c.toNat], r) else none) := ⟨by rw [hl]; rfl⟩
    clear hl
    have hc : c.toNat < 256 := UInt8.toNat_lt c
    obtain ⟨q, hq⟩ : ∃ q, q = c.toNat := ⟨_, rfl⟩
    rw [← hq] at hc HL ⊢
    clear hq
    by_cases h1 : q ≤ 1
    · have i1 : ¬ (1 : Int) < q := by omega
      have hadd := add_any b w1 r v xs (flagA q) hM1 hx
      unfold flagA at hadd
      go_wp2_with fail
      refine hadd.mono ?_
      intro e w2 hp
      have HV : RKeep (VPost b W xs (pFlag (300 - xs.length) l) e w2) := ⟨hp.v hb1 (by rw [HL.out]; by_cases h0 : 0 < 300 - xs.length <;> simp [h0, h1, flagA]) hx⟩
      rcases hp.ret with ⟨y, rfl⟩ | rfl
      · clear hp hadd
        go_wp2
        refine bodyPost_ret (v := .iface 45 (.agg #[.string y])) ?_ rfl HV.out
        go_light
        simp [results, Tryd.results51, go_sem]
      · clear hp hadd
        go_wp2
        refine bodyPost_ret (v := .nilIface) ?_ rfl HV.out
        go_light
        simp [results, Tryd.results51, go_sem]
    · have i1 : (1 : Int) < q := by omega
      have HP : RKeep (VPost b W xs (pFlag (300 - xs.length) l) (.returned (flt ⟨#[97, 32, 102, 108, 97, 103, 32, 116, 104, 97, 116, 32, 105, 115, 32, 110, 111, 116, 32, 48, 32, 111, 114, 32, 49]⟩)) w1) := ⟨hb1, .inl ⟨by rw [HL.out, if_neg (fun h => h1 h.1)], _, rfl⟩⟩
      unfold flt at HP
      go_wp2
      refine bodyPost_ret (v := .iface 45 (.agg #[.string ⟨#[97, 32, 102, 108, 97, 103, 32, 116, 104, 97, 116, 32, 105, 115, 32, 110, 111, 116, 32, 48, 32, 111, 114, 32, 49]⟩])) ?_ rfl HP.out
      go_light
      simp [results, Tryd.results51, go_sem]

set_option maxRecDepth 20000 in
set_option maxHeartbeats 1000000 in
theorem number_any (b : Nat) (W : World) (l : List UInt8) (v : Value) (xs : List At) (h : RM b W l v xs) (hx : xs.length ≤ 300) :
    Calls Tryd.prog 52 #[.pointer (some ⟨b, 0, none⟩)] W fun e W' => VPost b W xs (pNum (300 - xs.length) l) e W' := by
  go_enter Tryd.func52, Tryd.ntmps52
  go_wp2_with fail
  refine (short_any b W l v xs h).mono ?_
  rintro e w1 ⟨hb1, ⟨hp, y, rfl⟩ | ⟨n, r, hp, rfl, hM1⟩⟩
  · have HP : RKeep (VPost b W xs (pNum (300 - xs.length) l) (.returned (flt y)) w1) := ⟨hb1, .inl ⟨by unfold pNum; rw [hp]; rfl, y, rfl⟩⟩
    clear hp
    unfold flt at HP ⊢
    go_wp2
    refine bodyPost_ret (v := .iface 45 (.agg #[.string y])) ?_ rfl HP.out
    go_light
    simp [results, Tryd.results52, go_sem]
  · have hn : n < 18446744073709551616 := (pSh_sound l 0 n r (by omega) hp).2.1
    have HL : RKeep (pNum (300 - xs.length) l = if 0 < 300 - xs.length then some ([numA (zag n)], r) else none) := ⟨by unfold pNum; rw [hp]; rfl⟩
    clear hp
    have hsg := signed_any n hn w1
    go_wp2_with fail
    refine hsg.mono ?_
    rintro e w1' ⟨rfl, rfl⟩
    clear hsg
    have hadd := add_any b w1 r v xs (numA (zag n)) hM1 hx
    unfold numA at hadd
    generalize hz : zag n = z at *
    clear hz
    go_wp2_with fail
    refine hadd.mono ?_
    intro e w2 hp
    have HV : RKeep (VPost b W xs (pNum (300 - xs.length) l) e w2) := ⟨hp.v hb1 (by rw [HL.out]; rfl) hx⟩
    rcases hp.ret with ⟨y, rfl⟩ | rfl
    · clear hp hadd
      go_wp2
      refine bodyPost_ret (v := .iface 45 (.agg #[.string y])) ?_ rfl HV.out
      go_light
      simp [results, Tryd.results52, go_sem]
    · clear hp hadd
      go_wp2
      refine bodyPost_ret (v := .nilIface) ?_ rfl HV.out
      go_light
      simp [results, Tryd.results52, go_sem]

set_option maxRecDepth 20000 in
set_option maxHeartbeats 2000000 in
theorem rtext_any (b : Nat) (W : World) (l : List UInt8) (v : Value) (xs : List At) (h : RM b W l v xs) (hx : xs.length ≤ 300) (hl : l.length ≤ 1048576) :
    Calls Tryd.prog 53 #[.pointer (some ⟨b, 0, none⟩)] W fun e W' => VPost b W xs (pTxt (300 - xs.length) l) e W' := by
  go_enter Tryd.func53, Tryd.ntmps53
  go_wp2_with fail
  refine (count_any b W 1500 (by omega) l v xs h).mono ?_
  rintro e w1 ⟨hb1, ⟨hp, y, rfl⟩ | ⟨n, r, hp, rfl, hM1⟩⟩
  · have HP : RKeep (VPost b W xs (pTxt (300 - xs.length) l) (.returned (flt y)) w1) := ⟨hb1, .inl ⟨by unfold pTxt pText; rw [hp]; rfl, y, rfl⟩⟩
    clear hp
    unfold flt at HP ⊢
    go_wp2
    refine bodyPost_ret (v := .iface 45 (.agg #[.string y])) ?_ rfl HP.out
    go_light
    simp [results, Tryd.results53, go_sem]
  · have hn := (pCount_sound hp).2
    have hrl : r.length ≤ 1048576 := by
      have e := (pCount_sound hp).1
      rw [e, List.length_append] at hl
      omega
    have HL : RKeep (pTxt (300 - xs.length) l = if n ≤ r.length then (if 0 < 300 - xs.length then some ([textA (mkL (r.take n))], r.drop n) else none) else none) := ⟨by
      unfold pTxt pText
      rw [hp]
      simp only [Option.bind_some]
      by_cases h0 : n ≤ r.length
      · rw [if_pos h0, if_pos h0]; rfl
      · rw [if_neg h0, if_neg h0]; rfl⟩
    clear hp
    have c0 := hM1.c0
    have fz := hM1.fz
    have hsz := mkL_size r
    by_cases h0 : n ≤ r.length
    · have i0 : ¬ ((mkL r).size : Int) < n := by rw [hsz]; omega
      have i2 : n ≤ (mkL r).size := by rw [hsz]; exact h0
      have hdr : (mkL r).extract n (mkL r).size = mkL (r.drop n) := by rw [hsz, mkL_drop]
      have htk : (mkL r).extract 0 n = mkL (r.take n) := mkL_take r n
      have hM2 := hM1.put (r.drop n)
      have hb2 : Below b W (w1.setCell ⟨b, 0, none⟩ (.string (mkL (r.drop n)))) := hb1.setCell (p := ⟨b, 0, none⟩) (Nat.le_refl _) _
      have htz : (mkL (r.take n)).size ≤ 1500 := by rw [mkL_size, List.length_take]; omega
      clear hsz
      have hcl := clone_any (mkL (r.take n)) w1 (by omega)
      have hadd := fun w (hM : RM b w (r.drop n) v xs) => add_any b w (r.drop n) v xs (textA (mkL (r.take n))) hM hx
      unfold textA at hadd
      have HV : RKeep (∀ w e w', Below b W w → AddPost b w (r.drop n) xs (textA (mkL (r.take n))) e w' → VPost b W xs (pTxt (300 - xs.length) l) e w') := ⟨fun w e w' hb hp => hp.v hb (by rw [HL.out, if_pos h0]) hx⟩
      unfold textA at HV
      clear HL hM2 hb2
      have hMd := fun w (hM : RM b w r v xs) => hM.put (r.drop n)
      have hBd := fun w (hB : Below b W w) => Below.setCell (p := ⟨b, 0, none⟩) hB (Nat.le_refl b) (.string (mkL (r.drop n)))
      generalize mkL (r.take n) = tk at *
      generalize mkL (r.drop n) = dr at *
      generalize r.drop n = rd at *
      go_wp2_with fail
      refine hcl.mono ?_
      rintro e w2 ⟨rfl, hb2⟩
      have hM2 := hM1.later hb2
      have c02 := hM2.c0
      have fz2 := hM2.fz
      have hW2 := hb1.trans (hb2.mono (Nat.le_of_lt (lt_of_cellR c0)))
      have hM3 := hMd w2 hM2
      have hW3 := hBd w2 hW2
      have ha := hadd _ hM3
      clear c0 fz hM1 hb2 hM2 hMd hBd hcl hadd
      go_wp2_with fail
      refine ha.mono ?_
      intro e w4 hp
      have HV2 := HV.out _ _ _ hW3 hp
      rcases hp.ret with ⟨y, rfl⟩ | rfl
      · clear hp ha HV
        have HV3 : RKeep _ := ⟨HV2⟩
        clear HV2
        go_wp2
        refine bodyPost_ret (v := .iface 45 (.agg #[.string y])) ?_ rfl HV3.out
        go_light
        simp [results, Tryd.results53, go_sem]
      · clear hp ha HV
        have HV3 : RKeep _ := ⟨HV2⟩
        clear HV2
        go_wp2
        refine bodyPost_ret (v := .nilIface) ?_ rfl HV3.out
        go_light
        simp [results, Tryd.results53, go_sem]
    · have i0 : ((mkL r).size : Int) < n := by rw [hsz]; omega
      have HP : RKeep (VPost b W xs (pTxt (300 - xs.length) l) (.returned (flt ⟨#[99, 117, 116, 32, 115, 104, 111, 114, 116]⟩)) w1) := ⟨hb1, .inl ⟨by rw [HL.out, if_neg h0], _, rfl⟩⟩
      unfold flt at HP
      clear hsz
      go_wp2
      refine bodyPost_ret (v := .iface 45 (.agg #[.string ⟨#[99, 117, 116, 32, 115, 104, 111, 114, 116]⟩])) ?_ rfl HP.out
      go_light
      simp [results, Tryd.results53, go_sem]
end Go.Proofs.YtamaioeikcjhoaaDoor
