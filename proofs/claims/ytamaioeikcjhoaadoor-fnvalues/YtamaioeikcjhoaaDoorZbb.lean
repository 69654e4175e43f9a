/-
  Clone, RdI3, RdI4, RdI5, RdI6, RdI7, AsV, AsW, RdI8, Sd5, RvLaw, VlLaw, ExactVal: laid as one text.
-/
import Derived.Test.YtamaioeikcjhoaaDoorRows
import Derived.Shelf.Pu.Clone
import Derived.WalkKit
import Derived.Test.YtamaioeikcjhoaaDoorZba
import Derived.LaidEql
import Derived.Stop.Asserts
import Derived.RowKitTokens
import Derived.Test.YtamaioeikcjhoaaDoorMkV
import Derived.Test.YtamaioeikcjhoaaDoorSpecFormV
import Derived.Test.YtamaioeikcjhoaaDoorDv9
import Derived.Test.YtamaioeikcjhoaaDoorFormImpl
import Derived.Test.YtamaioeikcjhoaaDoorTie
import Derived.Test.YtamaioeikcjhoaaDoorCards
import Derived.ProofKit
import Derived.OpenShut
import Derived.ShutString
import Derived.ChangeOld
import Derived.Below
import Derived.ChangeMaps
import Derived.SliceStrings
import Derived.ChangeSlices
import Derived.LaidMore
import Derived.LaidLaws
import Derived.LaidHandle
import Derived.Stop.Joined
import Derived.Lay
import Derived.SevenTiedAt
namespace Go.Proofs.YtamaioeikcjhoaaDoor
open Go.RowKit Go.Shelf

def renPu : Ren := ⟨fun n => if n = 25 then 67 else n, fun n => if n = 0 then 0 else if n = 3 then 3 else if n = 4 then 4 else if n = 5 then 5 else if n = 9 then 9 else if n = 37 then 30 else if n = 47 then 143 else n, fun n => n⟩

theorem laysClone : LaysPu.n25 Tryd.prog renPu where
  mixed := by kernel_rfl
  f25 := by kernel_rfl
  t0 := by kernel_rfl
  a0 := fun _ => by kernel_rfl
  z0 := fun _ => by kernel_rfl
  v0 := fun _ => by kernel_rfl
  i0 := by kernel_rfl
  t3 := by kernel_rfl
  a3 := fun _ => by kernel_rfl
  z3 := fun _ => by kernel_rfl
  v3 := fun _ => by kernel_rfl
  i3 := by kernel_rfl
  t4 := by kernel_rfl
  a4 := fun _ => by kernel_rfl
  z4 := fun _ => by kernel_rfl
  v4 := fun _ => by kernel_rfl
  i4 := by kernel_rfl
  t5 := by kernel_rfl
  a5 := fun _ => by kernel_rfl
  z5 := fun _ => by kernel_rfl
  v5 := fun _ => by kernel_rfl
  i5 := by kernel_rfl
  t9 := by kernel_rfl
  a9 := fun _ => by kernel_rfl
  z9 := fun _ => by kernel_rfl
  v9 := fun _ => by kernel_rfl
  i9 := by kernel_rfl
  t37 := by kernel_rfl
  a37 := fun _ => by kernel_rfl
  z37 := fun _ => by kernel_rfl
  v37 := fun _ => by kernel_rfl
  i37 := by kernel_rfl
  t47 := by kernel_rfl
  a47 := fun _ => by kernel_rfl
  z47 := fun _ => by kernel_rfl
  v47 := fun _ => by kernel_rfl
  i47 := by kernel_rfl

theorem cloneLite_any (s : ByteArray) (w : World) (hlim : s.size ≤ 281474976710656) :
    Calls Tryd.prog 67 #[.string s] w fun e w' => e = .returned (.string s) ∧ Below w.heap.size w w' :=
  AnyPu.stringslite_Clone laysClone s w hlim

set_option maxHeartbeats 400000 in
theorem clone_any (s : ByteArray) (w : World) (hlim : s.size ≤ 281474976710656) :
    Calls Tryd.prog 66 #[.string s] w fun e w' => e = .returned (.string s) ∧ Below w.heap.size w w' := by
  go_enter Tryd.func66, Tryd.ntmps66
  go_wp2_with (go_at_call 67; refine (cloneLite_any _ _ hlim).mono ?_; rintro e w1 ⟨rfl, hb⟩)
  go_ret
  exact ⟨rfl, hb⟩
end Go.Proofs.YtamaioeikcjhoaaDoor

namespace Go.Proofs.YtamaioeikcjhoaaDoor
open Go.RowKit

def CntPost (b : Nat) (W : World) (most : Nat) (l : List UInt8) (v : Value) (xs : List At) (e : Ending) (W' : World) : Prop :=
  Below b W W' ∧ ((pCount most l = none ∧ ∃ y, e = .returned (.tuple #[.int .i64 0, flt y])) ∨ (∃ n r, pCount most l = some (n, r) ∧ e = .returned (.tuple #[.int .i64 n, .nilIface]) ∧ RM b W' r v xs))

set_option maxRecDepth 20000 in
set_option maxHeartbeats 1000000 in
theorem count_any (b : Nat) (W : World) (most : Nat) (hm : most ≤ 1500) (l : List UInt8) (v : Value) (xs : List At) (h : RM b W l v xs) :
    Calls Tryd.prog 65 #[.pointer (some ⟨b, 0, none⟩), .int .u64 most] W fun e W' => CntPost b W most l v xs e W' := by
  go_enter Tryd.func65, Tryd.ntmps65
  go_wp2_with fail
  refine (short_any b W l v xs h).mono ?_
  rintro e w1 ⟨hb1, ⟨hp, y, rfl⟩ | ⟨n, r, hp, rfl, hM1⟩⟩
  · have HP : RKeep (CntPost b W most l v xs (.returned (.tuple #[.int .i64 0, flt y])) w1) := ⟨hb1, .inl ⟨by unfold pCount; rw [hp]; rfl, y, rfl⟩⟩
    clear hp
    unfold flt at HP ⊢
    go_wp2
    refine bodyPost_ret (v := .tuple #[.int .i64 0, .iface 45 (.agg #[.string y])]) ?_ rfl HP.out
    go_light
    simp [results, Tryd.results65, go_sem]
  · have HPN : RKeep (pCount most l = if n ≤ most then some (n, r) else none) := ⟨by unfold pCount; rw [hp]; rfl⟩
    clear hp
    by_cases hn : n ≤ most
    · have HP : RKeep (CntPost b W most l v xs (.returned (.tuple #[.int .i64 n, .nilIface])) w1) := ⟨hb1, .inr ⟨n, r, by rw [HPN.out, if_pos hn], rfl, hM1⟩⟩
      have i1 : ¬ (most : Int) < n := by omega
      go_wp2
      refine bodyPost_ret (v := .tuple #[.int .i64 n, .nilIface]) ?_ rfl HP.out
      go_light
      simp [results, Tryd.results65, go_sem]
    · have HP : RKeep (CntPost b W most l v xs (.returned (.tuple #[.int .i64 0, flt ⟨#[97, 32, 99, 111, 117, 110, 116, 32, 97, 98, 111, 118, 101, 32, 105, 116, 115, 32, 108, 105, 109, 105, 116]⟩])) w1) := ⟨hb1, .inl ⟨by rw [HPN.out, if_neg hn], _, rfl⟩⟩
      have i1 : (most : Int) < n := by omega
      unfold flt at HP
      go_wp2
      refine bodyPost_ret (v := .tuple #[.int .i64 0, .iface 45 (.agg #[.string ⟨#[97, 32, 99, 111, 117, 110, 116, 32, 97, 98, 111, 118, 101, 32, 105, 116, 115, 32, 108, 105, 109, 105, 116]⟩])]) ?_ rfl HP.out
      go_light
      simp [results, Tryd.results65, go_sem]

/-- What reading some atoms comes to. -/
def VPost (b : Nat) (W : World) (xs : List At) (o : Option (List At × List UInt8)) (e : Ending) (W' : World) : Prop :=
  Below b W W' ∧ ((o = none ∧ ∃ y, e = .returned (flt y)) ∨ (∃ ys r v', o = some (ys, r) ∧ e = .returned .nilIface ∧ RM b W' r v' (xs ++ ys)))
def pFlag (room : Nat) : List UInt8 → Option (List At × List UInt8)
  | [] => none
  | c :: r => if c.toNat ≤ 1 ∧ 0 < room then some ([flagA c.toNat], r) else none
def pNum (room : Nat) (l : List UInt8) : Option (List At × List UInt8) := (pSh 0 l).bind fun x => if 0 < room then some ([numA (zag x.1)], x.2) else none
def pTxt (room : Nat) (l : List UInt8) : Option (List At × List UInt8) := (pText l).bind fun x => if 0 < room then some ([textA x.1], x.2) else none
/-- Behind an add. -/
theorem AddPost.v {b : Nat} {W0 W : World} {l : List UInt8} {xs : List At} {a : At} {e : Ending} {W' : World} (h : AddPost b W l xs a e W') (hb : Below b W0 W) {o : Option (List At × List UInt8)} (ho : o = if 0 < 300 - xs.length then some ([a], l) else none) (hx : xs.length ≤ 300) : VPost b W0 xs o e W' := by
  obtain ⟨h1, ⟨h2, y, rfl⟩ | ⟨h2, rfl, v', h3⟩⟩ := h
  · exact ⟨hb.trans h1, .inl ⟨by rw [ho, if_neg (by omega)], y, rfl⟩⟩
  · exact ⟨hb.trans h1, .inr ⟨[a], l, v', by rw [ho, if_pos (by omega)], rfl, h3⟩⟩
theorem AddPost.ret {b : Nat} {W : World} {l : List UInt8} {xs : List At} {a : At} {e : Ending} {W' : World} (h : AddPost b W l xs a e W') : (∃ y, e = .returned (.iface 45 (.agg #[.string y]))) ∨ e = .returned .nilIface := by
  obtain ⟨h1, ⟨h2, y, rfl⟩ | ⟨h2, rfl, v', h3⟩⟩ := h
  · exact .inl ⟨y, rfl⟩
  · exact .inr rfl

set_option maxRecDepth 20000 in
set_option maxHeartbeats 1000000 in
theorem flag_any (b : Nat) (W : World) (l : List UInt8) (v : Value) (xs : List At) (h : RM b W l v xs) (hx : xs.length ≤ 300) :
    Calls Tryd.prog 51 #[.pointer (some ⟨b, 0, none⟩)] W fun e W' => VPost b W xs (pFlag (300 - xs.length) l) e W' := by
  go_enter Tryd.func51, Tryd.ntmps51
  go_wp2_with fail
  refine (oneByte_any b W l v xs h).mono ?_
  rintro e w1 ⟨hb1, ⟨hl, y, rfl⟩ | ⟨c, r, hl, rfl, hM1⟩⟩
  · have HP : RKeep (VPost b W xs (pFlag (300 - xs.length) l) (.returned (flt y)) w1) := ⟨hb1, .inl ⟨by rw [hl]; rfl, y, rfl⟩⟩
    clear hl
    unfold flt at HP ⊢
    go_wp2
    refine bodyPost_ret (v := .iface 45 (.agg #[.string y])) ?_ rfl HP.out
    go_light
    simp [results, Tryd.results51, go_sem]
  · have HL : RKeep (pFlag (300 - xs.length) l = if c.toNat ≤ 1 ∧ 0 < 300 - xs.length then some ([flagA c.toNat], r) else none) := ⟨by rw [hl]; rfl⟩
    clear hl
    have hc : c.toNat < 256 := UInt8.toNat_lt c
    obtain ⟨q, hq⟩ : ∃ q, q = c.toNat := ⟨_, rfl⟩
    rw [← hq] at hc HL ⊢
    clear hq
    by_cases h1 : q ≤ 1
    · have i1 : ¬ (1 : Int) < q := by omega
      have hadd := add_any b w1 r v xs (flagA q) hM1 hx
      unfold flagA at hadd
      go_wp2_with fail
      refine hadd.mono ?_
      intro e w2 hp
      have HV : RKeep (VPost b W xs (pFlag (300 - xs.length) l) e w2) := ⟨hp.v hb1 (by rw [HL.out]; by_cases h0 : 0 < 300 - xs.length <;> simp [h0, h1, flagA]) hx⟩
      rcases hp.ret with ⟨y, rfl⟩ | rfl
      · clear hp hadd
        go_wp2
        refine bodyPost_ret (v := .iface 45 (.agg #[.string y])) ?_ rfl HV.out
        go_light
        simp [results, Tryd.results51, go_sem]
      · clear hp hadd
        go_wp2
        refine bodyPost_ret (v := .nilIface) ?_ rfl HV.out
        go_light
        simp [results, Tryd.results51, go_sem]
    · have i1 : (1 : Int) < q := by omega
      have HP : RKeep (VPost b W xs (pFlag (300 - xs.length) l) (.returned (flt ⟨#[97, 32, 102, 108, 97, 103, 32, 116, 104, 97, 116, 32, 105, 115, 32, 110, 111, 116, 32, 48, 32, 111, 114, 32, 49]⟩)) w1) := ⟨hb1, .inl ⟨by rw [HL.out, if_neg (fun h => h1 h.1)], _, rfl⟩⟩
      unfold flt at HP
      go_wp2
      refine bodyPost_ret (v := .iface 45 (.agg #[.string ⟨#[97, 32, 102, 108, 97, 103, 32, 116, 104, 97, 116, 32, 105, 115, 32, 110, 111, 116, 32, 48, 32, 111, 114, 32, 49]⟩])) ?_ rfl HP.out
      go_light
      simp [results, Tryd.results51, go_sem]

set_option maxRecDepth 20000 in
set_option maxHeartbeats 1000000 in
theorem number_any (b : Nat) (W : World) (l : List UInt8) (v : Value) (xs : List At) (h : RM b W l v xs) (hx : xs.length ≤ 300) :
    Calls Tryd.prog 52 #[.pointer (some ⟨b, 0, none⟩)] W fun e W' => VPost b W xs (pNum (300 - xs.length) l) e W' := by
  go_enter Tryd.func52, Tryd.ntmps52
  go_wp2_with fail
  refine (short_any b W l v xs h).mono ?_
  rintro e w1 ⟨hb1, ⟨hp, y, rfl⟩ | ⟨n, r, hp, rfl, hM1⟩⟩
  · have HP : RKeep (VPost b W xs (pNum (300 - xs.length) l) (.returned (flt y)) w1) := ⟨hb1, .inl ⟨by unfold pNum; rw [hp]; rfl, y, rfl⟩⟩
    clear hp
    unfold flt at HP ⊢
    go_wp2
    refine bodyPost_ret (v := .iface 45 (.agg #[.string y])) ?_ rfl HP.out
    go_light
    simp [results, Tryd.results52, go_sem]
  · have hn : n < 18446744073709551616 := (pSh_sound l 0 n r (by omega) hp).2.1
    have HL : RKeep (pNum (300 - xs.length) l = if 0 < 300 - xs.length then some ([numA (zag n)], r) else none) := ⟨by unfold pNum; rw [hp]; rfl⟩
    clear hp
    have hsg := signed_any n hn w1
    go_wp2_with fail
    refine hsg.mono ?_
    rintro e w1' ⟨rfl, rfl⟩
    clear hsg
    have hadd := add_any b w1 r v xs (numA (zag n)) hM1 hx
    unfold numA at hadd
    generalize hz : zag n = z at *
    clear hz
    go_wp2_with fail
    refine hadd.mono ?_
    intro e w2 hp
    have HV : RKeep (VPost b W xs (pNum (300 - xs.length) l) e w2) := ⟨hp.v hb1 (by rw [HL.out]; rfl) hx⟩
    rcases hp.ret with ⟨y, rfl⟩ | rfl
    · clear hp hadd
      go_wp2
      refine bodyPost_ret (v := .iface 45 (.agg #[.string y])) ?_ rfl HV.out
      go_light
      simp [results, Tryd.results52, go_sem]
    · clear hp hadd
      go_wp2
      refine bodyPost_ret (v := .nilIface) ?_ rfl HV.out
      go_light
      simp [results, Tryd.results52, go_sem]

set_option maxRecDepth 20000 in
set_option maxHeartbeats 2000000 in
theorem rtext_any (b : Nat) (W : World) (l : List UInt8) (v : Value) (xs : List At) (h : RM b W l v xs) (hx : xs.length ≤ 300) (hl : l.length ≤ 1048576) :
    Calls Tryd.prog 53 #[.pointer (some ⟨b, 0, none⟩)] W fun e W' => VPost b W xs (pTxt (300 - xs.length) l) e W' := by
  go_enter Tryd.func53, Tryd.ntmps53
  go_wp2_with fail
  refine (count_any b W 1500 (by omega) l v xs h).mono ?_
  rintro e w1 ⟨hb1, ⟨hp, y, rfl⟩ | ⟨n, r, hp, rfl, hM1⟩⟩
  · have HP : RKeep (VPost b W xs (pTxt (300 - xs.length) l) (.returned (flt y)) w1) := ⟨hb1, .inl ⟨by unfold pTxt pText; rw [hp]; rfl, y, rfl⟩⟩
    clear hp
    unfold flt at HP ⊢
    go_wp2
    refine bodyPost_ret (v := .iface 45 (.agg #[.string y])) ?_ rfl HP.out
    go_light
    simp [results, Tryd.results53, go_sem]
  · have hn := (pCount_sound hp).2
    have hrl : r.length ≤ 1048576 := by
      have e := (pCount_sound hp).1
      rw [e, List.length_append] at hl
      omega
    have HL : RKeep (pTxt (300 - xs.length) l = if n ≤ r.length then (if 0 < 300 - xs.length then some ([textA (mkL (r.take n))], r.drop n) else none) else none) := ⟨by
      unfold pTxt pText
      rw [hp]
      simp only [Option.bind_some]
      by_cases h0 : n ≤ r.length
      · rw [if_pos h0, if_pos h0]; rfl
      · rw [if_neg h0, if_neg h0]; rfl⟩
    clear hp
    have c0 := hM1.c0
    have fz := hM1.fz
    have hsz := mkL_size r
    by_cases h0 : n ≤ r.length
    · have i0 : ¬ ((mkL r).size : Int) < n := by rw [hsz]; omega
      have i2 : n ≤ (mkL r).size := by rw [hsz]; exact h0
      have hdr : (mkL r).extract n (mkL r).size = mkL (r.drop n) := by rw [hsz, mkL_drop]
      have htk : (mkL r).extract 0 n = mkL (r.take n) := mkL_take r n
      have hM2 := hM1.put (r.drop n)
      have hb2 : Below b W (w1.setCell ⟨b, 0, none⟩ (.string (mkL (r.drop n)))) := hb1.setCell (p := ⟨b, 0, none⟩) (Nat.le_refl _) _
      have htz : (mkL (r.take n)).size ≤ 1500 := by rw [mkL_size, List.length_take]; omega
      clear hsz
      have hcl := clone_any (mkL (r.take n)) w1 (by omega)
      have hadd := fun w (hM : RM b w (r.drop n) v xs) => add_any b w (r.drop n) v xs (textA (mkL (r.take n))) hM hx
      unfold textA at hadd
      have HV : RKeep (∀ w e w', Below b W w → AddPost b w (r.drop n) xs (textA (mkL (r.take n))) e w' → VPost b W xs (pTxt (300 - xs.length) l) e w') := ⟨fun w e w' hb hp => hp.v hb (by rw [HL.out, if_pos h0]) hx⟩
      unfold textA at HV
      clear HL hM2 hb2
      have hMd := fun w (hM : RM b w r v xs) => hM.put (r.drop n)
      have hBd := fun w (hB : Below b W w) => Below.setCell (p := ⟨b, 0, none⟩) hB (Nat.le_refl b) (.string (mkL (r.drop n)))
      generalize mkL (r.take n) = tk at *
      generalize mkL (r.drop n) = dr at *
      generalize r.drop n = rd at *
      go_wp2_with fail
      refine hcl.mono ?_
      rintro e w2 ⟨rfl, hb2⟩
      have hM2 := hM1.later hb2
      have c02 := hM2.c0
      have fz2 := hM2.fz
      have hW2 := hb1.trans (hb2.mono (Nat.le_of_lt (lt_of_cellR c0)))
      have hM3 := hMd w2 hM2
      have hW3 := hBd w2 hW2
      have ha := hadd _ hM3
      clear c0 fz hM1 hb2 hM2 hMd hBd hcl hadd
      go_wp2_with fail
      refine ha.mono ?_
      intro e w4 hp
      have HV2 := HV.out _ _ _ hW3 hp
      rcases hp.ret with ⟨y, rfl⟩ | rfl
      · clear hp ha HV
        have HV3 : RKeep _ := ⟨HV2⟩
        clear HV2
        go_wp2
        refine bodyPost_ret (v := .iface 45 (.agg #[.string y])) ?_ rfl HV3.out
        go_light
        simp [results, Tryd.results53, go_sem]
      · clear hp ha HV
        have HV3 : RKeep _ := ⟨HV2⟩
        clear HV2
        go_wp2
        refine bodyPost_ret (v := .nilIface) ?_ rfl HV3.out
        go_light
        simp [results, Tryd.results53, go_sem]
    · have i0 : ((mkL r).size : Int) < n := by rw [hsz]; omega
      have HP : RKeep (VPost b W xs (pTxt (300 - xs.length) l) (.returned (flt ⟨#[99, 117, 116, 32, 115, 104, 111, 114, 116]⟩)) w1) := ⟨hb1, .inl ⟨by rw [HL.out, if_neg h0], _, rfl⟩⟩
      unfold flt at HP
      clear hsz
      go_wp2
      refine bodyPost_ret (v := .iface 45 (.agg #[.string ⟨#[99, 117, 116, 32, 115, 104, 111, 114, 116]⟩])) ?_ rfl HP.out
      go_light
      simp [results, Tryd.results53, go_sem]
end Go.Proofs.YtamaioeikcjhoaaDoor

namespace Go.Proofs.YtamaioeikcjhoaaDoor
open Go.RowKit

/-- A value is read, at a depth. -/
def ValIH (b f : Nat) (z : Int) : Prop := ∀ (W : World) (l : List UInt8) (v : Value) (xs : List At), RM b W l v xs → xs.length ≤ 300 → l.length ≤ 1048576 → Calls Tryd.prog 33 #[.pointer (some ⟨b, 0, none⟩), .int .i64 z] W fun e W' => VPost b W xs (pVal f (300 - xs.length) l) e W'
def pLst (f room : Nat) (l : List UInt8) : Option (List At × List UInt8) := (pCount 300 l).bind fun x => (pKids (pVal f) x.1 room x.2).bind fun y => if y.1.length < room then some (y.1 ++ [listA x.1], y.2) else none
def pRec (f room : Nat) (l : List UInt8) : Option (List At × List UInt8) := (pCount 300 l).bind fun x => (pFlds (pVal f) x.1 none room x.2).bind fun y => if y.1.length < room then some (y.1 ++ [recA x.1], y.2) else none
theorem AddPost.v2 {b : Nat} {W0 W : World} {l : List UInt8} {xs ys : List At} {a : At} {e : Ending} {W' : World} (h : AddPost b W l (xs ++ ys) a e W') (hb : Below b W0 W) {o : Option (List At × List UInt8)} (ho : o = if ys.length < 300 - xs.length then some (ys ++ [a], l) else none) : VPost b W0 xs o e W' := by
  obtain ⟨h1, ⟨h2, y, rfl⟩ | ⟨h2, rfl, v', h3⟩⟩ := h
  · rw [List.length_append] at h2
    exact ⟨hb.trans h1, .inl ⟨by rw [ho, if_neg (by omega)], y, rfl⟩⟩
  · rw [List.length_append] at h2
    rw [List.append_assoc] at h3
    exact ⟨hb.trans h1, .inr ⟨ys ++ [a], l, v', by rw [ho, if_pos (by omega)], rfl, h3⟩⟩
theorem pVal_len {f room : Nat} {l r : List UInt8} {ys : List At} (h : pVal f room l = some (ys, r)) : ys.length ≤ room ∧ r.length ≤ l.length := by
  obtain ⟨t, _, _, _, e, h5⟩ := pVal_sound f room l ys r h
  exact ⟨h5, by rw [e, List.length_append]; omega⟩

set_option maxRecDepth 20000 in
set_option maxHeartbeats 2000000 in
theorem list_any (b f : Nat) (d : Nat) (hd : d ≤ 12) (ih : ValIH b f ((d : Int) + 1)) (W : World) (l : List UInt8) (v : Value) (xs : List At) (h : RM b W l v xs) (hx : xs.length ≤ 300) (hl : l.length ≤ 1048576) :
    Calls Tryd.prog 54 #[.pointer (some ⟨b, 0, none⟩), .int .i64 d] W fun e W' => VPost b W xs (pLst f (300 - xs.length) l) e W' := by
  go_enter Tryd.func54, Tryd.ntmps54
  go_wp2_with fail
  refine (count_any b W 300 (by omega) l v xs h).mono ?_
  rintro e w1 ⟨hb1, ⟨hp, y, rfl⟩ | ⟨n, r, hp, rfl, hM1⟩⟩
  · have HP : RKeep (VPost b W xs (pLst f (300 - xs.length) l) (.returned (flt y)) w1) := ⟨hb1, .inl ⟨by unfold pLst; rw [hp]; rfl, y, rfl⟩⟩
    clear hp
    unfold flt at HP ⊢
    go_wp2
    refine bodyPost_ret (v := .iface 45 (.agg #[.string y])) ?_ rfl HP.out
    go_light
    simp [results, Tryd.results54, go_sem]
  · have hn := (pCount_sound hp).2
    have hrl : r.length ≤ 1048576 := by
      have e := (pCount_sound hp).1
      rw [e, List.length_append] at hl
      omega
    have HL : RKeep (pLst f (300 - xs.length) l = (pKids (pVal f) n (300 - xs.length) r).bind fun y => if y.1.length < 300 - xs.length then some (y.1 ++ [listA n], y.2) else none) := ⟨by unfold pLst; rw [hp]; rfl⟩
    clear hp hl
    have HI : RKeep (ValIH b f ((d : Int) + 1)) := ⟨ih⟩
    clear ih
    have hw2 : IntKind.i64.wrap ((d : Int) + 1) = (d : Int) + 1 := by rw [IntKind.wrap_i64]; omega
    go_wp2
    go_loopw [17] (fun i wr => ∃ (k : Nat) (ys : List At) (lk : List UInt8) (v' : Value), k ≤ n ∧ i = .int .i64 k ∧ RKeep (pKids (pVal f) n (300 - xs.length) r = (pKids (pVal f) (n - k) (300 - (xs ++ ys).length) lk).map fun y => (ys ++ y.1, y.2)) ∧ RM b wr lk v' (xs ++ ys) ∧ (xs ++ ys).length ≤ 300 ∧ lk.length ≤ 1048576 ∧ Below b W wr) (fun i _ => n - (intOf i).toNat)
    case atStart =>
      refine ⟨0, [], r, v, Nat.zero_le _, rfl, ⟨?_⟩, by rw [List.append_nil]; exact hM1, by simpa using hx, hrl, hb1⟩
      rw [List.append_nil, Nat.sub_zero]
      cases pKids (pVal f) n (300 - xs.length) r with
      | none => simp only [Option.map_none]
      | some y => simp
    case round =>
      obtain ⟨k, ys, lk, v', hk, rfl, HK, hM, hxy, hlk, hb⟩ := hrel
      by_cases hlt : k < n
      · have hi1 : (k : Int) < n := by omega
        have hcall := HI.out wr lk v' (xs ++ ys) hM hxy hlk
        go_wp2_with fail
        refine hcall.mono ?_
        rintro e w2 ⟨hb2, ⟨hp, y, rfl⟩ | ⟨zs, r', v2, hp, rfl, hM2⟩⟩
        · have HP : RKeep (VPost b W xs (pLst f (300 - xs.length) l) (.returned (flt y)) w2) := ⟨hb.trans hb2, .inl ⟨by
            rw [HL.out, HK.out, show n - k = (n - k - 1) + 1 by omega]
            unfold pKids
            rw [hp]
            rfl, y, rfl⟩⟩
          clear hp hcall
          unfold flt at HP ⊢
          go_wp2
          refine bodyPost_ret (v := .iface 45 (.agg #[.string y])) ?_ rfl HP.out
          go_light
          simp [results, Tryd.results54, go_sem]
        · obtain ⟨g1, g2⟩ := pVal_len hp
          have HN : RKeep (pKids (pVal f) n (300 - xs.length) r = (pKids (pVal f) (n - (k + 1)) (300 - (xs ++ (ys ++ zs)).length) r').map fun y => ((ys ++ zs) ++ y.1, y.2)) := ⟨by
            rw [HK.out, show n - k = (n - (k + 1)) + 1 by omega]
            conv => lhs; unfold pKids
            rw [hp]
            simp only [Option.bind_some]
            rw [show 300 - (xs ++ (ys ++ zs)).length = 300 - (xs ++ ys).length - zs.length by simp only [List.length_append]; omega]
            cases pKids (pVal f) (n - (k + 1)) (300 - (xs ++ ys).length - zs.length) r' with
            | none => simp only [Option.map_none]
            | some y => simp⟩
          have hxz : (xs ++ (ys ++ zs)).length ≤ 300 := by
            simp only [List.length_append] at g1 hxy ⊢
            omega
          rw [List.append_assoc] at hM2
          have hb3 := hb.trans hb2
          clear hp hcall HK hM hb hb2 g1
          have hlk2 : r'.length ≤ 1048576 := by omega
          go_wp2
          go_roundw
          case rel => exact ⟨k + 1, ys ++ zs, r', v2, by omega, by go_num, HN, hM2, hxz, hlk2, hb3⟩
          case measure => simp [intOf]; omega
      · obtain rfl : k = n := by omega
        have hi1 : ¬ (k : Int) < k := by omega
        have hadd := add_any b wr lk v' (xs ++ ys) (listA k) hM hxy
        have HV : RKeep (∀ e w', AddPost b wr lk (xs ++ ys) (listA k) e w' → VPost b W xs (pLst f (300 - xs.length) l) e w') := ⟨fun e w' hp => hp.v2 hb (by
          rw [HL.out, HK.out, Nat.sub_self]
          simp [pKids])⟩
        unfold listA at hadd HV
        clear HK HL hlt
        go_wp2_with fail
        refine hadd.mono ?_
        intro e w4 hp
        have HV3 : RKeep _ := ⟨HV.out _ _ hp⟩
        rcases hp.ret with ⟨y, rfl⟩ | rfl
        · clear hp hadd HV
          go_wp2
          refine bodyPost_ret (v := .iface 45 (.agg #[.string y])) ?_ rfl HV3.out
          go_light
          simp [results, Tryd.results54, go_sem]
        · clear hp hadd HV
          go_wp2
          refine bodyPost_ret (v := .nilIface) ?_ rfl HV3.out
          go_light
          simp [results, Tryd.results54, go_sem]
end Go.Proofs.YtamaioeikcjhoaaDoor

namespace Go.Proofs.YtamaioeikcjhoaaDoor
open Go.RowKit

theorem acells_get : ∀ (xs : List At) (i : Nat) (h : i < xs.length), (acells xs)[i * 4 + 2]? = some (.string xs[i].text)
  | [], i, h => by simp at h
  | a :: xs, 0, h => by simp [acells, At.cells]
  | a :: xs, i + 1, h => by
    have ih := acells_get xs i (by simpa using h)
    have e : acells (a :: xs) = a.cells ++ acells xs := by simp [acells]
    rw [e, show (i + 1) * 4 + 2 = 4 + (i * 4 + 2) by omega, List.getElem?_append_right (by simp [At.cells]), show 4 + (i * 4 + 2) - a.cells.length = i * 4 + 2 by simp [At.cells]]
    simpa using ih
/-- The last text that was added. -/
theorem RM.last {b : Nat} {W : World} {l : List UInt8} {v : Value} {xs : List At} {s : ByteArray} (h : RM b W l v (xs ++ [textA s])) : ∃ g cp, v = .slice (some ⟨g, 0, none⟩) (xs.length + 1) cp ∧ W.cell? ⟨g, xs.length * 4 + 2, none⟩ = some (.string s) := by
  have hr := h.row
  rw [List.length_append, List.length_singleton] at hr
  rcases hr.2 with ⟨_, h1⟩ | ⟨g, c, cur, hv, _⟩
  · omega
  · subst hv
    refine ⟨g, c, rfl, ?_⟩
    rw [hr.cellAt (xs.length * 4 + 2) (by omega)]
    have := acells_get (xs ++ [textA s]) xs.length (by simp)
    simpa [textA] using this

set_option maxRecDepth 20000 in
set_option maxHeartbeats 4000000 in
theorem record_any (b f : Nat) (d : Nat) (hd : d ≤ 12) (ih : ValIH b f ((d : Int) + 1)) (W : World) (l : List UInt8) (v : Value) (xs : List At) (h : RM b W l v xs) (hx : xs.length ≤ 300) (hl : l.length ≤ 1048576) :
    Calls Tryd.prog 55 #[.pointer (some ⟨b, 0, none⟩), .int .i64 d] W fun e W' => VPost b W xs (pRec f (300 - xs.length) l) e W' := by
  go_enter Tryd.func55, Tryd.ntmps55
  go_wp2_with fail
  refine (count_any b W 300 (by omega) l v xs h).mono ?_
  rintro e w1 ⟨hb1, ⟨hp, y, rfl⟩ | ⟨n, r, hp, rfl, hM1⟩⟩
  · have HP : RKeep (VPost b W xs (pRec f (300 - xs.length) l) (.returned (flt y)) w1) := ⟨hb1, .inl ⟨by unfold pRec; rw [hp]; rfl, y, rfl⟩⟩
    clear hp
    unfold flt at HP ⊢
    go_wp2
    refine bodyPost_ret (v := .iface 45 (.agg #[.string y])) ?_ rfl HP.out
    go_light
    simp [results, Tryd.results55, go_sem]
  · have hn := (pCount_sound hp).2
    have hrl : r.length ≤ 1048576 := by
      have e := (pCount_sound hp).1
      rw [e, List.length_append] at hl
      omega
    have HL : RKeep (pRec f (300 - xs.length) l = (pFlds (pVal f) n none (300 - xs.length) r).bind fun y => if y.1.length < 300 - xs.length then some (y.1 ++ [recA n], y.2) else none) := ⟨by unfold pRec; rw [hp]; rfl⟩
    clear hp hl
    have HI : RKeep (ValIH b f ((d : Int) + 1)) := ⟨ih⟩
    clear ih
    have hw2 : IntKind.i64.wrap ((d : Int) + 1) = (d : Int) + 1 := by rw [IntKind.wrap_i64]; omega
    go_wp2
    go_loopw [7, 21] (fun lv i wr => ∃ (k : Nat) (last : ByteArray) (o : Option ByteArray) (ys : List At) (lk : List UInt8) (v' : Value), k ≤ n ∧ i = .int .i64 k ∧ lv = .string last ∧ RKeep ((k = 0 ∧ o = none) ∨ (0 < k ∧ o = some last)) ∧ RKeep (pFlds (pVal f) n none (300 - xs.length) r = (pFlds (pVal f) (n - k) o (300 - (xs ++ ys).length) lk).map fun y => (ys ++ y.1, y.2)) ∧ RM b wr lk v' (xs ++ ys) ∧ (xs ++ ys).length ≤ 300 ∧ lk.length ≤ 1048576 ∧ Below b W wr) (fun _ i _ => n - (intOf i).toNat)
    case atStart =>
      refine ⟨0, _, none, [], r, v, Nat.zero_le _, rfl, rfl, ⟨.inl ⟨rfl, rfl⟩⟩, ⟨?_⟩, by rw [List.append_nil]; exact hM1, by simpa using hx, hrl, hb1⟩
      rw [List.append_nil, Nat.sub_zero]
      cases pFlds (pVal f) n none (300 - xs.length) r with
      | none => simp only [Option.map_none]
      | some y => simp
    case round =>
      obtain ⟨k, last, o, ys, lk, v', hk, rfl, rfl, HO, HK, hM, hxy, hlk, hb⟩ := hrel
      by_cases hlt : k < n
      · have hi1 : (k : Int) < n := by omega
        have hcall := rtext_any b wr lk v' (xs ++ ys) hM hxy hlk
        have HU : RKeep (pFlds (pVal f) (n - k) o (300 - (xs ++ ys).length) lk = (pText lk).bind fun t => if 0 < 300 - (xs ++ ys).length ∧ upB o t.1 = true then (pVal f (300 - (xs ++ ys).length - 1) t.2).bind fun x => (pFlds (pVal f) (n - (k + 1)) (some t.1) (300 - (xs ++ ys).length - 1 - x.1.length) x.2).map fun y => (textA t.1 :: (x.1 ++ y.1), y.2) else none) := ⟨by rw [show n - k = (n - (k + 1)) + 1 by omega]; rfl⟩
        go_wp2_with fail
        refine hcall.mono ?_
        rintro e w2 ⟨hb2, ⟨hp, y, rfl⟩ | ⟨zs, r', v2, hp, rfl, hM2⟩⟩
        · have HP : RKeep (VPost b W xs (pRec f (300 - xs.length) l) (.returned (flt y)) w2) := ⟨hb.trans hb2, .inl ⟨by
            rw [HL.out, HK.out, HU.out]
            unfold pTxt at hp
            cases ht : pText lk with
            | none => rfl
            | some t =>
              rw [ht] at hp
              simp only [Option.bind_some] at hp ⊢
              rw [if_neg (fun hc => by rw [if_pos hc.1] at hp; cases hp)]
              rfl, y, rfl⟩⟩
          clear hp hcall
          unfold flt at HP ⊢
          go_wp2
          refine bodyPost_ret (v := .iface 45 (.agg #[.string y])) ?_ rfl HP.out
          go_light
          simp [results, Tryd.results55, go_sem]
        · obtain ⟨s, hs, rfl, hrm⟩ : ∃ s, pText lk = some (s, r') ∧ zs = [textA s] ∧ 0 < 300 - (xs ++ ys).length := by
            unfold pTxt at hp
            rw [Option.bind_eq_some_iff] at hp
            obtain ⟨⟨s, q⟩, h1, h2⟩ := hp
            dsimp only at h2
            split at h2
            · rename_i h3
              simp only [Option.some.injEq, Prod.mk.injEq] at h2
              obtain ⟨rfl, rfl⟩ := h2
              exact ⟨s, h1, rfl, h3⟩
            · cases h2
          have hr' : r'.length ≤ 1048576 := by
            have e := (pText_sound hs).1
            rw [e, List.length_append, List.length_append] at hlk
            omega
          obtain ⟨g, cp, rfl, hcl⟩ := hM2.last
          have hc1 := hM2.c1
          have HU2 : RKeep (pFlds (pVal f) (n - k) o (300 - (xs ++ ys).length) lk = if upB o s = true then (pVal f (300 - (xs ++ ys).length - 1) r').bind fun x => (pFlds (pVal f) (n - (k + 1)) (some s) (300 - (xs ++ ys).length - 1 - x.1.length) x.2).map fun y => (textA s :: (x.1 ++ y.1), y.2) else none) := ⟨by
            rw [HU.out, hs]
            simp only [Option.bind_some]
            by_cases hu : upB o s = true
            · rw [if_pos ⟨hrm, hu⟩, if_pos hu]
            · rw [if_neg (fun h => hu h.2), if_neg hu]⟩
          have hb3 := hb.trans hb2
          clear hp hcall HU hb hb2 hM hs
          obtain ⟨m, hm⟩ : ∃ m, m = (xs ++ ys).length := ⟨_, rfl⟩
          have HM2 : RKeep _ := ⟨hM2⟩
          rw [← hm] at hc1 hcl
          have hm300 : m ≤ 300 := by omega
          have hx3 : ((xs ++ ys) ++ [textA s]).length ≤ 300 := by rw [List.length_append, List.length_singleton]; omega
          clear hM2 hm hxy
          have hwm : IntKind.i64.wrap ((m : Int) + 1 - 1) = m := by rw [IntKind.wrap_i64]; omega
          have hdr : Below w2.heap.size w2 w2.drew := (Below.refl _ _).drew
          have HM3 : RKeep _ := ⟨HM2.out.later hdr⟩
          have HB3 : RKeep (Below b W w2.drew) := ⟨hb3.drew⟩
          go_upto_region 11 with fail
          go_region
          clear HM2 hc1 hcl hwm hdr
          generalize w2.drew = w3 at *
          rcases HO.out with ⟨hk0, rfl⟩ | ⟨hk0, rfl⟩
          · have hk1 : ¬ (0 : Int) < k := by omega
            clear hk0
            have HU3 : RKeep _ := ⟨HU2.out.trans (if_pos rfl)⟩
            have hcv := HI.out w3 r' _ ((xs ++ ys) ++ [textA s]) HM3.out hx3 hr'
            go_wp2_with fail
            refine hcv.mono ?_
            rintro e w4 ⟨hb4, ⟨hp, y, rfl⟩ | ⟨zs, r2, v4, hp, rfl, hM4⟩⟩
            · have HP : RKeep (VPost b W xs (pRec f (300 - xs.length) l) (.returned (flt y)) w4) := ⟨HB3.out.trans hb4, .inl ⟨by
                rw [HL.out, HK.out, HU3.out, show 300 - (xs ++ ys).length - 1 = 300 - ((xs ++ ys) ++ [textA s]).length by simp only [List.length_append, List.length_singleton]; omega, hp]
                rfl, y, rfl⟩⟩
              clear hp hcv
              unfold flt at HP ⊢
              go_wp2
              refine bodyPost_ret (v := .iface 45 (.agg #[.string y])) ?_ rfl HP.out
              go_light
              simp [results, Tryd.results55, go_sem]
            · obtain ⟨g1, g2⟩ := pVal_len hp
              have HN : RKeep (pFlds (pVal f) n none (300 - xs.length) r = (pFlds (pVal f) (n - (k + 1)) (some s) (300 - (xs ++ (ys ++ textA s :: zs)).length) r2).map fun y => ((ys ++ textA s :: zs) ++ y.1, y.2)) := ⟨by
                rw [HK.out, HU3.out, show 300 - (xs ++ ys).length - 1 = 300 - ((xs ++ ys) ++ [textA s]).length by simp only [List.length_append, List.length_singleton]; omega, hp]
                simp only [Option.bind_some]
                rw [show 300 - (xs ++ (ys ++ textA s :: zs)).length = 300 - ((xs ++ ys) ++ [textA s]).length - zs.length by simp only [List.length_append, List.length_cons, List.length_nil]; omega]
                cases pFlds (pVal f) (n - (k + 1)) (some s) (300 - ((xs ++ ys) ++ [textA s]).length - zs.length) r2 with
                | none => simp only [Option.map_none]
                | some y => simp⟩
              have hxz : (xs ++ (ys ++ textA s :: zs)).length ≤ 300 := by
                simp only [List.length_append, List.length_cons, List.length_nil] at g1 hx3 ⊢
                omega
              have hM5 : RM b w4 r2 v4 (xs ++ (ys ++ textA s :: zs)) := by
                have e : xs ++ (ys ++ textA s :: zs) = xs ++ ys ++ [textA s] ++ zs := by simp
                rw [e]
                exact hM4
              have hb5 := HB3.out.trans hb4
              have hlk2 : r2.length ≤ 1048576 := by omega
              clear hp hcv HK hM4 hb4 g1 g2
              go_wp2
              go_roundw
              case rel => exact ⟨k + 1, s, some s, ys ++ textA s :: zs, r2, v4, by omega, by go_num, rfl, ⟨.inr ⟨by omega, rfl⟩⟩, HN, hM5, hxz, hlk2, hb5⟩
              case measure => simp [intOf]; omega
          · have hk1 : (0 : Int) < k := by omega
            cases hu : Op.bytesLess last.toList s.toList with
            | true =>
              have hle : (Op.bytesLess s.toList last.toList || s.toList == last.toList) = false := by
                have h := less_both last s
                rw [h]
                show (!Op.bytesLess last.toList s.toList) = false
                rw [hu]
                rfl
              have HU3 : RKeep _ := ⟨HU2.out.trans (if_pos hu)⟩
              have hcv := HI.out w3 r' _ ((xs ++ ys) ++ [textA s]) HM3.out hx3 hr'
              go_wp2_with fail
              refine hcv.mono ?_
              rintro e w4 ⟨hb4, ⟨hp, y, rfl⟩ | ⟨zs, r2, v4, hp, rfl, hM4⟩⟩
              · have HP : RKeep (VPost b W xs (pRec f (300 - xs.length) l) (.returned (flt y)) w4) := ⟨HB3.out.trans hb4, .inl ⟨by
                  rw [HL.out, HK.out, HU3.out, show 300 - (xs ++ ys).length - 1 = 300 - ((xs ++ ys) ++ [textA s]).length by simp only [List.length_append, List.length_singleton]; omega, hp]
                  rfl, y, rfl⟩⟩
                clear hp hcv
                unfold flt at HP ⊢
                go_wp2
                refine bodyPost_ret (v := .iface 45 (.agg #[.string y])) ?_ rfl HP.out
                go_light
                simp [results, Tryd.results55, go_sem]
              · obtain ⟨g1, g2⟩ := pVal_len hp
                have HN : RKeep (pFlds (pVal f) n none (300 - xs.length) r = (pFlds (pVal f) (n - (k + 1)) (some s) (300 - (xs ++ (ys ++ textA s :: zs)).length) r2).map fun y => ((ys ++ textA s :: zs) ++ y.1, y.2)) := ⟨by
                  rw [HK.out, HU3.out, show 300 - (xs ++ ys).length - 1 = 300 - ((xs ++ ys) ++ [textA s]).length by simp only [List.length_append, List.length_singleton]; omega, hp]
                  simp only [Option.bind_some]
                  rw [show 300 - (xs ++ (ys ++ textA s :: zs)).length = 300 - ((xs ++ ys) ++ [textA s]).length - zs.length by simp only [List.length_append, List.length_cons, List.length_nil]; omega]
                  cases pFlds (pVal f) (n - (k + 1)) (some s) (300 - ((xs ++ ys) ++ [textA s]).length - zs.length) r2 with
                  | none => simp only [Option.map_none]
                  | some y => simp⟩
                have hxz : (xs ++ (ys ++ textA s :: zs)).length ≤ 300 := by
                  simp only [List.length_append, List.length_cons, List.length_nil] at g1 hx3 ⊢
                  omega
                have hM5 : RM b w4 r2 v4 (xs ++ (ys ++ textA s :: zs)) := by
                  have e : xs ++ (ys ++ textA s :: zs) = xs ++ ys ++ [textA s] ++ zs := by simp
                  rw [e]
                  exact hM4
                have hb5 := HB3.out.trans hb4
                have hlk2 : r2.length ≤ 1048576 := by omega
                clear hp hcv HK hM4 hb4 g1 g2
                go_wp2
                go_roundw
                case rel => exact ⟨k + 1, s, some s, ys ++ textA s :: zs, r2, v4, by omega, by go_num, rfl, ⟨.inr ⟨by omega, rfl⟩⟩, HN, hM5, hxz, hlk2, hb5⟩
                case measure => simp [intOf]; omega
            | false =>
              have hle : (Op.bytesLess s.toList last.toList || s.toList == last.toList) = true := by
                have h := less_both last s
                rw [h]
                show (!Op.bytesLess last.toList s.toList) = true
                rw [hu]
                rfl
              have HP : RKeep (VPost b W xs (pRec f (300 - xs.length) l) (.returned (flt ⟨#[110, 97, 109, 101, 115, 32, 116, 104, 97, 116, 32, 100, 111, 32, 110, 111, 116, 32, 97, 115, 99, 101, 110, 100]⟩)) w3) := ⟨HB3.out, .inl ⟨by
                rw [HL.out, HK.out, HU2.out, if_neg (by show ¬ (Op.bytesLess last.toList s.toList = true); rw [hu]; decide)]
                rfl, _, rfl⟩⟩
              unfold flt at HP
              go_wp2
              refine bodyPost_ret (v := .iface 45 (.agg #[.string ⟨#[110, 97, 109, 101, 115, 32, 116, 104, 97, 116, 32, 100, 111, 32, 110, 111, 116, 32, 97, 115, 99, 101, 110, 100]⟩])) ?_ rfl HP.out
              go_light
              simp [results, Tryd.results55, go_sem]
      · obtain rfl : k = n := by omega
        have hi1 : ¬ (k : Int) < k := by omega
        have hadd := add_any b wr lk v' (xs ++ ys) (recA k) hM hxy
        have HV : RKeep (∀ e w', AddPost b wr lk (xs ++ ys) (recA k) e w' → VPost b W xs (pRec f (300 - xs.length) l) e w') := ⟨fun e w' hp => hp.v2 hb (by
          rw [HL.out, HK.out, Nat.sub_self]
          simp [pFlds])⟩
        unfold recA at hadd HV
        have hw3 : IntKind.i64.wrap (2 * (k : Int)) = 2 * (k : Int) := by rw [IntKind.wrap_i64]; omega
        clear HK HL hlt
        go_wp2_with fail
        refine hadd.mono ?_
        intro e w4 hp
        have HV3 : RKeep _ := ⟨HV.out _ _ hp⟩
        rcases hp.ret with ⟨y, rfl⟩ | rfl
        · clear hp hadd HV
          go_wp2
          refine bodyPost_ret (v := .iface 45 (.agg #[.string y])) ?_ rfl HV3.out
          go_light
          simp [results, Tryd.results55, go_sem]
        · clear hp hadd HV
          go_wp2
          refine bodyPost_ret (v := .nilIface) ?_ rfl HV3.out
          go_light
          simp [results, Tryd.results55, go_sem]
end Go.Proofs.YtamaioeikcjhoaaDoor

namespace Go.Proofs.YtamaioeikcjhoaaDoor
open Go.RowKit

theorem VPost.pre {b : Nat} {W0 W : World} {xs : List At} {o : Option (List At × List UInt8)} {e : Ending} {W' : World} (h : VPost b W xs o e W') (hb : Below b W0 W) : VPost b W0 xs o e W' := ⟨hb.trans h.1, h.2⟩
theorem VPost.ret {b : Nat} {W : World} {xs : List At} {o : Option (List At × List UInt8)} {e : Ending} {W' : World} (h : VPost b W xs o e W') : (∃ y, e = .returned (.iface 45 (.agg #[.string y]))) ∨ e = .returned .nilIface := by
  obtain ⟨_, ⟨_, y, rfl⟩ | ⟨_, _, _, _, rfl, _⟩⟩ := h
  · exact .inl ⟨y, rfl⟩
  · exact .inr rfl
theorem pVal_cons (f room : Nat) (c : UInt8) (r : List UInt8) : pVal (f + 1) room (c :: r) = if c.toNat = 1 then pFlag room r else if c.toNat = 2 then pNum room r else if c.toNat = 3 then pTxt room r else if c.toNat = 4 then pLst f room r else if c.toNat = 5 then pRec f room r else none := by
  have e : ∀ k : UInt8, (c.toNat = k.toNat) ↔ c = k := fun k => ⟨fun h => UInt8.toNat_inj.1 h, fun h => by rw [h]⟩
  have e1 := e 1; have e2 := e 2; have e3 := e 3; have e4 := e 4; have e5 := e 5
  simp only [show (1 : UInt8).toNat = 1 from rfl, show (2 : UInt8).toNat = 2 from rfl, show (3 : UInt8).toNat = 3 from rfl, show (4 : UInt8).toNat = 4 from rfl, show (5 : UInt8).toNat = 5 from rfl] at e1 e2 e3 e4 e5
  simp only [e1, e2, e3, e4, e5]
  conv => lhs; unfold pVal
  cases r <;> rfl

set_option maxRecDepth 20000 in
set_option maxHeartbeats 4000000 in
theorem value_any (b : Nat) : ∀ (f d : Nat), f + d = 13 → ValIH b f (d : Int)
  | 0, d, hfd, W, l, v, xs, h, hx, hl => by
    obtain rfl : d = 13 := by omega
    go_enter Tryd.func33, Tryd.ntmps33
    have HP : RKeep (VPost b W xs (pVal 0 (300 - xs.length) l) (.returned (flt ⟨#[116, 111, 111, 32, 109, 97, 110, 121, 32, 97, 116, 111, 109, 115, 32, 97, 98, 111, 118, 101, 32, 111, 110, 101]⟩)) W) := ⟨Below.refl _ _, .inl ⟨rfl, _, rfl⟩⟩
    unfold flt at HP
    go_wp2
    refine bodyPost_ret (v := .iface 45 (.agg #[.string ⟨#[116, 111, 111, 32, 109, 97, 110, 121, 32, 97, 116, 111, 109, 115, 32, 97, 98, 111, 118, 101, 32, 111, 110, 101]⟩])) ?_ rfl HP.out
    go_light
    simp [results, Tryd.results33, go_sem]
  | f + 1, d, hfd, W, l, v, xs, h, hx, hl => by
    have hd12 : d ≤ 12 := by omega
    have IH : ValIH b f ((d : Int) + 1) := value_any b f (d + 1) (by omega)
    have i12 : ¬ (12 : Int) < d := by omega
    go_enter Tryd.func33, Tryd.ntmps33
    go_wp2_with fail
    refine (oneByte_any b W l v xs h).mono ?_
    rintro e w1 ⟨hb1, ⟨hle, y, rfl⟩ | ⟨c, r, hle, rfl, hM1⟩⟩
    · have HP : RKeep (VPost b W xs (pVal (f + 1) (300 - xs.length) l) (.returned (flt y)) w1) := ⟨hb1, .inl ⟨by rw [hle]; rfl, y, rfl⟩⟩
      clear hle
      unfold flt at HP ⊢
      go_wp2
      refine bodyPost_ret (v := .iface 45 (.agg #[.string y])) ?_ rfl HP.out
      go_light
      simp [results, Tryd.results33, go_sem]
    · have HPV : RKeep (pVal (f + 1) (300 - xs.length) l = if c.toNat = 1 then pFlag (300 - xs.length) r else if c.toNat = 2 then pNum (300 - xs.length) r else if c.toNat = 3 then pTxt (300 - xs.length) r else if c.toNat = 4 then pLst f (300 - xs.length) r else if c.toNat = 5 then pRec f (300 - xs.length) r else none) := ⟨by rw [hle, pVal_cons]⟩
      have hr : r.length ≤ 1048576 := by rw [hle, List.length_cons] at hl; omega
      clear hle hl h
      by_cases h1 : c.toNat = 1
      · have hcall := flag_any b w1 r v xs hM1 hx
        have HV : RKeep (∀ e w', VPost b w1 xs (pFlag (300 - xs.length) r) e w' → VPost b W xs (pVal (f + 1) (300 - xs.length) l) e w') := ⟨fun e w' hp => by rw [HPV.out, if_pos h1]; exact hp.pre hb1⟩
        rw [h1]
        clear HPV
        go_wp2_with fail
        refine hcall.mono ?_
        intro e w4 hp
        have HV3 : RKeep _ := ⟨HV.out _ _ hp⟩
        rcases hp.ret with ⟨y, rfl⟩ | rfl
        · clear hp hcall HV
          go_wp2
          refine bodyPost_ret (v := .iface 45 (.agg #[.string y])) ?_ rfl HV3.out
          go_light
          simp [results, Tryd.results33, go_sem]
        · clear hp hcall HV
          go_wp2
          refine bodyPost_ret (v := .nilIface) ?_ rfl HV3.out
          go_light
          simp [results, Tryd.results33, go_sem]
      have z1 : ((c.toNat : Int) == 1) = false := by simp; omega
      have y1 : ¬ (c.toNat : Int) = 1 := by omega
      by_cases h2 : c.toNat = 2
      · have hcall := number_any b w1 r v xs hM1 hx
        have HV : RKeep (∀ e w', VPost b w1 xs (pNum (300 - xs.length) r) e w' → VPost b W xs (pVal (f + 1) (300 - xs.length) l) e w') := ⟨fun e w' hp => by rw [HPV.out, if_neg h1, if_pos h2]; exact hp.pre hb1⟩
        rw [h2]
        clear HPV
        go_wp2_with fail
        refine hcall.mono ?_
        intro e w4 hp
        have HV3 : RKeep _ := ⟨HV.out _ _ hp⟩
        rcases hp.ret with ⟨y, rfl⟩ | rfl
        · clear hp hcall HV
          go_wp2
          refine bodyPost_ret (v := .iface 45 (.agg #[.string y])) ?_ rfl HV3.out
          go_light
          simp [results, Tryd.results33, go_sem]
        · clear hp hcall HV
          go_wp2
          refine bodyPost_ret (v := .nilIface) ?_ rfl HV3.out
          go_light
          simp [results, Tryd.results33, go_sem]
      have z2 : ((c.toNat : Int) == 2) = false := by simp; omega
      have y2 : ¬ (c.toNat : Int) = 2 := by omega
      by_cases h3 : c.toNat = 3
      · have hcall := rtext_any b w1 r v xs hM1 hx hr
        have HV : RKeep (∀ e w', VPost b w1 xs (pTxt (300 - xs.length) r) e w' → VPost b W xs (pVal (f + 1) (300 - xs.length) l) e w') := ⟨fun e w' hp => by rw [HPV.out, if_neg h1, if_neg h2, if_pos h3]; exact hp.pre hb1⟩
        rw [h3]
        clear HPV
        go_wp2_with fail
        refine hcall.mono ?_
        intro e w4 hp
        have HV3 : RKeep _ := ⟨HV.out _ _ hp⟩
        rcases hp.ret with ⟨y, rfl⟩ | rfl
        · clear hp hcall HV
          go_wp2
          refine bodyPost_ret (v := .iface 45 (.agg #[.string y])) ?_ rfl HV3.out
          go_light
          simp [results, Tryd.results33, go_sem]
        · clear hp hcall HV
          go_wp2
          refine bodyPost_ret (v := .nilIface) ?_ rfl HV3.out
          go_light
          simp [results, Tryd.results33, go_sem]
      have z3 : ((c.toNat : Int) == 3) = false := by simp; omega
      have y3 : ¬ (c.toNat : Int) = 3 := by omega
      by_cases h4 : c.toNat = 4
      · have hcall := list_any b f d hd12 IH w1 r v xs hM1 hx hr
        have HV : RKeep (∀ e w', VPost b w1 xs (pLst f (300 - xs.length) r) e w' → VPost b W xs (pVal (f + 1) (300 - xs.length) l) e w') := ⟨fun e w' hp => by rw [HPV.out, if_neg h1, if_neg h2, if_neg h3, if_pos h4]; exact hp.pre hb1⟩
        rw [h4]
        clear HPV
        go_wp2_with fail
        refine hcall.mono ?_
        intro e w4 hp
        have HV3 : RKeep _ := ⟨HV.out _ _ hp⟩
        rcases hp.ret with ⟨y, rfl⟩ | rfl
        · clear hp hcall HV
          go_wp2
          refine bodyPost_ret (v := .iface 45 (.agg #[.string y])) ?_ rfl HV3.out
          go_light
          simp [results, Tryd.results33, go_sem]
        · clear hp hcall HV
          go_wp2
          refine bodyPost_ret (v := .nilIface) ?_ rfl HV3.out
          go_light
          simp [results, Tryd.results33, go_sem]
      have z4 : ((c.toNat : Int) == 4) = false := by simp; omega
      have y4 : ¬ (c.toNat : Int) = 4 := by omega
      by_cases h5 : c.toNat = 5
      · have hcall := record_any b f d hd12 IH w1 r v xs hM1 hx hr
        have HV : RKeep (∀ e w', VPost b w1 xs (pRec f (300 - xs.length) r) e w' → VPost b W xs (pVal (f + 1) (300 - xs.length) l) e w') := ⟨fun e w' hp => by rw [HPV.out, if_neg h1, if_neg h2, if_neg h3, if_neg h4, if_pos h5]; exact hp.pre hb1⟩
        rw [h5]
        clear HPV
        go_wp2_with fail
        refine hcall.mono ?_
        intro e w4 hp
        have HV3 : RKeep _ := ⟨HV.out _ _ hp⟩
        rcases hp.ret with ⟨y, rfl⟩ | rfl
        · clear hp hcall HV
          go_wp2
          refine bodyPost_ret (v := .iface 45 (.agg #[.string y])) ?_ rfl HV3.out
          go_light
          simp [results, Tryd.results33, go_sem]
        · clear hp hcall HV
          go_wp2
          refine bodyPost_ret (v := .nilIface) ?_ rfl HV3.out
          go_light
          simp [results, Tryd.results33, go_sem]
      have z5 : ((c.toNat : Int) == 5) = false := by simp; omega
      have y5 : ¬ (c.toNat : Int) = 5 := by omega
      have HP : RKeep (VPost b W xs (pVal (f + 1) (300 - xs.length) l) (.returned (flt ⟨#[110, 111, 32, 107, 105, 110, 100]⟩)) w1) := ⟨hb1, .inl ⟨by rw [HPV.out, if_neg h1, if_neg h2, if_neg h3, if_neg h4, if_neg h5], _, rfl⟩⟩
      unfold flt at HP
      go_wp2
      refine bodyPost_ret (v := .iface 45 (.agg #[.string ⟨#[110, 111, 32, 107, 105, 110, 100]⟩])) ?_ rfl HP.out
      go_light
      simp [results, Tryd.results33, go_sem]
end Go.Proofs.YtamaioeikcjhoaaDoor

namespace Go.Proofs.YtamaioeikcjhoaaDoor
open Go.RowKit

def WhPost (b : Nat) (W : World) (l : List UInt8) (e : Ending) (W' : World) : Prop :=
  Below b W W' ∧ ((readV l = none ∧ ∃ y, e = .returned (flt y)) ∨ (∃ xs r v', readV l = some xs ∧ e = .returned .nilIface ∧ RM b W' r v' xs))

set_option maxRecDepth 20000 in
set_option maxHeartbeats 2000000 in
theorem whole_any (b : Nat) (W : World) (l : List UInt8) (v : Value) (h : RM b W l v []) (hl : l.length ≤ 1048576) :
    Calls Tryd.prog 16 #[.pointer (some ⟨b, 0, none⟩)] W fun e W' => WhPost b W l e W' := by
  have hsz := mkL_size l
  have c0 := h.c0
  have hv : ValIH b 13 0 := value_any b 13 0 rfl
  have hcall := hv W l v [] h (Nat.zero_le _) hl
  clear hv
  go_enter Tryd.func16, Tryd.ntmps16
  by_cases hz : l.length ≤ 100000
  · have hz1 : ¬ (100000 : Int) < (mkL l).size := by rw [hsz]; omega
    have HR : RKeep ((pVal 13 300 l = none → readV l = none) ∧ (∀ ys, pVal 13 300 l = some (ys, []) → readV l = some ys) ∧ (∀ ys c r, pVal 13 300 l = some (ys, c :: r) → readV l = none)) := ⟨by unfold readV; rw [if_pos hz]; exact ⟨fun h => by rw [h], fun ys h => by rw [h], fun ys c r h => by rw [h]⟩⟩
    clear hsz hz
    go_wp2_with fail
    refine hcall.mono ?_
    rintro e w1 ⟨hb1, ⟨hp, y, rfl⟩ | ⟨ys, r, v1, hp, rfl, hM1⟩⟩
    · have HP : RKeep (WhPost b W l (.returned (flt y)) w1) := ⟨hb1, .inl ⟨HR.out.1 hp, y, rfl⟩⟩
      clear hp hcall c0
      unfold flt at HP ⊢
      go_wp2
      refine bodyPost_ret (v := .iface 45 (.agg #[.string y])) ?_ rfl HP.out
      go_light
      simp [results, Tryd.results16, go_sem]
    · have hp : pVal 13 300 l = some (ys, r) := hp
      have hM1 : RM b w1 r v1 ys := hM1
      have d0 := hM1.c0
      clear hcall c0
      cases r with
      | nil =>
        have hq : ((mkL []).toList == []) = true := by rw [mkL_toList]; rfl
        have HP : RKeep (WhPost b W l (.returned .nilIface) w1) := ⟨hb1, .inr ⟨ys, [], v1, HR.out.2.1 _ hp, rfl, hM1⟩⟩
        clear hp
        generalize mkL [] = em at *
        go_wp2
        refine bodyPost_ret (v := .nilIface) ?_ rfl HP.out
        go_light
        simp [results, Tryd.results16, go_sem]
      | cons c r =>
        have hq : ((mkL (c :: r)).toList == []) = false := by rw [mkL_toList]; rfl
        have HP : RKeep (WhPost b W l (.returned (flt ⟨#[98, 121, 116, 101, 115, 32, 98, 101, 104, 105, 110, 100, 32, 105, 116, 115, 32, 101, 110, 100]⟩)) w1) := ⟨hb1, .inl ⟨HR.out.2.2 _ _ _ hp, _, rfl⟩⟩
        clear hp hM1
        unfold flt at HP
        generalize mkL (c :: r) = em at *
        go_wp2
        refine bodyPost_ret (v := .iface 45 (.agg #[.string ⟨#[98, 121, 116, 101, 115, 32, 98, 101, 104, 105, 110, 100, 32, 105, 116, 115, 32, 101, 110, 100]⟩])) ?_ rfl HP.out
        go_light
        simp [results, Tryd.results16, go_sem]
  · have hz1 : (100000 : Int) < (mkL l).size := by rw [hsz]; omega
    have HP : RKeep (WhPost b W l (.returned (flt ⟨#[116, 111, 111, 32, 109, 97, 110, 121, 32, 98, 121, 116, 101, 115]⟩)) W) := ⟨Below.refl _ _, .inl ⟨by unfold readV; rw [if_neg hz], _, rfl⟩⟩
    unfold flt at HP
    clear hcall hsz hz
    go_wp2
    refine bodyPost_ret (v := .iface 45 (.agg #[.string ⟨#[116, 111, 111, 32, 109, 97, 110, 121, 32, 98, 121, 116, 101, 115]⟩])) ?_ rfl HP.out
    go_light
    simp [results, Tryd.results16, go_sem]
end Go.Proofs.YtamaioeikcjhoaaDoor

namespace Go.Proofs.YtamaioeikcjhoaaDoor
open Go.RowKit Go.Extern.Stop Go.Stop Go.Extern

theorem as_nil (t : Value) (w : World) :
    Calls Tryd.prog 17 #[.nilIface, t] w fun e w' => e = .returned (.bool false) ∧ w' = w := by
  go_enter Tryd.func17, Tryd.ntmps17
  go_wp2
  go_ret
  exact ⟨rfl, rfl⟩

theorem valueOfP (t : Addr) (w : World) : (ReflectliteValue.unpack (.iface 47 (.pointer (some t)))).run Tryd.prog w
    = .ok (.agg #[.pointer (some ⟨1, 47, none⟩), .pointer (some ⟨w.heap.size, 0, none⟩), .int .u64 150]) (w.alloc (.cells #[.pointer (some t)] 47)) := by kernel_rfl
theorem valueOfS (y : ByteArray) (w : World) : (ReflectliteValue.unpack (.iface 45 (.agg #[.string y]))).run Tryd.prog w
    = .ok (.agg #[.pointer (some ⟨1, 45, none⟩), .pointer (some ⟨w.heap.size, 0, none⟩), .int .u64 153]) (w.alloc (.cells #[.string y] 45)) := by kernel_rfl
theorem typeP (a : Addr) (w : World) : (ReflectliteValue.methodAny (ReflectliteValue.valueError "reflectlite.Value.Type" 0) (fun t _ _ _ => ReflectliteType.toType t) #[.agg #[.pointer (some ⟨1, 47, none⟩), .pointer (some a), .int .u64 150]]).run Tryd.prog w
    = .ok (.iface 108 (.agg #[.pointer (some ⟨1, 47, none⟩)])) w := by kernel_rfl
theorem methodKind (h : Value) (w : World) : (Go.method 274 108 (.agg #[h]) "Kind").run Tryd.prog w = .ok (82, h) w := by kernel_rfl
theorem kindP (w : World) : ((ReflectliteType.abiMethod fun t => (fun a : Nat => Value.int IntKind.u8 (a : Int)) <$> Rtype.kind t) #[.pointer (some ⟨1, 47, none⟩)]).run Tryd.prog w = .ok (.int .u8 22) w := by kernel_rfl
theorem kindS (w : World) : ((ReflectliteType.abiMethod fun t => (fun a : Nat => Value.int IntKind.u8 (a : Int)) <$> Rtype.kind t) #[.pointer (some ⟨1, 45, none⟩)]).run Tryd.prog w = .ok (.int .u8 25) w := by kernel_rfl
theorem rlm (z : Sem Value) (f : TypeId → Addr → Nat → Nat → Sem Value) (v : Value) :
    ReflectliteValue.method z f #[v] = (do match ← ReflectliteValue.parts v with | none => z | some (t, a, fl) => f t a fl (fl % 32)) := rfl
theorem partsP (a : Addr) (w : World) : (ReflectliteValue.parts (.agg #[.pointer (some ⟨1, 47, none⟩), .pointer (some a), .int .u64 150])).run Tryd.prog w = .ok (some (47, a, 150)) w := by kernel_rfl
theorem isNilP (a p : Addr) (W : World) (ha : W.cell? a = some (.pointer (some p))) :
    (ReflectliteValue.method (ReflectliteValue.valueError "reflectlite.Value.IsNil" 0) ReflectliteValue.isNil #[.agg #[.pointer (some ⟨1, 47, none⟩), .pointer (some a), .int .u64 150]]).run Tryd.prog W = .ok (.bool false) W := by
  rw [rlm]
  simp only [Sem.run_bind, partsP, Result.andThen]
  simp [ReflectliteValue.isNil, loadVar, isAgg, underlying, Tryd.underlying47, ha, Result.andThen]
theorem methodElem (h : Value) (w : World) : (Go.method 274 108 (.agg #[h]) "Elem").run Tryd.prog w = .ok (92, .agg #[h]) w := by kernel_rfl
theorem methodImplements (h : Value) (w : World) : (Go.method 274 108 (.agg #[h]) "Implements").run Tryd.prog w = .ok (93, .agg #[h]) w := by kernel_rfl
theorem methodAssignableTo (h : Value) (w : World) : (Go.method 274 108 (.agg #[h]) "AssignableTo").run Tryd.prog w = .ok (90, .agg #[h]) w := by kernel_rfl
theorem elemP (w : World) : (ReflectliteType.method ReflectliteType.elem #[.agg #[.pointer (some ⟨1, 47, none⟩)]]).run Tryd.prog w = .ok (.iface 108 (.agg #[.pointer (some ⟨1, 45, none⟩)])) w := by kernel_rfl
theorem implementsS (w : World) : (ReflectliteType.relation "Implements" ReflectliteType.implements_ #[.agg #[.pointer (some ⟨1, 45, none⟩)], .iface 108 (.agg #[.pointer (some ⟨1, 42, none⟩)])]).run Tryd.prog w = .ok (.bool true) w := by kernel_rfl
theorem typeOfS (v : Value) (w : World) : (ReflectliteType.typeOf #[.iface 45 v]).run Tryd.prog w = .ok (.iface 108 (.agg #[.pointer (some ⟨1, 45, none⟩)])) w := by kernel_rfl
theorem assignableS (w : World) : (ReflectliteType.relation "AssignableTo" ReflectliteType.assignableTo #[.agg #[.pointer (some ⟨1, 45, none⟩)], .iface 108 (.agg #[.pointer (some ⟨1, 45, none⟩)])]).run Tryd.prog w = .ok (.bool true) w := by kernel_rfl
theorem elemOfP (w : World) : (Rtype.elem? 47).run Tryd.prog w = .ok (some 45) w := by kernel_rfl
theorem asMk (p : Addr) (w : World) : (ReflectliteValue.mk 45 p ReflectliteValue.flagAddr).run Tryd.prog w = .ok (.agg #[.pointer (some ⟨1, 45, none⟩), .pointer (some p), .int .u64 409]) w := by kernel_rfl
theorem elemV (a p : Addr) (W : World) (ha : W.cell? a = some (.pointer (some p))) :
    (ReflectliteValue.method (ReflectliteValue.valueError "reflectlite.Value.Elem" 0) ReflectliteValue.elem #[.agg #[.pointer (some ⟨1, 47, none⟩), .pointer (some a), .int .u64 150]]).run Tryd.prog W
      = .ok (.agg #[.pointer (some ⟨1, 45, none⟩), .pointer (some p), .int .u64 409]) W := by
  rw [rlm]
  simp only [Sem.run_bind, partsP, Result.andThen]
  simp [ReflectliteValue.elem, loadVar, isAgg, underlying, Tryd.underlying47, ha, Result.andThen, elemOfP, asMk]
theorem partsSa (a : Addr) (w : World) : (ReflectliteValue.parts (.agg #[.pointer (some ⟨1, 45, none⟩), .pointer (some a), .int .u64 409])).run Tryd.prog w = .ok (some (45, a, 409)) w := by kernel_rfl
theorem partsS (a : Addr) (w : World) : (ReflectliteValue.parts (.agg #[.pointer (some ⟨1, 45, none⟩), .pointer (some a), .int .u64 153])).run Tryd.prog w = .ok (some (45, a, 153)) w := by kernel_rfl
theorem directS (w : World) : (Rtype.directlyAssignable 45 45).run Tryd.prog w = .ok true w := by kernel_rfl
theorem sizeS (w : World) : (sizeOf 45).run Tryd.prog w = .ok 1 w := by kernel_rfl
theorem rls (v x : Value) : ReflectliteValue.set #[v, x] = (do
    let (some (dst, a, fl), some (src, b, _)) := (← ReflectliteValue.parts v, ← ReflectliteValue.parts x)
      | unsupported (.noEntry "extern/(internal/reflectlite.Value).Set.zeroValue")
    if fl / ReflectliteValue.flagAddr % 2 == 0 then unsupported (.noEntry "extern/(internal/reflectlite.Value).Set.unaddressable")
    let val ← loadVar src b
    if ← Rtype.directlyAssignable dst src then storeVar dst a val
    else if ← Rtype.implements dst src then
      if (← Rtype.kind src) == 20 then
        match val with
        | .nilIface => unsupported (.noEntry "extern/reflectlite: a nil value of one interface type handed on as a value of another")
        | _ => storeVar dst a val
      else storeVar dst a (.iface src val)
    else panicString ("reflectlite.Set: value of type " ++ (← Rtype.spelt src) ++ " is not assignable to type " ++ (← Rtype.spelt dst))
    pure (.tuple #[])) := rfl
theorem setS (ta b : Addr) (y : ByteArray) (old : Value) (W : World) (hb : W.cell? b = some (.string y)) (ht : W.cell? ta = some old) (hf : W.frozen? ta = false) :
    (ReflectliteValue.set #[.agg #[.pointer (some ⟨1, 45, none⟩), .pointer (some ta), .int .u64 409], .agg #[.pointer (some ⟨1, 45, none⟩), .pointer (some b), .int .u64 153]]).run Tryd.prog W
      = .ok (.tuple #[]) (W.setCell ta (.string y)) := by
  rw [rls]
  simp only [Sem.run_bind, partsSa, partsS, Result.andThen]
  have hl : (loadCellsFrom b 0 1 #[]).run Tryd.prog W = .ok #[.string y] W := by
    simp [loadCellsFrom, Addr.add, hb, Result.andThen]
  simp [ReflectliteValue.flagAddr, loadVar, isAgg, underlying, Tryd.underlying45, Result.andThen, directS, storeVar, Value.cells, loadCells]
  rw [hl]
  simp [storeCells, Addr.add]
  rw [run_store Tryd.prog W ta _ _ (by rfl)]
  simp [ht, hf]
end Go.Proofs.YtamaioeikcjhoaaDoor

namespace Go.Proofs.YtamaioeikcjhoaaDoor
open Go.RowKit Go.Extern.Stop Go.Stop Go.Extern

set_option maxRecDepth 20000 in
set_option maxHeartbeats 4000000 in
theorem as_hit (y : ByteArray) (t : Addr) (old : Value) (w : World) (hg : w.cell? ⟨0, 0, none⟩ = some (.iface 108 (.agg #[.pointer (some ⟨1, 42, none⟩)]))) (ht0 : w.cell? t = some old) (hf0 : w.frozen? t = false) :
    Calls Tryd.prog 17 #[.iface 45 (.agg #[.string y]), .iface 47 (.pointer (some t))] w fun ev w' => ev = .returned (.bool true) ∧ w' = ((((w.alloc (.cells #[.pointer (some t)] 47)).alloc (.cells #[.pointer (some ⟨1, 47, none⟩), .pointer (some ⟨w.heap.size, 0, none⟩), .int .u64 150] 77)).alloc (.cells #[.pointer (some ⟨1, 47, none⟩), .pointer (some ⟨w.heap.size, 0, none⟩), .int .u64 150] 77)).alloc (.cells #[.string y] 45)).setCell t (.string y) := by
  have hvo := @run_callFunc_extern Tryd.prog 34 _ (fun args => ReflectliteValue.unpack (args.getD 0 (.tuple #[]))) Tryd.func34 (by kernel_rfl) (by kernel_rfl) (by kernel_rfl) (by kernel_rfl)
  have hty := @run_callFunc_extern Tryd.prog 35 _ (ReflectliteValue.methodAny (ReflectliteValue.valueError "reflectlite.Value.Type" 0) (fun t _ _ _ => ReflectliteType.toType t)) Tryd.func35 (by kernel_rfl) (by kernel_rfl) (by kernel_rfl) (by kernel_rfl)
  have hnl := @run_callFunc_extern Tryd.prog 36 _ (ReflectliteValue.method (ReflectliteValue.valueError "reflectlite.Value.IsNil" 0) ReflectliteValue.isNil) Tryd.func36 (by kernel_rfl) (by kernel_rfl) (by kernel_rfl) (by kernel_rfl)
  have hkd := @run_callFunc_extern Tryd.prog 82 _ (ReflectliteType.abiMethod fun t => do pure (.int .u8 (← Rtype.kind t))) Tryd.func82 (by kernel_rfl) (by kernel_rfl) (by kernel_rfl) (by kernel_rfl)
  have hel := @run_callFunc_extern Tryd.prog 92 _ (ReflectliteType.method ReflectliteType.elem) Tryd.func92 (by kernel_rfl) (by kernel_rfl) (by kernel_rfl) (by kernel_rfl)
  have him := @run_callFunc_extern Tryd.prog 93 _ (ReflectliteType.relation "Implements" ReflectliteType.implements_) Tryd.func93 (by kernel_rfl) (by kernel_rfl) (by kernel_rfl) (by kernel_rfl)
  have hto := @run_callFunc_extern Tryd.prog 56 _ (ReflectliteType.typeOf) Tryd.func56 (by kernel_rfl) (by kernel_rfl) (by kernel_rfl) (by kernel_rfl)
  have hat := @run_callFunc_extern Tryd.prog 90 _ (ReflectliteType.relation "AssignableTo" ReflectliteType.assignableTo) Tryd.func90 (by kernel_rfl) (by kernel_rfl) (by kernel_rfl) (by kernel_rfl)
  have hve := @run_callFunc_extern Tryd.prog 57 _ (ReflectliteValue.method (ReflectliteValue.valueError "reflectlite.Value.Elem" 0) ReflectliteValue.elem) Tryd.func57 (by kernel_rfl) (by kernel_rfl) (by kernel_rfl) (by kernel_rfl)
  have hse := @run_callFunc_extern Tryd.prog 58 _ (ReflectliteValue.set) Tryd.func58 (by kernel_rfl) (by kernel_rfl) (by kernel_rfl) (by kernel_rfl)
  have tO := typeOfS
  have mA := methodAssignableTo
  have aS := assignableS
  have vS := valueOfS
  have vP := valueOfP
  have tP := typeP
  have mK := methodKind
  have mE := methodElem
  have mI := methodImplements
  have kP := kindP
  have kS := kindS
  have eP := elemP
  have iS := implementsS
  have n8 := isNilP ⟨w.heap.size, 0, none⟩ t ((w.alloc (.cells #[.pointer (some t)] 47)).alloc (.cells #[.pointer (some ⟨1, 47, none⟩), .pointer (some ⟨w.heap.size, 0, none⟩), .int .u64 150] 77)) (by simp)
  have hlt : 0 < w.heap.size := lt_of_cellR hg
  have hg2 : ((w.alloc (.cells #[.pointer (some t)] 47)).alloc (.cells #[.pointer (some ⟨1, 47, none⟩), .pointer (some ⟨w.heap.size, 0, none⟩), .int .u64 150] 77)).cell? ⟨0, 0, none⟩ = some (.iface 108 (.agg #[.pointer (some ⟨1, 42, none⟩)])) := by
    rw [World.cell?_alloc_lt _ _ ⟨0, 0, none⟩ (by simp), World.cell?_alloc_lt _ _ ⟨0, 0, none⟩ hlt]; exact hg
  have htl : t.block < w.heap.size := by
    rcases Nat.lt_or_ge t.block w.heap.size with h | h
    · exact h
    · simp [World.cell?, Array.getElem?_eq_none h] at ht0
  have el := elemV ⟨w.heap.size, 0, none⟩ t (((w.alloc (.cells #[.pointer (some t)] 47)).alloc (.cells #[.pointer (some ⟨1, 47, none⟩), .pointer (some ⟨w.heap.size, 0, none⟩), .int .u64 150] 77)).alloc (.cells #[.pointer (some ⟨1, 47, none⟩), .pointer (some ⟨w.heap.size, 0, none⟩), .int .u64 150] 77)) (by rw [World.cell?_alloc_lt _ _ ⟨w.heap.size, 0, none⟩ (by simp; omega)]; simp)
  have st := setS t ⟨w.heap.size + 1 + 1 + 1, 0, none⟩ y old ((((w.alloc (.cells #[.pointer (some t)] 47)).alloc (.cells #[.pointer (some ⟨1, 47, none⟩), .pointer (some ⟨w.heap.size, 0, none⟩), .int .u64 150] 77)).alloc (.cells #[.pointer (some ⟨1, 47, none⟩), .pointer (some ⟨w.heap.size, 0, none⟩), .int .u64 150] 77)).alloc (.cells #[.string y] 45))
    (by rw [World.cell?_alloc_at _ _ _ _ (by simp)]; rfl)
    (by rw [World.cell?_alloc_lt _ _ t (by simp; omega), World.cell?_alloc_lt _ _ t (by simp; omega), World.cell?_alloc_lt _ _ t (by simp; omega), World.cell?_alloc_lt _ _ t htl]; exact ht0)
    (by rw [World.frozen?_alloc_old _ _ t (by simp; omega), World.frozen?_alloc_old _ _ t (by simp; omega), World.frozen?_alloc_old _ _ t (by simp; omega), World.frozen?_alloc_old _ _ t (Nat.ne_of_lt htl)]; exact hf0)
  go_enter Tryd.func17, Tryd.ntmps17
  go_wp2
  refine wp_loop_rounds 1 ?_
  rw [rounds_succ]
  go_wp2
  go_ret
  exact ⟨rfl, rfl⟩
end Go.Proofs.YtamaioeikcjhoaaDoor

namespace Go.Proofs.YtamaioeikcjhoaaDoor
open Go.RowKit

/-- What ReadValue answers, with atoms of its own. -/
def RvPost (l : List UInt8) (w : World) (e : Ending) (w' : World) : Prop :=
  Below w.heap.size w w' ∧ ((readV l = none ∧ e = .returned (.tuple #[.agg #[.slice none 0 0], .bool false])) ∨ (∃ xs v, readV l = some xs ∧ e = .returned (.tuple #[.agg #[v], .bool true]) ∧ w'.ownsRow w.heap.size 66 4 v xs.length (acells xs)))

set_option maxRecDepth 20000 in
set_option maxHeartbeats 2000000 in
theorem implRead_any (s : ByteArray) (hs : s.size ≤ 1048576) (w : World) (hg : w.cell? ⟨0, 0, none⟩ = some (.iface 108 (.agg #[.pointer (some ⟨1, 42, none⟩)]))) :
    Calls Tryd.prog 6 #[.string s] w fun e w' => RvPost s.data.toList w e w' := by
  obtain ⟨l, hl⟩ : ∃ l, l = s.data.toList := ⟨_, rfl⟩
  have hsl : s = mkL l := by rw [hl, mkL_data]
  have hlen : l.length ≤ 1048576 := by rw [hsl, mkL_size] at hs; exact hs
  rw [← hl, hsl]
  clear hl hsl hs
  have hRM : RM (w.heap.size + 1) ((w.alloc (.cells #[.slice none 0 0] 24)).alloc (.cells #[.string (mkL l), .slice none 0 0] 40)) l (.slice none 0 0) [] := ⟨by simp, by simp, fun j => by simp, World.ownsRow_nil _ _ _ _⟩
  have hb0 : Below w.heap.size w ((w.alloc (.cells #[.slice none 0 0] 24)).alloc (.cells #[.string (mkL l), .slice none 0 0] 40)) := ((Below.refl _ _).alloc (Nat.le_refl _) _).alloc (by simp) _
  have r0 : ((w.alloc (.cells #[.slice none 0 0] 24)).alloc (.cells #[.string (mkL l), .slice none 0 0] 40)).cell? ⟨w.heap.size, 0, none⟩ = some (.slice none 0 0) := by simp [go_sem]
  have rf : ((w.alloc (.cells #[.slice none 0 0] 24)).alloc (.cells #[.string (mkL l), .slice none 0 0] 40)).frozen? ⟨w.heap.size, 0, none⟩ = false := by simp [go_sem]
  have hcall := whole_any _ _ l _ hRM hlen
  go_enter Tryd.func6, Tryd.ntmps6
  go_wp2_with fail
  refine hcall.mono ?_
  rintro e w1 ⟨hb1, hpost⟩
  have q0 := (hb1.cell (p := ⟨w.heap.size, 0, none⟩) (by simp)).trans r0
  have qf := (hb1.frozen (p := ⟨w.heap.size, 0, none⟩) (by simp)).trans rf
  have hw1 : Below w.heap.size w w1 := hb0.trans (hb1.mono (by omega))
  have hg1 := cell_later hw1 hg
  have hrl : w.heap.size < w1.heap.size := lt_of_cellR q0
  clear hcall hRM hb0 r0 rf
  have halF : Below w1.heap.size w1 (w1.alloc (.cells #[.string ⟨#[]⟩] 45)) := (Below.refl _ _).alloc (Nat.le_refl _) _
  have p0 := cell_later halF q0
  have pf := (halF.frozen (p := ⟨w.heap.size, 0, none⟩) hrl).trans qf
  have hwF : Below w.heap.size w (w1.alloc (.cells #[.string ⟨#[]⟩] 45)) := hw1.trans (halF.mono hw1.size)
  rcases hpost with ⟨hn, y, rfl⟩ | ⟨xs, r, v1, hr, rfl, hM1⟩
  · have ha := as_hit y ⟨w1.heap.size, 0, none⟩ (.string ⟨#[]⟩) (w1.alloc (.cells #[.string ⟨#[]⟩] 45)) (cell_later halF hg1) (by simp) (by simp)
    unfold flt
    go_wp2_with fail
    refine ha.mono ?_
    rintro e w2 ⟨rfl, hw2⟩
    have hB : Below w1.heap.size w1 w2 := by
      rw [hw2]
      exact ((((((Below.refl _ _).alloc (Nat.le_refl _) _).alloc (by simp) _).alloc (by simp; omega) _).alloc (by simp; omega) _).alloc (by simp; omega) _).setCell (p := ⟨w1.heap.size, 0, none⟩) (Nat.le_refl _) _
    clear hw2 ha p0 pf hwF halF
    have p0 := cell_later hB q0
    have pf := (hB.frozen (p := ⟨w.heap.size, 0, none⟩) hrl).trans qf
    have HP : RKeep (RvPost l w (.returned (.tuple #[.agg #[.slice none 0 0], .bool false])) (w2.setCell ⟨w.heap.size, 0, none⟩ (.slice none 0 0))) := ⟨(hw1.trans (hB.mono hw1.size)).setCell (p := ⟨w.heap.size, 0, none⟩) (Nat.le_refl _) _, .inl ⟨hn, rfl⟩⟩
    have k0 : (w2.setCell ⟨w.heap.size, 0, none⟩ (.slice none 0 0)).cell? ⟨w.heap.size, 0, none⟩ = some (.slice none 0 0) := World.cell?_setCell_same _ _ _ p0
    clear hn hB
    go_wp2
    refine bodyPost_ret (v := .tuple #[.agg #[.slice none 0 0], .bool false]) ?_ rfl HP.out
    go_light
    simp [results, Tryd.results6, go_sem, k0]
  · obtain ⟨ad, cp, rfl⟩ := owns_slice hM1.row
    have hM2 := hM1.later halF
    have c1 := hM2.c1
    have ha := as_nil (.iface 47 (.pointer (some ⟨w1.heap.size, 0, none⟩))) (w1.alloc (.cells #[.string ⟨#[]⟩] 45))
    have HP : RKeep (RvPost l w (.returned (.tuple #[.agg #[.slice ad xs.length cp], .bool true])) ((w1.alloc (.cells #[.string ⟨#[]⟩] 45)).setCell ⟨w.heap.size, 0, none⟩ (.slice ad xs.length cp))) := ⟨hwF.setCell (p := ⟨w.heap.size, 0, none⟩) (Nat.le_refl _) _, .inr ⟨xs, _, hr, rfl, by
      have ho := hM2.row
      have hne : (Value.slice ad xs.length cp).ownBlock ≠ some w.heap.size := fun e => by have := owns_base ho _ e; omega
      have hk := ho.kept (row := some w.heap.size) (w' := (w1.alloc (.cells #[.string ⟨#[]⟩] 45)).setCell ⟨w.heap.size, 0, none⟩ (.slice ad xs.length cp)) ⟨rfl, rfl, rfl, by simp, fun k _ hk => Below.heap_setCell _ _ _ _ (fun e => hk (by rw [e]))⟩ (Or.inr hne)
      refine ⟨hk.1, ?_⟩
      rcases hk.2 with h' | ⟨g, cap, cur, hv, h1, h2⟩
      · exact .inl h'
      · exact .inr ⟨g, cap, cur, hv, by omega, h2⟩⟩⟩
    have k0 : ((w1.alloc (.cells #[.string ⟨#[]⟩] 45)).setCell ⟨w.heap.size, 0, none⟩ (.slice ad xs.length cp)).cell? ⟨w.heap.size, 0, none⟩ = some (.slice ad xs.length cp) := World.cell?_setCell_same _ _ _ p0
    clear hr hM1 hM2
    go_wp2_with fail
    refine ha.mono ?_
    rintro e w2 ⟨rfl, rfl⟩
    clear ha
    generalize w1.alloc (.cells #[.string ⟨#[]⟩] 45) = WF at *
    go_wp2
    refine bodyPost_ret (v := .tuple #[.agg #[.slice ad xs.length cp], .bool true]) ?_ rfl HP.out
    go_light
    simp [results, Tryd.results6, go_sem, k0]
end Go.Proofs.YtamaioeikcjhoaaDoor

namespace Go.Proofs.YtamaioeikcjhoaaDoor
open Go.RowKit

theorem readV_tree {l : List UInt8} {ys : List At} (h : readV l = some ys) : ∃ t : T, t.good ∧ t.nest < 13 ∧ ys = t.atoms ∧ l = t.form ++ [] ∧ ys.length ≤ 300 := by
  unfold readV at h
  split at h
  · split at h
    · rename_i xs hx
      obtain ⟨t, h1, h2, h3, h4, h5⟩ := pVal_sound 13 300 l xs [] hx
      cases h
      exact ⟨t, h1, h2, h3, h4, h5⟩
    · cases h
  · cases h
theorem readV_bad {s : ByteArray} {xs : List At} {p' n' : Nat} (h : VF s 0 0 13 xs p' n' true) : readV s.data.toList = none := by
  cases hr : readV s.data.toList with
  | none => rfl
  | some ys =>
    exfalso
    obtain ⟨t, h1, h2, h3, h4, h5⟩ := readV_tree hr
    have := h t [] h1 h2 (by unfold rst; rw [List.drop_zero]; exact h4) (by rw [← h3]; omega)
    exact absurd this.2.1 (by simp)
theorem readV_not {s : ByteArray} {xs : List At} {p' n' : Nat} {bad' : Bool} (h : VF s 0 0 13 xs p' n' bad') (hne : formV xs ≠ s) : readV s.data.toList = none := by
  cases hr : readV s.data.toList with
  | none => rfl
  | some ys =>
    exfalso
    obtain ⟨t, h1, h2, h3, h4, h5⟩ := readV_tree hr
    have := h t [] h1 h2 (by unfold rst; rw [List.drop_zero]; exact h4) (by rw [← h3]; omega)
    have hf := (read_form hr).1
    rw [h3, ← this.1] at hf
    exact hne (hf.trans (mkL_data s))
theorem readV_yes {s : ByteArray} {xs : List At} (he : formV xs = s) (hs : s.size ≠ 0) (hr : InR xs) : readV s.data.toList = some xs := by
  refine form_read (he.trans (mkL_data s).symm) (fun h => hs ?_) hr
  have : s.data.toList.length = 0 := by rw [h]; rfl
  simpa using this

set_option maxRecDepth 20000 in
set_option maxHeartbeats 2000000 in
theorem specRead_any (s : ByteArray) (hs : s.size ≤ 1048576) (w : World) :
    Calls Tryd.prog 5 #[.string s] w fun e w' => RvPost s.data.toList w e w' := by
  have hb0 : Below w.heap.size w (w.alloc (.cells #[.slice none 0 0] 24)) := (Below.refl _ _).alloc (Nat.le_refl _) _
  have hno : readV s.data.toList = none → RvPost s.data.toList w (.returned (.tuple #[.agg #[.slice none 0 0], .bool false])) (w.alloc (.cells #[.slice none 0 0] 24)) := fun h => ⟨hb0, .inl ⟨h, rfl⟩⟩
  by_cases hz : s.size = 0
  · have hs0 := ba0 hz
    subst hs0
    have HP : RKeep (RvPost (⟨#[]⟩ : ByteArray).data.toList w (.returned (.tuple #[.agg #[.slice none 0 0], .bool false])) (w.alloc (.cells #[.slice none 0 0] 24))) := ⟨hno rfl⟩
    clear hno
    go_enter Tryd.func5, Tryd.ntmps5
    go_wp2
    refine bodyPost_ret (v := .tuple #[.agg #[.slice none 0 0], .bool false]) ?_ rfl HP.out
    go_light
    simp [results, Tryd.results5, go_sem]
  · have hz1 : (s.toList == []) = false := by have := bs_diff (x := s) (y := mkL []) (fun e => hz (by rw [e]; rfl)); rwa [mkL_toList] at this
    by_cases hb : 100000 < s.size
    · have hb1 : (100000 : Int) < s.size := by omega
      have HP : RKeep (RvPost s.data.toList w (.returned (.tuple #[.agg #[.slice none 0 0], .bool false])) (w.alloc (.cells #[.slice none 0 0] 24))) := ⟨hno (by unfold readV; rw [if_neg (by simp; omega)])⟩
      clear hno
      go_enter Tryd.func5, Tryd.ntmps5
      go_wp2
      refine bodyPost_ret (v := .tuple #[.agg #[.slice none 0 0], .bool false]) ?_ rfl HP.out
      go_light
      simp [results, Tryd.results5, go_sem]
    · have hb1 : ¬ (100000 : Int) < s.size := by omega
      clear hno
      have hd : DK (w.heap.size + 1) ((w.alloc (.cells #[.slice none 0 0] 24)).alloc (.cells #[.string s, .int .i64 0, .bool false, .int .i64 0] 37)) s 0 0 false := ⟨by simp, by simp, by simp, by simp, fun j => by simp⟩
      have hb2 : Below w.heap.size w ((w.alloc (.cells #[.slice none 0 0] 24)).alloc (.cells #[.string s, .int .i64 0, .bool false, .int .i64 0] 37)) := hb0.alloc (by simp) _
      have r0 : ((w.alloc (.cells #[.slice none 0 0] 24)).alloc (.cells #[.string s, .int .i64 0, .bool false, .int .i64 0] 37)).cell? ⟨w.heap.size, 0, none⟩ = some (.slice none 0 0) := by simp [go_sem]
      have rf : ((w.alloc (.cells #[.slice none 0 0] 24)).alloc (.cells #[.string s, .int .i64 0, .bool false, .int .i64 0] 37)).frozen? ⟨w.heap.size, 0, none⟩ = false := by simp [go_sem]
      have hsz0 : ((w.alloc (.cells #[.slice none 0 0] 24)).alloc (.cells #[.string s, .int .i64 0, .bool false, .int .i64 0] 37)).heap.size = w.heap.size + 2 := by simp
      have hcall := dvalue_any (w.heap.size + 1) 13 0 rfl _ s 0 0 false hd (Nat.zero_le _) (by omega) (by omega)
      rw [show (((0 : Nat) : Int)) = 0 from rfl] at hcall
      go_enter Tryd.func5, Tryd.ntmps5
      go_wp2_with fail
      refine hcall.mono ?_
      rintro e w1 ⟨g, cap, xs, p', n', bad', rfl, hg, hd1, hown, ht, hp', hn', hn2, hn3, hin, hbb, HK⟩
      clear hcall hd
      rw [hsz0] at hown
      have hb3 : Below w.heap.size w w1 := hb2.grown hg (by rw [hsz0]; omega) (fun k hk => by cases hk; omega)
      have r1 := (hg.cell_far ⟨w.heap.size, 0, none⟩ (by rw [hsz0]; show w.heap.size < _; omega) (by simp)).trans r0
      have rf1 := (hg.frozen_far ⟨w.heap.size, 0, none⟩ (by rw [hsz0]; show w.heap.size < _; omega) (by simp)).trans rf
      have hlt1 : w.heap.size < w1.heap.size := lt_of_cellR r1
      have hal := al_of_row hown
      have hbA : Below w1.heap.size w1 (w1.alloc (.cells #[.slice (some ⟨g, 0, none⟩) xs.length cap] 24)) := (Below.refl _ _).alloc (Nat.le_refl _) _
      have hV : RKeep (VF s 0 0 13 xs p' n' bad') := ⟨HK.out rfl⟩
      have hb4 : Below w.heap.size w (w1.alloc (.cells #[.slice (some ⟨g, 0, none⟩) xs.length cap] 24)) := hb3.trans (hbA.mono hb3.size)
      have q0 := cell_later hbA r1
      have qf := (hbA.frozen (p := ⟨w.heap.size, 0, none⟩) hlt1).trans rf1
      have q1 : (w1.alloc (.cells #[.slice (some ⟨g, 0, none⟩) xs.length cap] 24)).cell? ⟨w1.heap.size, 0, none⟩ = some (.slice (some ⟨g, 0, none⟩) xs.length cap) := by simp
      have q2 := cell_later hbA hd1.c2
      have hown4 := owns_below hown hbA
      have hAS := (hal.below hbA).as
      have hkA : w1.heap.size < (w1.alloc (.cells #[.slice (some ⟨g, 0, none⟩) xs.length cap] 24)).heap.size := by simp
      clear HK hg r0 rf hsz0 hb2 hb0 hd1 hown hal hbA r1 rf1 hb3
      go_upto_region 5 with fail
      generalize w1.alloc (.cells #[.slice (some ⟨g, 0, none⟩) xs.length cap] 24) = wA at *
      generalize w1.heap.size = kA at *
      cases bad' with
      | true =>
        have hnone : RKeep (readV s.data.toList = none) := ⟨readV_bad hV.out⟩
        have HP : RKeep (RvPost s.data.toList w (.returned (.tuple #[.agg #[.slice none 0 0], .bool false])) ((wA).setCell ⟨w.heap.size, 0, none⟩ (.slice none 0 0))) := ⟨hb4.setCell (p := ⟨w.heap.size, 0, none⟩) (Nat.le_refl _) _, .inl ⟨hnone.out, rfl⟩⟩
        have k0 : ((wA).setCell ⟨w.heap.size, 0, none⟩ (.slice none 0 0)).cell? ⟨w.heap.size, 0, none⟩ = some (.slice none 0 0) := World.cell?_setCell_same _ _ _ q0
        clear hnone hV hown4
        go_wp2
        refine bodyPost_ret (v := .tuple #[.agg #[.slice none 0 0], .bool false]) ?_ rfl HP.out
        go_light
        simp [results, Tryd.results5, go_sem, k0]
      | false =>
        have htot : xs.length + totalA xs ≤ 1048576 := by omega
        have hf := specForm_any (some ⟨g, 0, none⟩) cap xs (wA) hAS htot (fun a ha => by have := size_le_totalA xs a ha; unfold maxLen; omega)
        clear hAS
        go_wp2_with fail
        refine hf.mono ?_
        rintro e w5 ⟨rfl, hb5⟩
        clear hf
        have z0 := cell_later hb5 q0
        have z1 := cell_later hb5 q1
        have zf := (hb5.frozen (p := ⟨w.heap.size, 0, none⟩) (by show w.heap.size < wA.heap.size; omega)).trans qf
        have hb6 : Below w.heap.size w w5 := hb4.trans (hb5.mono hb4.size)
        have hown5 := owns_below hown4 hb5
        clear hown4 q0 q1 q2 qf hb5 hb4
        by_cases he : formV xs = s
        · have hyes : RKeep (readV s.data.toList = some xs) := ⟨readV_yes he hz hin⟩
          have hne : (Value.slice (some ⟨g, 0, none⟩) xs.length cap).ownBlock ≠ some w.heap.size := fun e => by have := owns_base hown5 _ e; omega
          have hk := hown5.kept (row := some w.heap.size) (w' := w5.setCell ⟨w.heap.size, 0, none⟩ (.slice (some ⟨g, 0, none⟩) xs.length cap)) (dk_set _ _ _ _) (Or.inr hne)
          have HP : RKeep (RvPost s.data.toList w (.returned (.tuple #[.agg #[.slice (some ⟨g, 0, none⟩) xs.length cap], .bool true])) (w5.setCell ⟨w.heap.size, 0, none⟩ (.slice (some ⟨g, 0, none⟩) xs.length cap))) := ⟨hb6.setCell (p := ⟨w.heap.size, 0, none⟩) (Nat.le_refl _) _, .inr ⟨xs, _, hyes.out, rfl, dk_low hk (by omega)⟩⟩
          have k0 : (w5.setCell ⟨w.heap.size, 0, none⟩ (.slice (some ⟨g, 0, none⟩) xs.length cap)).cell? ⟨w.heap.size, 0, none⟩ = some (.slice (some ⟨g, 0, none⟩) xs.length cap) := World.cell?_setCell_same _ _ _ z0
          have hcmp := bs_same he
          clear hyes hne hk hown5 hV he
          generalize formV xs = fv at *
          go_wp2
          refine bodyPost_ret (v := .tuple #[.agg #[.slice (some ⟨g, 0, none⟩) xs.length cap], .bool true]) ?_ rfl HP.out
          go_light
          simp [results, Tryd.results5, go_sem, k0]
        · have hnone : RKeep (readV s.data.toList = none) := ⟨readV_not hV.out he⟩
          have HP : RKeep (RvPost s.data.toList w (.returned (.tuple #[.agg #[.slice none 0 0], .bool false])) (w5.setCell ⟨w.heap.size, 0, none⟩ (.slice none 0 0))) := ⟨hb6.setCell (p := ⟨w.heap.size, 0, none⟩) (Nat.le_refl _) _, .inl ⟨hnone.out, rfl⟩⟩
          have k0 : (w5.setCell ⟨w.heap.size, 0, none⟩ (.slice none 0 0)).cell? ⟨w.heap.size, 0, none⟩ = some (.slice none 0 0) := World.cell?_setCell_same _ _ _ z0
          have hcmp := bs_diff he
          clear hnone hV hown5 he
          generalize formV xs = fv at *
          go_wp2
          refine bodyPost_ret (v := .tuple #[.agg #[.slice none 0 0], .bool false]) ?_ rfl HP.out
          go_light
          simp [results, Tryd.results5, go_sem, k0]
end Go.Proofs.YtamaioeikcjhoaaDoor

namespace Go.Proofs.YtamaioeikcjhoaaDoor
open Go.RowKit

/-- What a reader answers, in one form. -/
def rxs (l : List UInt8) : List At := (readV l).getD []
def RvOne (w : World) (xs : List At) (q : Bool) (e : Ending) (w' : World) : Prop :=
  Below w.heap.size w w' ∧ ∃ a c, e = .returned (.tuple #[.agg #[.slice a xs.length c], .bool q]) ∧ AL w.heap.size w' a xs
theorem RvPost.one {l : List UInt8} {w w' : World} {e : Ending} (h : RvPost l w e w') : RvOne w (rxs l) (readV l).isSome e w' := by
  obtain ⟨hb, ⟨hn, rfl⟩ | ⟨xs, v, hs, rfl, ho⟩⟩ := h
  · unfold rxs
    rw [hn]
    exact ⟨hb, none, 0, rfl, AL.nil _ _ _⟩
  · unfold rxs
    rw [hs]
    obtain ⟨ad, cp, rfl⟩ := owns_slice ho
    exact ⟨hb, ad, cp, rfl, al_of_row ho⟩
theorem rxs_len (l : List UInt8) : (rxs l).length ≤ 300 := by
  unfold rxs
  cases h : readV l with
  | none => simp
  | some xs => exact (read_form h).2.2.1
theorem al_rng {B r : Nat} {w : World} {a : Option Addr} {ts : List At} (h : AL B w a ts) (hn : 0 < ts.length) (ha : a = some ⟨r, 0, none⟩) : B ≤ r ∧ r < w.heap.size := by
  rcases h with h | ⟨g, h1, h2, h3, _⟩
  · rw [h] at hn; simp at hn
  · rw [h1] at ha
    cases ha
    exact ⟨h2, h3⟩

set_option maxRecDepth 20000 in
set_option maxHeartbeats 2000000 in
theorem readLaw_any (s : ByteArray) (w : World) (hg : w.cell? ⟨0, 0, none⟩ = some (.iface 108 (.agg #[.pointer (some ⟨1, 42, none⟩)]))) :
    Calls Tryd.prog 3 #[.string s] w fun e w' => e = .returned (.bool true) ∧ Below w.heap.size w w' := by
  by_cases hbig : 1048576 < s.size
  · have hb1 : (1048576 : Int) < s.size := by omega
    go_enter Tryd.func3, Tryd.ntmps3
    go_wp2
    go_ret
    exact ⟨rfl, Below.refl _ _⟩
  have hb1 : ¬ (1048576 : Int) < s.size := by omega
  have HS : ∀ W, Calls Tryd.prog 5 #[.string s] W fun e w' => RvOne W (rxs s.data.toList) (readV s.data.toList).isSome e w' := fun W => (specRead_any s (by omega) W).mono fun e w' h => h.one
  have HI : ∀ W, W.cell? ⟨0, 0, none⟩ = some (.iface 108 (.agg #[.pointer (some ⟨1, 42, none⟩)])) → Calls Tryd.prog 6 #[.string s] W fun e w' => RvOne W (rxs s.data.toList) (readV s.data.toList).isSome e w' := fun W hgW => (implRead_any s (by omega) W hgW).mono fun e w' h => h.one
  have hlen := rxs_len s.data.toList
  generalize rxs s.data.toList = xs at *
  generalize (readV s.data.toList).isSome = q at *
  have KS := RKeep.mk HS
  have KI := RKeep.mk HI
  clear HS HI
  have hsc := KS.out w
  go_enter Tryd.func3, Tryd.ntmps3
  go_wp2_with fail
  refine hsc.mono ?_
  rintro e w1 ⟨hb01, a0, c0, rfl, hA0⟩
  clear hsc
  have hrg0 := fun r hn ha => al_rng (r := r) hA0 hn ha
  have hbx1 : Below w1.heap.size w1 (w1.alloc (.cells #[.slice a0 xs.length c0] 24)) := (Below.refl _ _).alloc (Nat.le_refl _) _
  have hA0 := hA0.below hbx1
  have hb02 : Below w.heap.size w (w1.alloc (.cells #[.slice a0 xs.length c0] 24)) := hb01.trans (hbx1.mono hb01.size)
  have x0 : (w1.alloc (.cells #[.slice a0 xs.length c0] 24)).cell? ⟨w1.heap.size, 0, none⟩ = some (.slice a0 xs.length c0) := by simp
  have hic := KI.out (w1.alloc (.cells #[.slice a0 xs.length c0] 24)) (cell_later hb02 hg)
  go_wp2_with fail
  refine hic.mono ?_
  rintro e w3 ⟨hb23, a1, c1, rfl, hA1⟩
  clear hic hb01 hbx1
  generalize w1.alloc (.cells #[.slice a0 xs.length c0] 24) = w2 at *
  generalize w1.heap.size = k0 at *
  have y0 := cell_later hb23 x0
  have hA0 := hA0.below hb23
  have hb03 := hb02.trans (hb23.mono hb02.size)
  have hk0 : k0 < w2.heap.size := lt_of_cellR x0
  have hrg := fun r hn ha => al_rng (r := r) hA1 hn ha
  have hbx3 : Below w3.heap.size w3 (w3.alloc (.cells #[.slice a1 xs.length c1] 24)) := (Below.refl _ _).alloc (Nat.le_refl _) _
  have hA0 := hA0.below hbx3
  have hA1 := hA1.below hbx3
  have hb04 : Below w.heap.size w (w3.alloc (.cells #[.slice a1 xs.length c1] 24)) := hb03.trans (hbx3.mono hb03.size)
  have x0 := cell_later hbx3 y0
  have x1 : (w3.alloc (.cells #[.slice a1 xs.length c1] 24)).cell? ⟨w3.heap.size, 0, none⟩ = some (.slice a1 xs.length c1) := by simp
  have hec := eqValue_any a1 a0 c1 c0 xs (w3.alloc (.cells #[.slice a1 xs.length c1] 24)) hA1.as hA0.as (by omega)
  have hw23 : w2.heap.size ≤ w3.heap.size := hb23.size
  have hw02 : w.heap.size ≤ w2.heap.size := hb02.size
  go_wp2_with fail
  refine hec.mono ?_
  rintro e w5 ⟨rfl, hb45⟩
  clear hec hbx3 y0 hb03 hb02 hb23
  generalize w3.alloc (.cells #[.slice a1 xs.length c1] 24) = w4 at *
  generalize w3.heap.size = k1 at *
  have y0 := cell_later hb45 x0
  have y1 := cell_later hb45 x1
  have hA0 := hA0.below hb45
  have hA1 := hA1.below hb45
  have hb05 := hb04.trans (hb45.mono hb04.size)
  clear x0 x1 hb04 hb45
  have hmc := markValue_any a1 c1 xs w2.heap.size w5 hA1 (by omega)
  have hlow : ((1 + 4 * xs.length : Nat) : Int) = 1 + 4 * (xs.length : Int) := by omega
  cases q
  all_goals
    go_wp2_with fail
    refine hmc.mono ?_
    rintro e w6 ⟨rfl, hM, row, hgr, hrow⟩
    clear hmc
    have hne : ∀ r, row = some r → w2.heap.size ≤ r ∧ r < k1 := fun r hr => hrg r (hrow r hr).1 (hrow r hr).2
    have x0 : w6.cell? ⟨k0, 0, none⟩ = some (.slice a0 xs.length c0) := (hgr.cell_far ⟨k0, 0, none⟩ (lt_of_cellR y0) (fun e => by have := hne k0 e.symm; omega)).trans y0
    have x1 : w6.cell? ⟨k1, 0, none⟩ = some (.slice a1 xs.length c1) := (hgr.cell_far ⟨k1, 0, none⟩ (lt_of_cellR y1) (fun e => by have := hne k1 e.symm; omega)).trans y1
    have hA0 := hA0.grown hgr (fun g hg0 _ _ => fun e => by have h1 := hne g e.symm; have h2 := hrg0 g (hrow g e.symm).1 hg0; omega)
    have hb06 : Below w.heap.size w w6 := hb05.grown hgr hb05.size (fun k hk => by have := hne k hk; omega)
    have hhc := heldValue_any a1 c1 xs.length w6 hM.as (by omega)
    have hd : ¬ ((1 + 4 * xs.length : Nat) : Int) < 0 := by omega
    clear y0 y1 hb05 hgr hrow hne
    go_wp2_with fail
    refine hhc.mono ?_
    rintro e w7 ⟨rfl, hb67⟩
    clear hhc
    have y0 := cell_later hb67 x0
    have y1 := cell_later hb67 x1
    have hA0 := hA0.below hb67
    have hM := hM.below hb67
    have hb07 := hb06.trans (hb67.mono hb06.size)
    clear x0 x1 hb06 hb67
    have hic := KI.out w7 (cell_later hb07 hg)
    go_wp2_with fail
    refine hic.mono ?_
    rintro e w8 ⟨hb78, a2, c2, rfl, hA2⟩
    clear hic
    have x0 := cell_later hb78 y0
    have x1 := cell_later hb78 y1
    have hA0 := hA0.below hb78
    have hM := hM.below hb78
    have hb08 := hb07.trans (hb78.mono hb07.size)
    clear y0 y1 hb07 hb78
    have hbx8 : Below w8.heap.size w8 (w8.alloc (.cells #[.slice a2 xs.length c2] 24)) := (Below.refl _ _).alloc (Nat.le_refl _) _
    have hA0 := hA0.below hbx8
    have hA2 := hA2.below hbx8
    have hM := hM.below hbx8
    have hb09 : Below w.heap.size w (w8.alloc (.cells #[.slice a2 xs.length c2] 24)) := hb08.trans (hbx8.mono hb08.size)
    have y0 := cell_later hbx8 x0
    have y1 := cell_later hbx8 x1
    have y2 : (w8.alloc (.cells #[.slice a2 xs.length c2] 24)).cell? ⟨w8.heap.size, 0, none⟩ = some (.slice a2 xs.length c2) := by simp
    have hec := eqValue_any a2 a0 c2 c0 xs (w8.alloc (.cells #[.slice a2 xs.length c2] 24)) hA2.as hA0.as (by omega)
    clear x0 x1 hb08 hbx8
    go_wp2_with fail
    refine hec.mono ?_
    rintro e w10 ⟨rfl, hb910⟩
    clear hec
    generalize w8.alloc (.cells #[.slice a2 xs.length c2] 24) = w9 at *
    generalize w8.heap.size = k2 at *
    have x1 := cell_later hb910 y1
    have hM := hM.below hb910
    have hb010 := hb09.trans (hb910.mono hb09.size)
    clear y0 y1 y2 hb09 hb910
    have hhc := heldValue_any a1 c1 xs.length w10 hM.as (by omega)
    go_wp2_with fail
    refine hhc.mono ?_
    rintro e w11 ⟨rfl, hb1011⟩
    clear hhc
    have hb011 := hb010.trans (hb1011.mono hb010.size)
    clear x1 hb010 hb1011
    go_wp2
    go_ret
    exact ⟨rfl, hb011⟩
end Go.Proofs.YtamaioeikcjhoaaDoor

namespace Go.Proofs.YtamaioeikcjhoaaDoor
open Go.RowKit

theorem total_le {xs : List At} {c : Nat} (h : ∀ a ∈ xs, a.text.size ≤ c) : totalA xs ≤ xs.length * c := by
  induction xs with
  | nil => simp [totalA]
  | cons x xs ih =>
    have h1 := ih (fun a ha => h a (List.mem_cons_of_mem _ ha))
    have h2 := h x List.mem_cons_self
    simp only [totalA, List.map_cons, List.sum_cons, List.length_cons] at h1 ⊢
    rw [Nat.succ_mul]
    omega

set_option maxRecDepth 20000 in
set_option maxHeartbeats 2000000 in
theorem valuesLaw_any (a : Option Addr) (cap : Nat) (zs : List Int) (w : World) (h : Code0 w a cap zs) (hg : w.cell? ⟨0, 0, none⟩ = some (.iface 108 (.agg #[.pointer (some ⟨1, 42, none⟩)]))) :
    Calls Tryd.prog 4 #[.slice a zs.length cap] w fun e w' => e = .returned (.bool true) ∧ Below w.heap.size w w' := by
  by_cases hbig : 1048576 < zs.length
  · have hb1 : (1048576 : Int) < zs.length := by omega
    go_enter Tryd.func4, Tryd.ntmps4
    go_wp2
    go_ret
    exact ⟨rfl, Below.refl _ _⟩
  have hb1 : ¬ (1048576 : Int) < zs.length := by omega
  have hdf := drawForm_any a cap zs w h
  go_enter Tryd.func4, Tryd.ntmps4
  go_wp2_with fail
  refine hdf.mono ?_
  rintro e w1 ⟨ad, cs, ts, rfl, hA1, hok, hb01⟩
  clear hdf
  have hal : Below w1.heap.size w1 (w1.alloc (.cells #[.slice ad ts.length cs] 24)) := (Below.refl _ _).alloc (Nat.le_refl _) _
  have hA2 := hA1.below hal
  have c2 : (w1.alloc (.cells #[.slice ad ts.length cs] 24)).cell? ⟨w1.heap.size, 0, none⟩ = some (.slice ad ts.length cs) := by simp
  have hb02 : Below w.heap.size w (w1.alloc (.cells #[.slice ad ts.length cs] 24)) := hb01.trans (hal.mono hb01.size)
  have htot : ts.length + totalA ts ≤ 1048576 := by have := hok.1; have := hok.2.1; omega
  have hmx : ∀ s ∈ ts, s.text.size ≤ maxLen := fun s hs => by have := size_le_totalA ts s hs; have := hok.2.1; unfold maxLen; omega
  have hif := implForm_any ad cs ts (w1.alloc (.cells #[.slice ad ts.length cs] 24)) hA2.as htot hmx
  clear hA1 hal hb01
  go_wp2_with fail
  refine hif.mono ?_
  rintro e w3 ⟨rfl, hb23⟩
  clear hif
  generalize w1.alloc (.cells #[.slice ad ts.length cs] 24) = w2 at *
  generalize w1.heap.size = k1 at *
  have c3 := cell_later hb23 c2
  have hA3 := hA2.below hb23
  have hb03 := hb02.trans (hb23.mono hb02.size)
  clear c2 hA2 hb02 hb23
  have hsf := specForm_any ad cs ts w3 hA3.as htot hmx
  have HFR : RKeep ((formV ts).size ≠ 0 → readV (formV ts).data.toList = some ts) := ⟨fun hz => readV_yes rfl hz hok.2.2⟩
  have hfs : (formV ts).size ≤ 100000 := by
    unfold formV
    split
    · split
      · rename_i h5; show (List.toArray _).size ≤ 100000; simpa using h5
      · show 0 ≤ 100000; omega
    · show 0 ≤ 100000; omega
  have hlen : ts.length ≤ 302 := hok.1
  have hbsf := bs_same (x := formV ts) rfl
  clear hok htot hmx
  generalize formV ts = fv at *
  go_wp2_with fail
  refine hsf.mono ?_
  rintro e w4 ⟨rfl, hb34⟩
  clear hsf
  have c4 := cell_later hb34 c3
  have hA4 := hA3.below hb34
  have hb04 := hb03.trans (hb34.mono hb03.size)
  clear c3 hA3 hb03 hb34
  have hir := implRead_any fv (by omega) w4 (cell_later hb04 hg)
  go_wp2_with fail
  refine hir.mono ?_
  rintro e w5 hpost
  clear hir
  have HMID : RKeep (∃ ok : Bool, ∃ (ax : Option Addr) (cx : Nat) (us : List At), e = .returned (.tuple #[.agg #[.slice ax us.length cx], .bool ok]) ∧ Below w4.heap.size w4 w5 ∧ AL w4.heap.size w5 ax us ∧ ((ok = false ∧ fv = ⟨#[]⟩) ∨ (ok = true ∧ us = ts ∧ fv.size ≠ 0))) := by
    refine ⟨?_⟩
    by_cases hz : fv.size = 0
    · obtain ⟨hbb, ⟨_, he⟩ | ⟨xs, v, hs, _⟩⟩ := hpost
      · exact ⟨false, none, 0, [], he, hbb, AL.nil _ _ _, .inl ⟨rfl, ba0 hz⟩⟩
      · exfalso
        have := ba0 hz
        subst this
        cases hs
    · obtain ⟨hbb, ⟨hn, _⟩ | ⟨xs, v, hs, he, ho⟩⟩ := hpost
      · rw [HFR.out hz] at hn; cases hn
      · rw [HFR.out hz] at hs
        cases hs
        obtain ⟨ax, cx, rfl⟩ := owns_slice ho
        exact ⟨true, ax, cx, ts, he, hbb, al_of_row ho, .inr ⟨rfl, rfl, hz⟩⟩
  obtain ⟨ok, ax, cx, us, rfl, hb45, hU5, hcase⟩ := HMID.out
  clear HMID HFR hpost
  have hal5 : Below w5.heap.size w5 (w5.alloc (.cells #[.slice ax us.length cx] 24)) := (Below.refl _ _).alloc (Nat.le_refl _) _
  have c6 := cell_later hal5 (cell_later hb45 c4)
  have u6 : (w5.alloc (.cells #[.slice ax us.length cx] 24)).cell? ⟨w5.heap.size, 0, none⟩ = some (.slice ax us.length cx) := by simp
  have hA6 := (hA4.below hb45).below hal5
  have hU6 := hU5.below hal5
  have hb05 := hb04.trans (hb45.mono hb04.size)
  have hb06 : Below w.heap.size w (w5.alloc (.cells #[.slice ax us.length cx] 24)) := hb05.trans (hal5.mono hb05.size)
  clear c4 hA4 hb04 hb45 hU5 hb05 hal5
  go_upto_region 8 with fail
  generalize w5.alloc (.cells #[.slice ax us.length cx] 24) = w6 at *
  generalize w5.heap.size = k5 at *
  have HEND : RKeep (∀ w7, Below w.heap.size w w7 → Calls Tryd.prog 14 #[.slice a zs.length cap] w7 fun e w' => ∃ s : ByteArray, e = .returned (.string s) ∧ s.size ≤ 200002 ∧ Below w7.heap.size w7 w') := ⟨fun w7 hb => drawRead_any a cap zs w7 (h.later hb)⟩
  rcases hcase with ⟨rfl, rfl⟩ | ⟨rfl, rfl, hz⟩
  · go_upto_region 10 with fail
    clear c6 u6 hA6 hU6
    have hdr := HEND.out w6 hb06
    go_wp2_with fail
    refine hdr.mono ?_
    rintro e w8 ⟨t, rfl, ht, hb8⟩
    clear hdr HEND
    have hb08 := hb06.trans (hb8.mono hb06.size)
    clear hb8
    have hir := (implRead_any t (by omega) w8 (cell_later hb08 hg)).mono (fun e w' h => h.one)
    have HT : RKeep ((readV t.data.toList).isSome = true → formV (rxs t.data.toList) = t ∧ totalA (rxs t.data.toList) ≤ 450000) := ⟨fun hq => by
      unfold rxs
      cases hr : readV t.data.toList with
      | none => rw [hr] at hq; cases hq
      | some xs =>
        obtain ⟨f1, _, f3, _, f5⟩ := read_form hr
        refine ⟨f1.trans (mkL_data t), ?_⟩
        have h1 := total_le f5
        have h2 : xs.length * 1500 ≤ 300 * 1500 := Nat.mul_le_mul_right _ f3
        show totalA xs ≤ 450000
        omega⟩
    have hsp := fun w => (specRead_any t (by omega) w).mono (fun e w' h => h.one)
    have hxl := rxs_len t.data.toList
    generalize rxs t.data.toList = xs at *
    generalize (readV t.data.toList).isSome = q at *
    have KS := RKeep.mk hsp
    clear hsp
    go_wp2_with fail
    refine hir.mono ?_
    rintro e w9 ⟨hb89, ay, cy, rfl, hY9⟩
    clear hir
    have hb09 := hb08.trans (hb89.mono hb08.size)
    clear hb08 hb89
    have hal9 : Below w9.heap.size w9 (w9.alloc (.cells #[.slice ay xs.length cy] 24)) := (Below.refl _ _).alloc (Nat.le_refl _) _
    have y10 : (w9.alloc (.cells #[.slice ay xs.length cy] 24)).cell? ⟨w9.heap.size, 0, none⟩ = some (.slice ay xs.length cy) := by simp
    have hY10 := hY9.below hal9
    have hb010 : Below w.heap.size w (w9.alloc (.cells #[.slice ay xs.length cy] 24)) := hb09.trans (hal9.mono hb09.size)
    have hsr := KS.out (w9.alloc (.cells #[.slice ay xs.length cy] 24))
    clear hb09 hY9 hal9 KS
    go_wp2_with fail
    refine hsr.mono ?_
    rintro e w11 ⟨hb1011, az, cz, rfl, hZ11⟩
    clear hsr hZ11
    generalize w9.alloc (.cells #[.slice ay xs.length cy] 24) = w10 at *
    generalize w9.heap.size = k9 at *
    have y11 := cell_later hb1011 y10
    have hY11 := hY10.below hb1011
    have hb011 := hb010.trans (hb1011.mono hb010.size)
    clear y10 hY10 hb010 hb1011
    have hal11 : Below w11.heap.size w11 (w11.alloc (.cells #[.slice az xs.length cz] 24)) := (Below.refl _ _).alloc (Nat.le_refl _) _
    have y12 := cell_later hal11 y11
    have hY12 := hY11.below hal11
    have hb012 : Below w.heap.size w (w11.alloc (.cells #[.slice az xs.length cz] 24)) := hb011.trans (hal11.mono hb011.size)
    clear y11 hY11 hb011 hal11
    go_upto_region 13 with fail
    generalize w11.alloc (.cells #[.slice az xs.length cz] 24) = w12 at *
    cases q with
    | false =>
      go_wp2
      go_ret
      exact ⟨rfl, hb012⟩
    | true =>
      obtain ⟨f1, f2⟩ := HT.out rfl
      have hif := implForm_any ay cy xs w12 hY12.as (by omega) (fun y hy => by have := size_le_totalA xs y hy; unfold maxLen; omega)
      have hcmp := bs_same f1
      clear HT f1
      generalize formV xs = fx at *
      go_wp2_with fail
      refine hif.mono ?_
      rintro e w13 ⟨rfl, hb1213⟩
      have hb013 := hb012.trans (hb1213.mono hb012.size)
      clear hif hb1213 hb012
      go_wp2
      go_ret
      exact ⟨rfl, hb013⟩
  · have hz1 : (fv.toList == []) = false := by have := bs_diff (x := fv) (y := mkL []) (fun e => hz (by rw [e]; rfl)); rwa [mkL_toList] at this
    have hwv := wValue_any ax ad cx cs us w6 hU6.as hA6.as (by omega)
    go_wp2_with fail
    refine hwv.mono ?_
    rintro e w7 ⟨rfl, hb67⟩
    have hb07 := hb06.trans (hb67.mono hb06.size)
    clear hwv hb67 hb06 c6 u6 hA6 hU6
    go_upto_region 10 with fail
    have hdr := HEND.out w7 hb07
    go_wp2_with fail
    refine hdr.mono ?_
    rintro e w8 ⟨t, rfl, ht, hb8⟩
    clear hdr HEND
    have hb08 := hb07.trans (hb8.mono hb07.size)
    clear hb8
    have hir := (implRead_any t (by omega) w8 (cell_later hb08 hg)).mono (fun e w' h => h.one)
    have HT : RKeep ((readV t.data.toList).isSome = true → formV (rxs t.data.toList) = t ∧ totalA (rxs t.data.toList) ≤ 450000) := ⟨fun hq => by
      unfold rxs
      cases hr : readV t.data.toList with
      | none => rw [hr] at hq; cases hq
      | some xs =>
        obtain ⟨f1, _, f3, _, f5⟩ := read_form hr
        refine ⟨f1.trans (mkL_data t), ?_⟩
        have h1 := total_le f5
        have h2 : xs.length * 1500 ≤ 300 * 1500 := Nat.mul_le_mul_right _ f3
        show totalA xs ≤ 450000
        omega⟩
    have hsp := fun w => (specRead_any t (by omega) w).mono (fun e w' h => h.one)
    have hxl := rxs_len t.data.toList
    generalize rxs t.data.toList = xs at *
    generalize (readV t.data.toList).isSome = q at *
    have KS := RKeep.mk hsp
    clear hsp
    go_wp2_with fail
    refine hir.mono ?_
    rintro e w9 ⟨hb89, ay, cy, rfl, hY9⟩
    clear hir
    have hb09 := hb08.trans (hb89.mono hb08.size)
    clear hb08 hb89
    have hal9 : Below w9.heap.size w9 (w9.alloc (.cells #[.slice ay xs.length cy] 24)) := (Below.refl _ _).alloc (Nat.le_refl _) _
    have y10 : (w9.alloc (.cells #[.slice ay xs.length cy] 24)).cell? ⟨w9.heap.size, 0, none⟩ = some (.slice ay xs.length cy) := by simp
    have hY10 := hY9.below hal9
    have hb010 : Below w.heap.size w (w9.alloc (.cells #[.slice ay xs.length cy] 24)) := hb09.trans (hal9.mono hb09.size)
    have hsr := KS.out (w9.alloc (.cells #[.slice ay xs.length cy] 24))
    clear hb09 hY9 hal9 KS
    go_wp2_with fail
    refine hsr.mono ?_
    rintro e w11 ⟨hb1011, az, cz, rfl, hZ11⟩
    clear hsr hZ11
    generalize w9.alloc (.cells #[.slice ay xs.length cy] 24) = w10 at *
    generalize w9.heap.size = k9 at *
    have y11 := cell_later hb1011 y10
    have hY11 := hY10.below hb1011
    have hb011 := hb010.trans (hb1011.mono hb010.size)
    clear y10 hY10 hb010 hb1011
    have hal11 : Below w11.heap.size w11 (w11.alloc (.cells #[.slice az xs.length cz] 24)) := (Below.refl _ _).alloc (Nat.le_refl _) _
    have y12 := cell_later hal11 y11
    have hY12 := hY11.below hal11
    have hb012 : Below w.heap.size w (w11.alloc (.cells #[.slice az xs.length cz] 24)) := hb011.trans (hal11.mono hb011.size)
    clear y11 hY11 hb011 hal11
    go_upto_region 13 with fail
    generalize w11.alloc (.cells #[.slice az xs.length cz] 24) = w12 at *
    cases q with
    | false =>
      go_wp2
      go_ret
      exact ⟨rfl, hb012⟩
    | true =>
      obtain ⟨f1, f2⟩ := HT.out rfl
      have hif := implForm_any ay cy xs w12 hY12.as (by omega) (fun y hy => by have := size_le_totalA xs y hy; unfold maxLen; omega)
      have hcmp := bs_same f1
      clear HT f1
      generalize formV xs = fx at *
      go_wp2_with fail
      refine hif.mono ?_
      rintro e w13 ⟨rfl, hb1213⟩
      have hb013 := hb012.trans (hb1213.mono hb012.size)
      clear hif hb1213 hb012
      go_wp2
      go_ret
      exact ⟨rfl, hb013⟩
end Go.Proofs.YtamaioeikcjhoaaDoor

namespace Go.Proofs.YtamaioeikcjhoaaDoor.fnValues
open Go.ChangeShapes Go.WideShapes Go.ChangeAt Go.RowKit
set_option linter.unusedVariables false

theorem own : ownKnob Tryd.prog.godebug = none := by kernel_rfl
theorem laidOut : laidOutB Tryd.prog = true := by kernel_rfl

theorem open_code {H : Type} {enc : TypeId × Value → H} {W : World} {a : Option Addr} {len cap : Nat} {d : DataW H} {p : List MemPlace} (h : DataW.Trod enc Tryd.prog W 0 (fun _ => true) true 30 (.slice a len cap) d p) :
    ∃ zs : List Int, len = zs.length ∧ Code0 W a cap zs := by
  obtain ⟨fuel, hf⟩ := h
  rcases open_ints Tryd.underlying30 Tryd.underlying5 (by kernel_rfl) hf with ⟨hcs, _⟩ | ⟨x, l, c, zs, hcs, _, hl, hm, hz, _, hcell, hwz⟩
  · simp [Value.cells] at hcs
    obtain ⟨rfl, rfl, rfl⟩ := hcs
    exact ⟨[], rfl, .inl rfl, Nat.zero_le _, Nat.zero_le _, fun z hz => by simp at hz⟩
  · simp [Value.cells] at hcs
    obtain ⟨rfl, rfl, rfl⟩ := hcs
    have hz' : zs.length = cap := by simpa using hz
    refine ⟨zs.take len, by simp; omega, ?_, by simp; omega, hm, fun z hz => ?_⟩
    · by_cases h0 : len = 0
      · left; simp [h0]
      · right
        obtain ⟨b, off, rfl, hc⟩ := ints_at hcell (by omega)
        refine ⟨b, off, rfl, ?_, fun i hi => ?_⟩
        · have h1 := hc 0 (by omega)
          unfold World.cell? at h1
          cases hh : W.heap[b]? with
          | none => simp [hh] at h1
          | some o => exact (Array.getElem?_eq_some_iff.1 hh).1
        · have hi' : i < zs.length := by simp at hi; omega
          rw [hc i hi']
          simp [List.getD, hi']
    · have := bounds_u8 (hwz z (List.mem_of_mem_take hz))
      omega

theorem et : Tryd.prog.globalNamed "errors.errorType" = some 0 := by kernel_rfl
theorem rt : (Tryd.prog.cutTypes.find? (·.1 == "internal/reflectlite.rtype")).map (·.2) = some 108 := by kernel_rfl
theorem size : Tryd.prog.types.size = 174 := by kernel_rfl
theorem oneRow : ((List.range 174).filter fun t => Tryd.prog.rowNamed t [101, 114, 114, 111, 114]) = [42] := by kernel_rfl

/-- What the row's condition gives: the variable's one cell. -/
theorem handle_of_laid {W : World} (h : laidMetH Tryd.prog Rows.fnValuesRow.laid W) : W.cell? ⟨0, 0, none⟩ = some (.iface 108 (.agg #[.pointer (some ⟨1, 42, none⟩)])) := by
  have h' : laidMet Tryd.prog [] W ∧ handlesMet Tryd.prog Rows.fnValuesRow.laid W := h
  obtain ⟨name, u, ty, e1, e2, e3, e4, e5⟩ := h'.2 _ (List.mem_singleton.2 rfl)
  have en : name = [101, 114, 114, 111, 114] := (Option.some.inj e1).symm
  subst en
  obtain rfl := Option.some.inj (rt.symm.trans e2)
  have hm : ty ∈ (List.range 174).filter fun t => Tryd.prog.rowNamed t [101, 114, 114, 111, 114] := List.mem_filter.2 ⟨List.mem_range.2 (by rw [← size]; exact e3), e4⟩
  rw [oneRow] at hm
  obtain rfl := List.mem_singleton.1 hm
  have hh : typeHandle Tryd.prog 42 = .pointer (some ⟨1, 42, none⟩) := by kernel_rfl
  rw [hh] at e5
  simpa using World.var?_cell et e5 0

/-- A world that meets the condition. -/
def laidWorld (p : Program) (os : Os) : World :=
  let w0 := World.holding p os ⟨#[], #[], []⟩
  { w0 with heap := w0.heap.modify 0 fun
      | .cells _ t frozen => .cells #[.iface 108 (.agg #[.pointer (some ⟨1, 42, none⟩)])] t frozen
      | o => o }
theorem laidWorld_met (os : Os) (args : Array Value) : laidMetH Tryd.prog Rows.fnValuesRow.laid ((laidWorld Tryd.prog os).forCall (fun _ _ => 0) ⟨#[], args, []⟩).memory :=
  laidMetH_of_parts (laidMet_nil _ _) (by kernel_rfl)

set_option maxRecDepth 100000 in
theorem lifted (os : Os) (started : os.Started) (H : Type) (enc : TypeId × Value → H) :
    ReturnsInHanded {} Tryd.checked os 4 .any (fun w args => (Rows.fnValuesSpec.pre enc Tryd.prog Tryd.f4 Rows.fnValuesRow.domain false w args ∧ laidMetH Tryd.prog Rows.fnValuesRow.laid w) ∧ sizedMet enc Tryd.prog Tryd.f4 (OpenSpec.ofChange Rows.fnValuesSpec) false w args)
      (Rows.fnValuesSpec.post enc Tryd.prog Tryd.f4 false true false false) := by
  refine returnsInHanded_of_change_and (C := Tryd.checked) (X := fun w _ => laidMetH Tryd.prog Rows.fnValuesRow.laid w) (fun _ _ _ hh h => h.of_heap hh) own started (by kernel_rfl) Tryd.func4
    (ChangeSpec.witness_at (enc := enc) (C := Tryd.checked) (os := os) (X := fun w _ => laidMetH Tryd.prog Rows.fnValuesRow.laid w) false (laidWorld Tryd.prog os) #[.slice none 0 0] 8 rfl (by kernel_rfl) (by kernel_rfl) (by kernel_rfl) (by kernel_rfl) (by kernel_rfl) (laidWorld_met os _)) ?_
  intro W base args ds gs before hval0 hW hc _ hL _
  have hval : ∀ (j : Nat) t v, Tryd.f4.params[j]? = some t → args[j]? = some v → Value.okWide Tryd.prog W .any base t v := hval0
  have hW' := hW
  obtain ⟨p, q, hA0, hV, rfl, hfz, hnd⟩ := hW
  have hA : DataW.TrodAll enc Tryd.prog W 0 (fun _ => true) true Tryd.f4.params.toList args.toList ds p := hA0
  rw [Tryd.params4] at hA hval
  obtain ⟨v0, vs0, d0, ds0, p0, q0, hargs, rfl, rfl, h0, r0⟩ := trodAll_cons hA
  obtain ⟨rfl, rfl, rfl⟩ := trodAll_nil r0
  obtain rfl : args = #[v0] := by cases args; simp_all
  obtain ⟨rfl, rfl⟩ := trodVars_none hV
  obtain ⟨a0, len0, cap0, rfl⟩ := okWide_slice Tryd.underlying30 (hval 0 30 v0 rfl rfl)
  have k0 := h0
  have lt0 : ∀ x ∈ p0, x.block < W.heap.size := by obtain ⟨m, hm⟩ := k0; exact DataW.trod_lt m _ _ _ hm
  obtain ⟨zs, rfl, hc0⟩ := open_code h0
  clear hA0 hval0
  refine (valuesLaw_any a0 cap0 zs W hc0 (handle_of_laid hL)).mono fun e W' ⟨he, bel⟩ => ?_
  subst he
  exact ⟨_, rfl, _, _, _, [], _, [], hW', trodAll_mk1 (shut_bool Tryd.underlying4 _), (trodAll_cons_mk (Below.trod laidOut (by kernel_rfl) (of_decide_eq_true (by kernel_rfl)) k0 bel lt0) trodAll_mk0), rfl, bel.frame _, fun h => by cases h⟩

theorem over : Rows.FnValuesSaid :=
  OpenClaim.holds_of_wide 4 Tryd.f4 rfl rfl rfl rfl rfl rfl rfl ⟨rfl, rfl, rfl, rfl, rfl⟩ rfl rfl rfl rfl rfl (by kernel_rfl) Tryd.func4 (by kernel_rfl)
    (of_decide_eq_true (by kernel_rfl)) (by unfold Func.isWrapper; first | (rw [if_pos (by decide +kernel)]; kernel_rfl) | (rw [if_neg (by decide +kernel)]; exact ⟨rfl, rfl⟩))
    (fun os started H enc _ => lifted os started H enc)

theorem proved : Rows.FnValuesCardSaid :=
  Claim7.holds_tied_plain_at .later [] [.handle] true Rows.fnValuesCard.stood.harness true
    over (fun _ h => by cases h) (by kernel_rfl) (fun _ h => by cases h) fnValues_row_tie rfl ⟨rfl, rfl⟩ (by kernel_rfl) rfl
    (fun f fn hf hfn => by
      obtain rfl : f = 4 := Option.some.inj ((show Tryd.prog.funcNamed "loop.example/kilntree/laws.FnValues" = some 4 by kernel_rfl).symm.trans hf) |>.symm
      obtain rfl : fn = Tryd.f4 := (Option.some.inj (Tryd.func4.symm.trans hfn)).symm
      exact ⟨by kernel_rfl, fun j t ht => by
        rw [Tryd.params4] at ht
        have hm : t ∈ [30] := by simpa using Array.mem_of_getElem? ht
        have hall : ([30].all fun u => !Tryd.prog.wantsStandIn u) = true := by kernel_rfl
        exact (show Tryd.prog.wantsStandIn t = false by simpa using List.all_eq_true.1 hall t hm)⟩)
    (by kernel_rfl)
end Go.Proofs.YtamaioeikcjhoaaDoor.fnValues
