/-
  WTr, WTx, WMg, MarkB, MarkE, TreeLaw, MarkK, HeldE, MarkL, HeldL, Strs, Entries, MgX: laid as one text.
-/
import Derived.Test.YtjiafjdjocmodaaGreatDrawPth
import Derived.Test.YtjiafjdjocmodaaGreatEntB
import Derived.Test.YtjiafjdjocmodaaGreatLaterQ
import Derived.Deep.DeepCutAuto
import Derived.Test.YtjiafjdjocmodaaGreatStrsB
import Derived.WalkKit
import Derived.WalkSpells
import Derived.Deep.QuietTactic
import Derived.BigQuiet
import Derived.Test.YtjiafjdjocmodaaGreatMgS
import Derived.Test.YtjiafjdjocmodaaGreatBase
import Derived.Deep.RegionHeld3
import Derived.Lib.AppendStr
import Derived.WalkLawsBesides
import Derived.Deep.Light
import Derived.Test.YtjiafjdjocmodaaGreatEntL
import Derived.Test.YtjiafjdjocmodaaGreatSplitP
namespace Go.Proofs.YtjiafjdjocmodaaGreat
open Go.RowKit

/-- A tree in a box. -/
structure TBx (b : Nat) (ad : Option Addr) (cp : Nat) (ts : List En) (W : World) : Prop where
  c : W.cell? ⟨b, 0, none⟩ = some (.slice ad ts.length cp)
  es : ES W ad ts
theorem TBx.later {b : Nat} {ad : Option Addr} {cp : Nat} {ts : List En} {W W' : World} (h : TBx b ad cp ts W) (hb : Below W.heap.size W W') : TBx b ad cp ts W' := ⟨cell_later hb h.c, h.es.below hb⟩
theorem TBx.new {ad : Option Addr} {cp : Nat} {ts : List En} {W : World} (h : ES W ad ts) : TBx W.heap.size ad cp ts (W.alloc (.cells #[.slice ad ts.length cp] 25)) := ⟨by simp, h.below (below_oneD _ _)⟩

set_option maxRecDepth 20000 in
set_option maxHeartbeats 2000000 in
theorem wTree_any (a b : Option Addr) (ca cb : Nat) (ts : List En) (w : World) (ha : ES w a ts) (hb : ES w b ts) (hn : ts.length ≤ 1048576) :
    Calls Tryz.prog 34 #[.agg #[.slice a ts.length ca], .agg #[.slice b ts.length cb]] w fun e w' => e = .returned (.bool true) ∧ Below w.heap.size w w' := by
  have hal : Below w.heap.size w ((w.alloc (.cells #[.slice a ts.length ca] 25)).alloc (.cells #[.slice b ts.length cb] 25)) := ((Below.refl _ _).alloc (Nat.le_refl _) _).alloc (by simp) _
  have m0 : ((w.alloc (.cells #[.slice a ts.length ca] 25)).alloc (.cells #[.slice b ts.length cb] 25)).cell? ⟨w.heap.size, 0, none⟩ = some (.slice a ts.length ca) := by simp [go_sem]
  have n0 : ((w.alloc (.cells #[.slice a ts.length ca] 25)).alloc (.cells #[.slice b ts.length cb] 25)).cell? ⟨w.heap.size + 1, 0, none⟩ = some (.slice b ts.length cb) := by simp [go_sem]
  go_enter Tryz.func34, Tryz.ntmps34
  go_wp2
  generalize (w.alloc (.cells #[.slice a ts.length ca] 25)).alloc (.cells #[.slice b ts.length cb] 25) = W0 at *
  go_loopw [5] (fun i wr => ∃ k : Nat, i = .int .i64 k ∧ k ≤ ts.length ∧ Below W0.heap.size W0 wr) (fun i _ => ts.length - (intOf i).toNat)
  case atStart => exact ⟨0, rfl, Nat.zero_le _, Below.refl _ _⟩
  case round =>
    obtain ⟨k, rfl, hk, hB⟩ := hrel
    have M := cell_later hB m0
    have N := cell_later hB n0
    have hBw := hal.trans (hB.mono hal.size)
    by_cases hlt : k < ts.length
    · have hlt' : (k : Int) < ts.length := by omega
      obtain ⟨b1, o1, rfl, h1⟩ := (ha.below hBw).at hlt
      obtain ⟨b2, o2, rfl, h2⟩ := (hb.below hBw).at hlt
      obtain ⟨x0, x1, x2⟩ := h1 k hlt
      obtain ⟨y0, y1, y2⟩ := h2 k hlt
      clear h1 h2
      go_wp2
      go_quiet (fail)
      go_wp2
      go_roundw
      case rel => exact ⟨k + 1, by congr 1, hlt, below_drewN hB _⟩
      case measure => simp only [intOf]; omega
    · obtain rfl : k = ts.length := by omega
      go_wp2
      go_ret
      exact ⟨rfl, hBw⟩
end Go.Proofs.YtjiafjdjocmodaaGreat

namespace Go.Proofs.YtjiafjdjocmodaaGreat
open Go.RowKit

def WTrue (w : World) (e : Ending) (w' : World) : Prop := e = .returned (.bool true) ∧ ∃ n, w' = w.drewN n

set_option maxRecDepth 20000 in
set_option maxHeartbeats 2000000 in
theorem wTexts_any (a b : Option Addr) (ca cb : Nat) (ss : List ByteArray) (w : World) (ha : SS w a ss) (hb : SS w b ss) (hn : ss.length ≤ 1000000) :
    Calls Tryz.prog 35 #[.slice a ss.length ca, .slice b ss.length cb] w fun e w' => WTrue w e w' := by
  go_enter Tryz.func35, Tryz.ntmps35
  go_wp2
  go_loopw [5] (fun i wr => ∃ (k n : Nat), i = .int .i64 k ∧ k ≤ ss.length ∧ wr = w.drewN n) (fun i _ => ss.length - (intOf i).toNat)
  case atStart => exact ⟨0, 0, rfl, Nat.zero_le _, rfl⟩
  case round =>
    obtain ⟨k, n, rfl, hk, rfl⟩ := hrel
    by_cases hlt : k < ss.length
    · have hlt' : (k : Int) < ss.length := by omega
      obtain ⟨ba, oa, rfl, hca⟩ := ha.at hlt
      obtain ⟨bb, ob, rfl, hcb⟩ := hb.at hlt
      have c1 := hca k hlt
      have c2 := hcb k hlt
      have hsame : (ss[k].toList == ss[k].toList) = true := by simp
      clear hca hcb ha hb
      go_wp2
      go_quiet (fail)
      go_wp2
      go_roundw
      case rel => exact ⟨k + 1, _, by congr 1, hlt, rfl⟩
      case measure => simp only [intOf]; omega
    · obtain rfl : k = ss.length := by omega
      go_wp2
      go_ret
      exact ⟨rfl, _, rfl⟩
end Go.Proofs.YtjiafjdjocmodaaGreat

namespace Go.Proofs.YtjiafjdjocmodaaGreat
open Go.RowKit

theorem mg_few {F : MrgF} {bs xs ys us : List En} {c : Int} {ks : List ByteArray} (h : MgRel F bs xs ys c us ks) (h1 : bs.length ≤ 300) (h2 : xs.length ≤ 300) (h3 : ys.length ≤ 300) : us.length ≤ 1000 ∧ ks.length ≤ 1000 := by
  have hp : (pathsL [bs, xs, ys]).length ≤ 900 := by
    have a1 := addP_len [] bs bs.length (Nat.le_refl _)
    have a2 := addP_len (addP [] bs) xs xs.length (Nat.le_refl _)
    have a3 := addP_len (addP (addP [] bs) xs) ys ys.length (Nat.le_refl _)
    rw [List.take_length] at a1 a2 a3
    show (addP (addP (addP [] bs) xs) ys).length ≤ 900
    simp only [List.length_nil] at a1
    omega
  have ho := outM_len (F := F) (bs := bs) (xs := xs) (ys := ys) (pathsL [bs, xs, ys])
  have hk := clsM_len (F := F) (bs := bs) (xs := xs) (ys := ys) (pathsL [bs, xs, ys])
  rcases h with ⟨_, _, rfl, rfl⟩ | ⟨_, _, _, ⟨_, _, rfl, rfl⟩ | ⟨_, ⟨_, _, rfl, rfl⟩ | ⟨_, _, rfl, rfl⟩⟩⟩
  · simp
  · exact ⟨by simp, by omega⟩
  · exact ⟨by omega, by simp⟩
  · refine ⟨by simp, ?_⟩
    split
    · unfold kidsM
      rw [List.length_map]
      exact Nat.le_trans (List.length_filter_le _ _) (by omega)
    · simp
theorem mg_bad {F : MrgF} {bs xs ys us : List En} {ks : List ByteArray} (h : MgRel F bs xs ys 1 us ks) : ¬ (ValidTs bs ∧ ValidTs xs ∧ ValidTs ys) := by
  rcases h with ⟨h, _⟩ | ⟨_, _, _, ⟨_, h, _⟩ | ⟨_, ⟨_, h, _⟩ | ⟨_, h, _⟩⟩⟩
  · exact h
  · cases h
  · cases h
  · cases h
theorem mg_good {F : MrgF} {bs xs ys us : List En} {c : Int} {ks : List ByteArray} (h : MgRel F bs xs ys c us ks) (hc : ¬ c = 1) : ValidTs bs ∧ ValidTs xs ∧ ValidTs ys := by
  rcases h with ⟨_, h, _⟩ | ⟨h1, h2, h3, _⟩
  · exact absurd h hc
  · exact ⟨h1, h2, h3⟩
/-- What Merge gives, in a box. -/
structure MBx (b : Nat) (c : Int) (us : List En) (ks : List ByteArray) (ad : Option Addr) (cp : Nat) (ak : Option Addr) (ck : Nat) (W : World) : Prop where
  c0 : W.cell? ⟨b, 0, none⟩ = some (.int .i64 c)
  c1 : W.cell? ⟨b, 1, none⟩ = some (.slice ad us.length cp)
  c2 : W.cell? ⟨b, 2, none⟩ = some (.slice ak ks.length ck)
  es : ES W ad us
  ss : SS W ak ks
theorem MBx.later {b : Nat} {c : Int} {us : List En} {ks : List ByteArray} {ad : Option Addr} {cp : Nat} {ak : Option Addr} {ck : Nat} {W W' : World} (h : MBx b c us ks ad cp ak ck W) (hb : Below W.heap.size W W') : MBx b c us ks ad cp ak ck W' :=
  ⟨cell_later hb h.c0, cell_later hb h.c1, cell_later hb h.c2, h.es.below hb, h.ss.below hb⟩
theorem MBx.new {c : Int} {us : List En} {ks : List ByteArray} {ad : Option Addr} {cp : Nat} {ak : Option Addr} {ck : Nat} {W : World} {t : TypeId} (h1 : ES W ad us) (h2 : SS W ak ks) : MBx W.heap.size c us ks ad cp ak ck (W.alloc (.cells #[.int .i64 c, .slice ad us.length cp, .slice ak ks.length ck] t)) :=
  ⟨by simp, by simp, by simp, h1.below (below_oneD _ _), h2.below (below_oneD _ _)⟩

set_option maxRecDepth 100000 in
set_option maxHeartbeats 4000000 in
theorem wMerged_any (c : Int) (us : List En) (ks : List ByteArray) (a b ak bk : Option Addr) (ca cb cak cbk : Nat) (w : World) (h1 : ES w a us) (h2 : ES w b us) (h3 : SS w ak ks) (h4 : SS w bk ks) (hn : us.length ≤ 1000000) (hk : ks.length ≤ 1000000) :
    Calls Tryz.prog 7 #[.agg #[.int .i64 c, .slice a us.length ca, .slice ak ks.length cak], .agg #[.int .i64 c, .slice b us.length cb, .slice bk ks.length cbk]] w fun e w' => e = .returned (.bool true) ∧ Below w.heap.size w w' := by
  have hq1 := below_oneD w (.cells #[.int .i64 c, .slice a us.length ca, .slice ak ks.length cak] 30)
  have hq2 := below_oneD (w.alloc (.cells #[.int .i64 c, .slice a us.length ca, .slice ak ks.length cak] 30)) (.cells #[.int .i64 c, .slice b us.length cb, .slice bk ks.length cbk] 30)
  have hb := kept_below hq1 hq2
  have A := (MBx.new (c := c) (cp := ca) (ck := cak) (t := 30) h1 h3).later hq2
  have B := MBx.new (c := c) (cp := cb) (ck := cbk) (t := 30) (h2.below hq1) (h4.below hq1)
  have hsz : (w.alloc (.cells #[.int .i64 c, .slice a us.length ca, .slice ak ks.length cak] 30)).heap.size = w.heap.size + 1 := by simp
  rw [hsz] at B
  have hcc : (c == c) = true := by simp
  clear hq1 hq2 hsz
  go_enter Tryz.func7, Tryz.ntmps7
  go_upto_region 1 with fail
  generalize (w.alloc (.cells #[.int .i64 c, .slice a us.length ca, .slice ak ks.length cak] 30)).alloc (.cells #[.int .i64 c, .slice b us.length cb, .slice bk ks.length cbk] 30) = W at *
  generalize w.heap.size + 1 = b3 at *
  obtain ⟨b2, hb2⟩ : ∃ b2, b2 = w.heap.size := ⟨_, rfl⟩
  rw [← hb2] at A ⊢
  have HB : Keep (Below w.heap.size w W) := ⟨hb⟩
  rw [← hb2] at hb
  clear hb hb2
  have x0 := A.c0
  have x1 := A.c1
  have y0 := B.c0
  have y1 := B.c1
  go_wp2_with fail
  refine (wTree_any a b ca cb us W A.es B.es (by omega)).mono ?_
  rintro e w1 ⟨rfl, hb1⟩
  replace A := A.later hb1
  replace B := B.later hb1
  clear x0 x1 y0 y1
  have x2 := A.c2
  have y2 := B.c2
  go_wp2_with fail
  refine (wTexts_any ak bk cak cbk ks w1 A.ss B.ss (by omega)).mono ?_
  rintro e w2 ⟨rfl, n, rfl⟩
  go_wp2
  go_ret
  exact ⟨rfl, kept_below HB.out (kept_below hb1 (below_drewN (Below.refl _ _) n))⟩
end Go.Proofs.YtjiafjdjocmodaaGreat

namespace Go.Proofs.YtjiafjdjocmodaaGreat
open Go.RowKit

theorem conv_oneM (x : Int) (w : World) : (convert 22 9 (.slice (some ⟨w.heap.size, 0, none⟩) 1 1)).run Tryz.prog (w.alloc (.cells #[.int .u8 x] 5)) = .ok (.string (strOfNums [x])) (w.alloc (.cells #[.int .u8 x] 5)) := by
  refine run_convert_bytes_arg _ 22 5 Tryz.underlying22 Tryz.underlying5 _ 0 1 1 [x] rfl ?_ 9 Tryz.underlying9
  intro i hi
  obtain rfl : i = 0 := by omega
  simp

def dgF : Nat → Nat → ByteArray → ByteArray
  | 0, _, out => out
  | f + 1, k, out => if k = 0 then out else dgF f (k / 10) (strOfNums [((48 + k % 10 : Nat) : Int)] ++ out)
theorem dgF_on : ∀ (f g k : Nat) (out : ByteArray), k ≤ f → k ≤ g → dgF f k out = dgF g k out
  | 0, 0, _, _, _, _ => rfl
  | 0, g + 1, k, out, h, _ => by rw [dgF, dgF, if_pos (by omega)]
  | f + 1, 0, k, out, _, h => by rw [dgF, dgF, if_pos (by omega)]
  | f + 1, g + 1, k, out, h1, h2 => by
    rw [dgF, dgF]
    split
    · rfl
    · exact dgF_on f g (k / 10) _ (by omega) (by omega)
def dg (k : Nat) (out : ByteArray) : ByteArray := dgF k k out
theorem dg_zero (out : ByteArray) : dg 0 out = out := rfl
theorem dg_pos {k : Nat} (h : 0 < k) (out : ByteArray) : dg k out = dg (k / 10) (strOfNums [((48 + k % 10 : Nat) : Int)] ++ out) := by
  obtain ⟨m, rfl⟩ : ∃ m, k = m + 1 := ⟨k - 1, by omega⟩
  rw [dg, dgF, if_neg (by omega)]
  exact dgF_on m _ _ _ (by omega) (Nat.le_refl _)
def mkS (k : Nat) : ByteArray := ⟨#[109]⟩ ++ dg k ⟨#[]⟩

set_option maxHeartbeats 1000000 in
theorem markText_any (k : Nat) (w : World) (h0 : 0 < k) (hk : k ≤ 1099511627776) :
    Calls Tryz.prog 73 #[.int .i64 k] w fun e w' => e = .returned (.string (mkS k)) ∧ Below w.heap.size w w' := by
  have hd : ¬ (k : Int) ≤ 0 := by omega
  go_enter Tryz.func73, Tryz.ntmps73
  go_wp2
  go_loopw [0, 3] (fun q o wr => ∃ (q' : Nat) (out : ByteArray), q = .int .i64 q' ∧ o = .string out ∧ out.size + q' ≤ k ∧ dg q' out = dg k ⟨#[]⟩ ∧ Below w.heap.size w wr) (fun q _ _ => (intOf q).toNat)
  case atStart => exact ⟨k, ⟨#[]⟩, rfl, rfl, Nat.le_of_eq (Nat.zero_add k), rfl, Below.refl _ _⟩
  case round =>
    obtain ⟨q, out, rfl, rfl, hle, he, hb⟩ := hrel
    have HE : Hid (dg q out = dg k ⟨#[]⟩) := he
    clear he
    by_cases hq : 0 < q
    · have hq' : (0 : Int) < q := by omega
      have hcv := conv_oneM (48 + (q : Int) % 10)
      have hsz : ¬ 9223372036854775807 < (strOfNums [48 + (q : Int) % 10]).size + out.size := by
        rw [strOfNums_size]; simp; omega
      have HS : Hid ((strOfNums [48 + (q : Int) % 10]).size = 1) := by
        have : (strOfNums [48 + (q : Int) % 10]).size = 1 := by rw [strOfNums_size]; rfl
        exact this
      go_wp2
      go_roundw
      case rel =>
        refine ⟨q / 10, _, by go_num, rfl, ?_, ?_, hb.alloc hb.size _⟩
        · rw [ByteArray.size_append, HS.out]; omega
        · rw [← HE.out, dg_pos hq]
          congr 1
      case measure => simp [intOf]; omega
    · obtain rfl : q = 0 := by omega
      have hsz : ¬ 9223372036854775807 < (⟨#[109]⟩ : ByteArray).size + out.size := by
        have : (⟨#[109]⟩ : ByteArray).size = 1 := rfl
        omega
      have HF : Hid (out = dg k ⟨#[]⟩) := by
        have : out = dg k ⟨#[]⟩ := by rw [← HE.out, dg_zero]
        exact this
      go_wp2
      go_ret
      refine ⟨?_, hb⟩
      unfold mkS
      rw [← HF.out]
      rfl

theorem grown_below {w w' : World} {row : Option Nat} (h : Below w.heap.size w w') : w.grownBy w' row := ⟨h.os, h.tape, h.output, h.size, fun k hk _ => h.block k hk⟩
theorem grown_trans {w w1 w2 : World} {row : Option Nat} (h : w.grownBy w1 row) (k : w1.grownBy w2 row) : w.grownBy w2 row :=
  ⟨k.os.trans h.os, k.tape.trans h.tape, k.output.trans h.output, Nat.le_trans h.size k.size, fun i hi hne => (k.block i (Nat.lt_of_lt_of_le hi h.size) hne).trans (h.block i hi hne)⟩
theorem grown_setM (w : World) (g i : Nat) (u : Value) : w.grownBy (w.setCell ⟨g, i, none⟩ u) (some g) :=
  ⟨rfl, rfl, rfl, by simp, fun k _ hne => Below.heap_setCell w _ u k fun e => hne (by rw [e])⟩

end Go.Proofs.YtjiafjdjocmodaaGreat

namespace Go.Proofs.YtjiafjdjocmodaaGreat
open Go.RowKit

def markEn (k : Nat) : En := ⟨mkS k, mkS (k + 1), decide ((k + 2) % 3 = 0)⟩
def marksE (k n : Nat) : List En := (List.range n).map fun i => markEn (k + 3 * i)
theorem marksE_len (k n : Nat) : (marksE k n).length = n := by simp [marksE]
theorem marksE_at (k n i : Nat) (h : i < (marksE k n).length) : (marksE k n)[i] = markEn (k + 3 * i) := by simp [marksE]

theorem mark_rem (k j : Nat) : (((k : Int) + 3 * (j : Int) + 1 + 1) % 3 == 0) = decide ((k + 3 * j + 2) % 3 = 0) := by
  by_cases h : (k + 3 * j + 2) % 3 = 0
  · rw [decide_eq_true h, beq_iff_eq]; omega
  · rw [decide_eq_false h, Bool.eq_false_iff, ne_eq, beq_iff_eq]; omega

/-- Cells of an entry at a place. -/
def EAt (w : World) (g i : Nat) (e : En) : Prop := w.cell? ⟨g, i * 3, none⟩ = some (.string e.path) ∧ w.cell? ⟨g, i * 3 + 1, none⟩ = some (.string e.text) ∧ w.cell? ⟨g, i * 3 + 2, none⟩ = some (.bool e.runs)
theorem EAt.later {w w' : World} {g i : Nat} {e : En} (h : EAt w g i e) (hb : Below w.heap.size w w') : EAt w' g i e := ⟨cell_later hb h.1, cell_later hb h.2.1, cell_later hb h.2.2⟩
theorem EAt.other {w : World} {g i o : Nat} {e : En} {u : Value} (h : EAt w g i e) (ho : o < i * 3 ∨ i * 3 + 3 ≤ o) : EAt (w.setCell ⟨g, o, none⟩ u) g i e := by
  obtain ⟨h1, h2, h3⟩ := h
  refine ⟨?_, ?_, ?_⟩
  · rw [World.cell?_setCell_other _ _ _ _ (by intro e; injection e with _ e; omega)]; exact h1
  · rw [World.cell?_setCell_other _ _ _ _ (by intro e; injection e with _ e; omega)]; exact h2
  · rw [World.cell?_setCell_other _ _ _ _ (by intro e; injection e with _ e; omega)]; exact h3
/-- The entries as they are while marks are laid. -/
def MixE (k : Nat) (ts : List En) (j : Nat) (w : World) (g : Nat) : Prop := ∀ i (h : i < ts.length), EAt w g i (if i < j then markEn (k + 3 * i) else ts[i])

def MarkEPost (w : World) (B : Nat) (a : Option Addr) (n k : Nat) (e : Ending) (w' : World) : Prop :=
  e = .returned (.int .i64 ((k + 3 * n : Nat) : Int)) ∧ EL B w' a (marksE k n) ∧ ∃ row, w.grownBy w' row ∧ ∀ r, row = some r → 0 < n ∧ a = some ⟨r, 0, none⟩

set_option maxRecDepth 20000 in
set_option maxHeartbeats 2000000 in
theorem markEs_any (a : Option Addr) (cap : Nat) (ts : List En) (k B : Nat) (w : World) (hel : EL B w a ts) (h0 : 0 < k) (hk : k + 3 * ts.length ≤ 1099511627776) :
    Calls Tryz.prog 45 #[.slice a ts.length cap, .int .i64 k] w fun e w' => MarkEPost w B a ts.length k e w' := by
  by_cases hn : ts = []
  · subst hn
    go_enter Tryz.func45, Tryz.ntmps45
    go_wp2
    go_loopw [1, 5] (fun q i wr => q = .int .i64 k ∧ i = .int .i64 0 ∧ wr = w) (fun _ _ _ => 0)
    case atStart => exact ⟨rfl, rfl, rfl⟩
    case round =>
      obtain ⟨rfl, rfl, rfl⟩ := hrel
      go_wp2
      go_ret
      exact ⟨rfl, EL.nil _ _ _, none, ⟨rfl, rfl, rfl, Nat.le_refl _, fun _ _ _ => rfl⟩, fun r h => by cases h⟩
  obtain ⟨g, rfl, hBg, hgw, hfz, hcs⟩ : ∃ g, a = some ⟨g, 0, none⟩ ∧ B ≤ g ∧ g < w.heap.size ∧ (∀ j, w.frozen? ⟨g, j, none⟩ = false) ∧ ∀ i (h : i < ts.length), EAt w g i ts[i] := by
    rcases hel with h | h
    · exact absurd h hn
    · exact h
  have hpos : 0 < ts.length := List.length_pos_iff.2 hn
  clear hel hn
  go_enter Tryz.func45, Tryz.ntmps45
  go_wp2
  go_loopw [1, 5] (fun q i wr => ∃ j : Nat, j ≤ ts.length ∧ i = .int .i64 j ∧ q = .int .i64 ((k + 3 * j : Nat) : Int) ∧ Keep (MixE k ts j wr g) ∧ (∀ j, wr.frozen? ⟨g, j, none⟩ = false) ∧ w.grownBy wr (some g)) (fun _ i _ => ts.length - (intOf i).toNat)
  case atStart => exact ⟨0, Nat.zero_le _, rfl, by simp, ⟨fun i h => by simpa using hcs i h⟩, hfz, ⟨rfl, rfl, rfl, Nat.le_refl _, fun _ _ _ => rfl⟩⟩
  case round =>
    obtain ⟨j, hj, rfl, rfl, hmix, hf, hg⟩ := hrel
    clear hcs hfz
    by_cases hlt : j < ts.length
    · have hlt' : (j : Int) < ts.length := by omega
      have hgr : g < wr.heap.size := Nat.lt_of_lt_of_le hgw hg.size
      go_wp2_with fail
      refine (markText_any (k + 3 * j) wr (by omega) (by omega)).mono ?_
      rintro e w1 ⟨rfl, hb1⟩
      have hmix1 : Keep (MixE k ts j w1 g) := ⟨fun i h => (hmix.out i h).later hb1⟩
      have hf1 : ∀ j, w1.frozen? ⟨g, j, none⟩ = false := fun j => (hb1.frozen (p := ⟨g, j, none⟩) hgr).trans (hf j)
      have hg1 := grown_trans hg (grown_below (row := some g) hb1)
      obtain ⟨x0, x1, x2⟩ := hmix1.out j hlt
      have hgr1 : g < w1.heap.size := Nat.lt_of_lt_of_le hgr hb1.size
      clear hmix hf hg hb1 hgr
      have hw1 : w1.heap.size ≤ (w1.setCell ⟨g, j * 3, none⟩ (.string (mkS (k + 3 * j)))).heap.size := by simp
      have hm2 := markText_any (k + 3 * j + 1) (w1.setCell ⟨g, j * 3, none⟩ (.string (mkS (k + 3 * j)))) (by omega) (by omega)
      rw [show ((k + 3 * j + 1 : Nat) : Int) = (k : Int) + 3 * (j : Int) + 1 by omega] at hm2
      go_wp2_with fail
      refine hm2.mono ?_
      rintro e w2 ⟨rfl, hb2⟩
      have hgr2 : g < w2.heap.size := Nat.lt_of_lt_of_le hgr1 (Nat.le_trans hw1 hb2.size)
      have hf2 : ∀ j, w2.frozen? ⟨g, j, none⟩ = false := fun i => (hb2.frozen (p := ⟨g, i, none⟩) (Nat.lt_of_lt_of_le hgr1 hw1)).trans ((World.frozen?_setCell _ _ _ _).trans (hf1 i))
      have hg2 := grown_trans (grown_trans hg1 (grown_setM w1 g (j * 3) (.string (mkS (k + 3 * j))))) (grown_below (row := some g) hb2)
      have y0 : w2.cell? ⟨g, j * 3, none⟩ = some (.string (mkS (k + 3 * j))) := cell_later hb2 (World.cell?_setCell_same _ _ _ x0)
      have y1 : w2.cell? ⟨g, j * 3 + 1, none⟩ = some (.string (if j < j then markEn (k + 3 * j) else ts[j]).text) := cell_later hb2 ((World.cell?_setCell_other _ _ _ _ (by intro e; injection e with _ e; omega)).trans x1)
      have y2 : w2.cell? ⟨g, j * 3 + 2, none⟩ = some (.bool (if j < j then markEn (k + 3 * j) else ts[j]).runs) := cell_later hb2 ((World.cell?_setCell_other _ _ _ _ (by intro e; injection e with _ e; omega)).trans x2)
      have hmix2 : Keep (∀ i (h : i < ts.length), i ≠ j → EAt w2 g i (if i < j then markEn (k + 3 * i) else ts[i])) := ⟨fun i h hne => ((hmix1.out i h).other (by omega)).later hb2⟩
      clear hmix1 hf1 hg1 hb2 hm2 x0 x1 x2 hgr1 hw1
      go_wp2
      go_roundw
      case rel =>
        refine ⟨j + 1, by omega, by go_num, by go_num, ⟨fun i h => ?_⟩, fun i => ?_, ?_⟩
        · by_cases e : i = j
          · subst e
            rw [if_pos (by omega)]
            refine ⟨?_, ?_, ?_⟩
            · rw [World.cell?_setCell_other _ _ _ _ (by intro e; injection e with _ e; omega), World.cell?_setCell_other _ _ _ _ (by intro e; injection e with _ e; omega)]
              exact y0
            · rw [World.cell?_setCell_other _ _ _ _ (by intro e; injection e with _ e; omega)]
              exact World.cell?_setCell_same _ _ _ y1
            · rw [World.cell?_setCell_same _ _ _ ((World.cell?_setCell_other _ _ _ _ (by intro e; injection e with _ e; omega)).trans y2), mark_rem k i]
              rfl
          · have h1 := hmix2.out i h e
            have h2 : (if i < j + 1 then markEn (k + 3 * i) else ts[i]) = if i < j then markEn (k + 3 * i) else ts[i] := by
              by_cases h3 : i < j
              · rw [if_pos h3, if_pos (by omega)]
              · rw [if_neg h3, if_neg (by omega)]
            rw [h2]
            exact (h1.other (by omega)).other (by omega)
        · rw [World.frozen?_setCell, World.frozen?_setCell]; exact hf2 i
        · exact grown_trans (grown_trans hg2 (grown_setM _ g _ _)) (grown_setM _ g _ _)
      case measure => simp [intOf]; omega
    · obtain rfl : j = ts.length := by omega
      go_wp2
      go_ret
      refine ⟨rfl, ?_, some g, hg, fun r h => by cases h; exact ⟨hpos, rfl⟩⟩
      refine .inr ⟨g, rfl, hBg, Nat.lt_of_lt_of_le hgw hg.size, hf, fun i hi => ?_⟩
      have hi' : i < ts.length := by rw [marksE_len] at hi; exact hi
      have := hmix.out i hi'
      rw [if_pos hi'] at this
      rw [marksE_at]
      exact this

set_option maxRecDepth 20000 in
set_option maxHeartbeats 1000000 in
theorem markTree_any (a : Option Addr) (cap : Nat) (ts : List En) (B : Nat) (w : World) (hel : EL B w a ts) (hn : ts.length ≤ 1048576) :
    Calls Tryz.prog 14 #[.agg #[.slice a ts.length cap], .int .i64 1] w fun e w' => MarkEPost w B a ts.length 1 e w' := by
  have hb0 : Below w.heap.size w (w.alloc (.cells #[.slice a ts.length cap] 25)) := (Below.refl _ _).alloc (Nat.le_refl _) _
  go_enter Tryz.func14, Tryz.ntmps14
  go_wp2_with fail
  refine (markEs_any a cap ts 1 B _ (hel.below hb0) (by omega) (by omega)).mono ?_
  rintro e w1 ⟨rfl, hel1, row, hg1, hr1⟩
  go_wp2
  go_ret
  exact ⟨rfl, hel1, row, grown_trans (grown_below hb0) hg1, hr1⟩
end Go.Proofs.YtjiafjdjocmodaaGreat

namespace Go.Proofs.YtjiafjdjocmodaaGreat
open Go.RowKit

/-- Entries of a call's own, in a block from B up and under C. -/
def EIn (B C : Nat) (w : World) (a : Option Addr) (ts : List En) : Prop :=
  ts = [] ∨ ∃ g, a = some ⟨g, 0, none⟩ ∧ B ≤ g ∧ g < C ∧ (∀ j, w.frozen? ⟨g, j, none⟩ = false) ∧ ∀ i (h : i < ts.length), EAt w g i ts[i]

theorem EL.ein {B C : Nat} {w : World} {a : Option Addr} {ts : List En} (h : EL B w a ts) (hC : w.heap.size ≤ C) : EIn B C w a ts := by
  rcases h with h | ⟨g, h1, h2, h3, h4⟩
  · exact .inl h
  · exact .inr ⟨g, h1, h2, Nat.lt_of_lt_of_le h3 hC, h4⟩
theorem EIn.el {B C : Nat} {w : World} {a : Option Addr} {ts : List En} (h : EIn B C w a ts) (hC : C ≤ w.heap.size) : EL B w a ts := by
  rcases h with h | ⟨g, h1, h2, h3, h4⟩
  · exact .inl h
  · exact .inr ⟨g, h1, h2, Nat.lt_of_lt_of_le h3 hC, h4⟩
theorem EIn.es {B C : Nat} {w : World} {a : Option Addr} {ts : List En} (h : EIn B C w a ts) : ES w a ts := by
  rcases h with h | ⟨g, h1, _, _, _, hc⟩
  · exact .inl h
  · exact .inr ⟨g, 0, h1, fun i hi => by rw [Nat.zero_add]; exact hc i hi⟩
theorem EIn.grown {B C : Nat} {w w' : World} {a : Option Addr} {ts : List En} {row : Option Nat} (h : EIn B C w a ts) (hC : C ≤ w.heap.size) (hg : w.grownBy w' row) (hne : ∀ r, row = some r → r < B ∨ C ≤ r) : EIn B C w' a ts := by
  rcases h with h | ⟨g, rfl, h1, h2, h3, h4⟩
  · exact .inl h
  · have hk := hg.block g (by omega) (fun e => by rcases hne g e.symm with h | h <;> omega)
    have hc : ∀ j, w'.cell? ⟨g, j, none⟩ = w.cell? ⟨g, j, none⟩ := fun j => World.cell?_of_block hk
    refine .inr ⟨g, rfl, h1, h2, fun j => ?_, fun i hi => ?_⟩
    · have := h3 j
      unfold World.frozen? at this ⊢
      simp only at this ⊢
      rw [hk]; exact this
    · unfold EAt
      rw [hc, hc, hc]; exact h4 i hi
theorem EIn.below {B C : Nat} {w w' : World} {a : Option Addr} {ts : List En} (h : EIn B C w a ts) (hC : C ≤ w.heap.size) (hb : Below w.heap.size w w') : EIn B C w' a ts :=
  h.grown hC (grown_below (row := none) hb) (fun _ e => by cases e)

theorem cell_grown {w w' : World} {row : Option Nat} {b : Nat} {v : Value} (h : w.cell? ⟨b, 0, none⟩ = some v) (hb : b < w.heap.size) (hg : w.grownBy w' row) (hne : ∀ r, row = some r → r ≠ b) : w'.cell? ⟨b, 0, none⟩ = some v :=
  (World.cell?_of_block (hg.block b hb (fun e => hne b e.symm rfl))).trans h

def MarkT (B C : Nat) (a : Option Addr) (n : Nat) (w : World) (e : Ending) (w' : World) : Prop :=
  e = .returned (.int .i64 ((1 + 3 * n : Nat) : Int)) ∧ EIn B C w' a (marksE 1 n) ∧ ∃ row, w.grownBy w' row ∧ ∀ r, row = some r → B ≤ r ∧ r < C

theorem markT_any (a : Option Addr) (cap : Nat) (ts : List En) (B C : Nat) (w : World) (h : EIn B C w a ts) (hC : C ≤ w.heap.size) (hn : ts.length ≤ 1048576) :
    Calls Tryz.prog 14 #[.agg #[.slice a ts.length cap], .int .i64 1] w fun e w' => MarkT B C a ts.length w e w' := by
  refine (markTree_any a cap ts B w (h.el hC) hn).mono ?_
  rintro e w' ⟨he, hel, row, hg, hr⟩
  refine ⟨he, ?_, row, hg, fun r e => ?_⟩
  · rcases h with h | ⟨g, rfl, h1, h2, _⟩
    · subst h; exact .inl rfl
    · rcases hel with h | ⟨g', e', h1', h2', h3'⟩
      · exact .inl h
      · cases e'
        exact .inr ⟨g, rfl, h1, h2, h3'⟩
  · obtain ⟨hp, ha⟩ := hr r e
    rcases h with h | ⟨g, rfl, h1, h2, _⟩
    · subst h; simp at hp
    · cases ha; exact ⟨h1, h2⟩

theorem ein_of_toTree {w' : World} {B g : Nat} {ts : List En} (hs : ES w' (some ⟨g, 0, none⟩) ts) (hB : B ≤ g) (hf : ∀ j, w'.frozen? ⟨g, j, none⟩ = false) (hl : g < w'.heap.size) : EIn B w'.heap.size w' (some ⟨g, 0, none⟩) ts := by
  rcases hs with h | ⟨b, off, ha, hc⟩
  · exact .inl h
  · cases ha
    refine .inr ⟨g, rfl, hB, hl, hf, fun i hi => ?_⟩
    have := hc i hi
    rw [Nat.zero_add] at this
    exact this
theorem below_marks {w0 w w' : World} {B C b : Nat} {row : Option Nat} (h : Below b w0 w) (hb : b ≤ w.heap.size) (hg : w.grownBy w' row) (hr : ∀ r, row = some r → B ≤ r ∧ r < C) (hB : b ≤ B) : Below b w0 w' :=
  h.grown hg hb (fun r e => by have := (hr r e).1; omega)

/-- Behind a call that gives a tree and a code: where they lie. -/
def CutR (R : List En → Int → Prop) (W1 : World) (p cc : Value) (W : World) : Prop :=
  ∃ us c ad cap n2 n3 nc, p = .pointer (some ⟨nc, 0, none⟩) ∧ cc = .int .i64 c ∧ R us c ∧ EIn n2 n3 W ad us ∧ W.cell? ⟨nc, 0, none⟩ = some (.slice ad us.length cap) ∧ W1.heap.size ≤ n2 ∧ n2 ≤ n3 ∧ n3 ≤ W.heap.size ∧ W1.heap.size ≤ nc ∧ nc < W.heap.size ∧ (nc < n2 ∨ n3 ≤ nc) ∧ Below W1.heap.size W1 W
/-- The tree's cell made behind the call. -/
theorem cutR_mk {R : List En → Int → Prop} {W1 Wb W : World} {us : List En} {c : Int} {ad : Option Addr} {cap : Nat} (hR : R us c) (hel : EL Wb.heap.size W ad us) (hs : W1.heap.size ≤ Wb.heap.size) (hbs : Wb.heap.size ≤ W.heap.size) (hb : Below W1.heap.size W1 W) :
    CutR R W1 (.pointer (some ⟨W.heap.size, 0, none⟩)) (.int .i64 c) (W.alloc (.cells #[.slice ad us.length cap] 25)) := by
  have hal : Below W.heap.size W (W.alloc (.cells #[.slice ad us.length cap] 25)) := (Below.refl _ _).alloc (Nat.le_refl _) _
  exact ⟨us, c, ad, cap, Wb.heap.size, W.heap.size, W.heap.size, rfl, rfl, hR, (hel.ein (Nat.le_refl _)).below (Nat.le_refl _) hal, by simp, hs, hbs, by simp, hb.size, by simp, .inr (Nat.le_refl _), hb.trans (hal.mono hb.size)⟩
/-- The tree's cell made ahead of the call. -/
theorem cutR_mk' {R : List En → Int → Prop} {W1 Wb W : World} {us : List En} {c : Int} {ad : Option Addr} {cap nc : Nat} {u : Value} (hR : R us c) (hel : EL Wb.heap.size W ad us) (hs : W1.heap.size ≤ nc) (hnc : nc < Wb.heap.size) (hbs : Wb.heap.size ≤ W.heap.size) (hb : Below W1.heap.size W1 W) (hc : W.cell? ⟨nc, 0, none⟩ = some u) :
    CutR R W1 (.pointer (some ⟨nc, 0, none⟩)) (.int .i64 c) (W.setCell ⟨nc, 0, none⟩ (.slice ad us.length cap)) := by
  have hg : W.grownBy (W.setCell ⟨nc, 0, none⟩ (.slice ad us.length cap)) (some nc) := grown_setM W nc 0 _
  exact ⟨us, c, ad, cap, Wb.heap.size, W.heap.size, nc, rfl, rfl, hR, (hel.ein (Nat.le_refl _)).grown (Nat.le_refl _) hg (fun r e => by cases e; exact .inl hnc), World.cell?_setCell_same _ _ _ hc, by omega, hbs, by simp, hs, by simp; omega, .inl hnc, hb.setCell (p := ⟨nc, 0, none⟩) hs _⟩

theorem cell_lt {W : World} {n : Nat} {u : Value} (hc : W.cell? ⟨n, 0, none⟩ = some u) : n < W.heap.size := by
  by_cases h : n < W.heap.size
  · exact h
  · unfold World.cell? at hc
    simp only at hc
    rw [Array.getElem?_eq_none (by omega)] at hc
    cases hc
theorem new_cell {W1 Y X : World} {t : TypeId} (hW : Below W1.heap.size W1 Y) (h : Below (Y.alloc (.cells #[.slice none 0 0] t)).heap.size (Y.alloc (.cells #[.slice none 0 0] t)) X) :
    X.cell? ⟨Y.heap.size, 0, none⟩ = some (.slice none 0 0) ∧ X.frozen? ⟨Y.heap.size, 0, none⟩ = false ∧ W1.heap.size ≤ Y.heap.size ∧ Y.heap.size < (Y.alloc (.cells #[.slice none 0 0] t)).heap.size :=
  ⟨cell_later h (by simp), (h.frozen (p := ⟨Y.heap.size, 0, none⟩) (by simp)).trans (by simp), hW.size, by simp⟩
theorem new_cellD {W1 Y X : World} {t : TypeId} (hW : Below W1.heap.size W1 Y) (h : Below (Y.alloc (.cells #[.slice none 0 0] t)).drew.heap.size (Y.alloc (.cells #[.slice none 0 0] t)).drew X) :
    X.cell? ⟨Y.heap.size, 0, none⟩ = some (.slice none 0 0) ∧ X.frozen? ⟨Y.heap.size, 0, none⟩ = false ∧ W1.heap.size ≤ Y.heap.size ∧ Y.heap.size < (Y.alloc (.cells #[.slice none 0 0] t)).drew.heap.size :=
  ⟨cell_later h (by simp), (h.frozen (p := ⟨Y.heap.size, 0, none⟩) (by simp)).trans (by simp), hW.size, by simp⟩
theorem keep_cell {W1 W X : World} {n : Nat} {u : Value} (hc : W.cell? ⟨n, 0, none⟩ = some u) (hf : W.frozen? ⟨n, 0, none⟩ = false) (hn : W1.heap.size ≤ n) (h : Below W.heap.size W X) :
    X.cell? ⟨n, 0, none⟩ = some u ∧ X.frozen? ⟨n, 0, none⟩ = false ∧ W1.heap.size ≤ n ∧ n < W.heap.size :=
  ⟨cell_later h hc, (h.frozen (p := ⟨n, 0, none⟩) (cell_lt hc)).trans hf, hn, cell_lt hc⟩
theorem cellAl {W : World} {b j : Nat} {u : Value} (h : W.cell? ⟨b, j, none⟩ = some u) (o : Obj) : (W.alloc o).cell? ⟨b, j, none⟩ = some u := cell_later ((Below.refl _ _).alloc (Nat.le_refl _) _) h
theorem belowAl {W1 W : World} (h : Below W1.heap.size W1 W) (o : Obj) : Below W1.heap.size W1 (W.alloc o) := h.alloc h.size o
end Go.Proofs.YtjiafjdjocmodaaGreat

namespace Go.Proofs.YtjiafjdjocmodaaGreat
open Go.RowKit

def MarkTK (B C : Nat) (a : Option Addr) (n k : Nat) (w : World) (e : Ending) (w' : World) : Prop :=
  e = .returned (.int .i64 ((k + 3 * n : Nat) : Int)) ∧ EIn B C w' a (marksE k n) ∧ ∃ row, w.grownBy w' row ∧ ∀ r, row = some r → B ≤ r ∧ r < C

/-- A tree in a box. -/
structure Itm (W : World) (b B D : Nat) (ad : Option Addr) (cap : Nat) (us : List En) : Prop where
  cell : W.cell? ⟨b, 0, none⟩ = some (.slice ad us.length cap)
  lst : EIn B D W ad us
  hi : D ≤ W.heap.size
theorem Itm.later {W W' : World} {b B D : Nat} {ad : Option Addr} {cap : Nat} {us : List En} (h : Itm W b B D ad cap us) (hb : Below W.heap.size W W') : Itm W' b B D ad cap us :=
  ⟨cell_later hb h.cell, h.lst.below h.hi hb, Nat.le_trans h.hi hb.size⟩
theorem Itm.grown {W W' : World} {b B D : Nat} {ad : Option Addr} {cap : Nat} {us : List En} {row : Option Nat} (h : Itm W b B D ad cap us) (hg : W.grownBy W' row) (hne : ∀ r, row = some r → r ≠ b ∧ (r < B ∨ D ≤ r)) : Itm W' b B D ad cap us :=
  ⟨cell_grown h.cell (cell_lt h.cell) hg (fun r e => (hne r e).1), h.lst.grown h.hi hg (fun r e => (hne r e).2), Nat.le_trans h.hi hg.size⟩
theorem Itm.es {W : World} {b B D : Nat} {ad : Option Addr} {cap : Nat} {us : List En} (h : Itm W b B D ad cap us) : ES W ad us := h.lst.es
/-- The tree's box is new. -/
theorem Itm.new {W : World} {B : Nat} {ad : Option Addr} {cap : Nat} {us : List En} (h : EIn B W.heap.size W ad us) : Itm (W.alloc (.cells #[.slice ad us.length cap] 25)) W.heap.size B W.heap.size ad cap us := by
  have hal : Below W.heap.size W (W.alloc (.cells #[.slice ad us.length cap] 25)) := (Below.refl _ _).alloc (Nat.le_refl _) _
  exact ⟨by simp, h.below (Nat.le_refl _) hal, by simp⟩

set_option maxRecDepth 20000 in
set_option maxHeartbeats 1000000 in
theorem markTK_any (k : Nat) (h0 : 0 < k) (hk : k ≤ 10485760) (a : Option Addr) (cap : Nat) (ts : List En) (B C : Nat) (w : World) (h : EIn B C w a ts) (hC : C ≤ w.heap.size) (hn : ts.length ≤ 1048576) :
    Calls Tryz.prog 14 #[.agg #[.slice a ts.length cap], .int .i64 k] w fun e w' => MarkTK B C a ts.length k w e w' := by
  have hb0 : Below w.heap.size w (w.alloc (.cells #[.slice a ts.length cap] 25)) := (Below.refl _ _).alloc (Nat.le_refl _) _
  go_enter Tryz.func14, Tryz.ntmps14
  go_wp2_with fail
  refine (markEs_any a cap ts k B _ ((h.el hC).below hb0) h0 (by omega)).mono ?_
  rintro e w1 ⟨rfl, hel1, row, hg1, hr1⟩
  go_wp2
  go_ret
  refine ⟨rfl, ?_, row, grown_trans (grown_below hb0) hg1, fun r e => ?_⟩
  · rcases h with h | ⟨g, rfl, h1, h2, _⟩
    · subst h; exact .inl rfl
    · rcases hel1 with h | ⟨g', e', h1', h2', h3'⟩
      · exact .inl h
      · cases e'
        exact .inr ⟨g, rfl, h1, h2, h3'⟩
  · obtain ⟨hp, ha⟩ := hr1 r e
    rcases h with h | ⟨g, rfl, h1, h2, _⟩
    · subst h; simp at hp
    · cases ha; exact ⟨h1, h2⟩
end Go.Proofs.YtjiafjdjocmodaaGreat

namespace Go.Proofs.YtjiafjdjocmodaaGreat
open Go.RowKit

set_option maxRecDepth 20000 in
set_option maxHeartbeats 2000000 in
theorem heldEs_any (a : Option Addr) (cap n k : Nat) (w : World) (hss : ES w a (marksE k n)) (h0 : 0 < k) (hk : k + 3 * n ≤ 1099511627776) :
    Calls Tryz.prog 74 #[.slice a n cap, .int .i64 k] w fun e w' => e = .returned (.int .i64 ((k + 3 * n : Nat) : Int)) ∧ Below w.heap.size w w' := by
  have HL : Keep ((marksE k n).length = n) := ⟨marksE_len k n⟩
  go_enter Tryz.func74, Tryz.ntmps74
  go_wp2
  go_loopw [1, 5] (fun q i wr => ∃ j : Nat, j ≤ n ∧ i = .int .i64 j ∧ q = .int .i64 ((k + 3 * j : Nat) : Int) ∧ Below w.heap.size w wr) (fun _ i _ => n - (intOf i).toNat)
  case atStart => exact ⟨0, Nat.zero_le _, rfl, by simp, Below.refl _ _⟩
  case round =>
    obtain ⟨j, hj, rfl, rfl, hb⟩ := hrel
    by_cases hlt : j < n
    · have hlt' : (j : Int) < n := by omega
      have hjl : j < (marksE k n).length := by rw [HL.out]; exact hlt
      obtain ⟨b, off, rfl, hc⟩ := (hss.below hb).at hjl
      obtain ⟨c0, c1, c2⟩ := hc j hjl
      rw [marksE_at] at c0 c1 c2
      unfold markEn at c0 c1 c2
      simp only at c0 c1 c2
      clear hc hjl
      have hmk := markText_any (k + 3 * j) wr.drew (by omega) (by omega)
      have hs0 := bs_same (x := mkS (k + 3 * j)) rfl
      have hs1 := bs_same (x := mkS (k + 3 * j + 1)) rfl
      have HM1 : Keep (∀ W, Calls Tryz.prog 73 #[.int .i64 ((k : Int) + 3 * (j : Int) + 1)] W fun e w' => e = .returned (.string (mkS (k + 3 * j + 1))) ∧ Below W.heap.size W w') := ⟨fun W => by
        have := markText_any (k + 3 * j + 1) W (by omega) (by omega)
        rw [show ((k + 3 * j + 1 : Nat) : Int) = (k : Int) + 3 * (j : Int) + 1 by omega] at this
        exact this⟩
      have hrm := mark_rem k j
      generalize decide ((k + 3 * j + 2) % 3 = 0) = bb at *
      generalize mkS (k + 3 * j) = m0 at *
      generalize mkS (k + 3 * j + 1) = m1 at *
      go_wp2_with fail
      go_region_held3 (fun w' => w'.cell? ⟨b, off + j * 3, none⟩ = some (.string m0)) (first | go_keep | (exact e1))
        ((first | (go_at_call 73; refine hmk.mono ?_; rintro e w1 ⟨rfl, hb1⟩; have e1 := cell_later (w := wr.drew) hb1 c0)))
      have d1 : w1.cell? ⟨b, off + j * 3 + 1, none⟩ = some (.string m1) := cell_later (w := wr.drew) hb1 c1
      have d2 : w1.cell? ⟨b, off + j * 3 + 2, none⟩ = some (.bool bb) := cell_later (w := wr.drew) hb1 c2
      have hbx : Below w.heap.size w w1 := hb.drew.trans (hb1.mono hb.size)
      have hmk2 := HM1.out w1.drew
      clear hb1 hmk c0 c1 c2 e1
      go_wp2_with fail
      go_region_held3 (fun w' => w'.cell? ⟨b, off + j * 3 + 1, none⟩ = some (.string m1)) (first | go_keep | (exact e1))
        ((first | (go_at_call 73; refine hmk2.mono ?_; rintro e w2 ⟨rfl, hb2⟩; have e1 := cell_later (w := w1.drew) hb2 d1)))
      have d3 : w2.cell? ⟨b, off + j * 3 + 2, none⟩ = some (.bool bb) := cell_later (w := w1.drew) hb2 d2
      have hby : Below w.heap.size w w2 := hbx.drew.trans (hb2.mono hbx.size)
      clear hb2 hmk2 d1 d2 e1 hbx hb
      cases bb
      all_goals
        go_wp2
        go_roundw
        case rel => exact ⟨j + 1, by omega, by go_num, by go_num, hby⟩
        case measure => simp [intOf]; omega
    · obtain rfl : j = n := by omega
      go_wp2
      go_ret
      exact ⟨rfl, hb⟩

set_option maxRecDepth 20000 in
set_option maxHeartbeats 1000000 in
theorem heldTree_any (a : Option Addr) (cap n : Nat) (w : World) (hss : ES w a (marksE 1 n)) (hn : n ≤ 1048576) :
    Calls Tryz.prog 47 #[.agg #[.slice a n cap], .int .i64 1] w fun e w' => e = .returned (.int .i64 ((1 + 3 * n : Nat) : Int)) ∧ Below w.heap.size w w' := by
  have hb0 : Below w.heap.size w (w.alloc (.cells #[.slice a n cap] 25)) := (Below.refl _ _).alloc (Nat.le_refl _) _
  go_enter Tryz.func47, Tryz.ntmps47
  go_wp2_with fail
  refine (heldEs_any a cap n 1 _ (hss.below hb0) (by omega) (by omega)).mono ?_
  rintro e w1 ⟨rfl, hb1⟩
  have hd : ¬ ((1 + 3 * n : Nat) : Int) < 0 := by omega
  go_wp2
  go_ret
  exact ⟨rfl, hb0.trans (hb1.mono hb0.size)⟩
end Go.Proofs.YtjiafjdjocmodaaGreat

namespace Go.Proofs.YtjiafjdjocmodaaGreat
open Go.RowKit

def mixed (k : Nat) (ss : List ByteArray) (j : Nat) : List Value := (List.range ss.length).map fun i => if i < j then .string (mkS (k + i)) else .string (ss.getD i ⟨#[]⟩)
theorem mixed_zero (k : Nat) (ss : List ByteArray) : mixed k ss 0 = ss.map .string := by
  apply List.ext_getElem
  · simp [mixed]
  · intro i h1 h2
    simp [mixed] at h1 ⊢
    simp [h1]
theorem mixed_set (k : Nat) (ss : List ByteArray) (j : Nat) : (mixed k ss j).set j (.string (mkS (k + j))) = mixed k ss (j + 1) := by
  apply List.ext_getElem
  · simp [mixed]
  · intro i h1 h2
    simp only [mixed, List.length_map, List.length_range, List.length_set] at h1 h2
    simp only [mixed, List.getElem_set, List.getElem_map, List.getElem_range]
    by_cases hij : j = i
    · subst hij; simp
    · rw [if_neg hij]
      by_cases hlt : i < j
      · rw [if_pos hlt, if_pos (by omega)]
      · rw [if_neg hlt, if_neg (by omega)]
def marks (k n : Nat) : List ByteArray := (List.range n).map fun i => mkS (k + i)
theorem marks_len (k n : Nat) : (marks k n).length = n := by simp [marks]
theorem mixed_all (k : Nat) (ss : List ByteArray) : mixed k ss ss.length = (marks k ss.length).map .string := by
  apply List.ext_getElem
  · simp [mixed, marks]
  · intro i h1 h2
    simp [mixed] at h1
    simp [mixed, marks, h1]

def MarkPost (w : World) (B : Nat) (v : Value) (n k : Nat) (e : Ending) (w' : World) : Prop :=
  e = .returned (.int .i64 ((k + n : Nat) : Int)) ∧ w'.ownsRow B 9 1 v n ((marks k n).map .string) ∧ w.grownBy w' v.ownBlock

set_option maxRecDepth 20000 in
set_option maxHeartbeats 1000000 in
theorem markS_any (v : Value) (ss : List ByteArray) (k B : Nat) (w : World) (hown : w.ownsRow B 9 1 v ss.length (ss.map .string)) (h0 : 0 < k) (hk : k + ss.length ≤ 1099511627776) :
    Calls Tryz.prog 46 #[v, .int .i64 k] w fun e w' => MarkPost w B v ss.length k e w' := by
  obtain ⟨ad, cap, hv⟩ := owns_slice hown
  have hsome : 0 < ss.length → ∃ g, ad = some ⟨g, 0, none⟩ := fun hpos => by
    rcases hown.2 with ⟨_, h⟩ | ⟨g, c, cur, hv', _⟩
    · omega
    · rw [hv] at hv'; cases hv'; exact ⟨g, rfl⟩
  have HV : Hid (v = .slice ad ss.length cap) := hv
  rw [hv]
  rw [hv] at hown
  clear hv
  go_enter Tryz.func46, Tryz.ntmps46
  go_wp2
  go_loopw [1, 5] (fun q i wr => ∃ j : Nat, j ≤ ss.length ∧ i = .int .i64 j ∧ q = .int .i64 ((k + j : Nat) : Int) ∧ wr.ownsRow B 9 1 (.slice ad ss.length cap) ss.length (mixed k ss j) ∧ w.grownBy wr (Value.slice ad ss.length cap).ownBlock) (fun _ i _ => ss.length - (intOf i).toNat)
  case atStart => exact ⟨0, Nat.zero_le _, rfl, rfl, by rw [mixed_zero]; exact hown, ⟨rfl, rfl, rfl, Nat.le_refl _, fun _ _ _ => rfl⟩⟩
  case round =>
    obtain ⟨j, hj, rfl, rfl, hownr, hg⟩ := hrel
    by_cases hlt : j < ss.length
    · obtain ⟨g, rfl⟩ := hsome (by omega)
      go_wp2_with fail
      refine (markText_any (k + j) wr (by omega) (by omega)).mono ?_
      rintro e w1 ⟨rfl, hb1⟩
      have hown1 := owns_below hownr hb1
      have hfz := hown1.frozenAt j
      have hcw := hown1.cellAt j (by omega)
      have hcw' : ∃ u, w1.cell? ⟨g, j, none⟩ = some u := by
        rw [hcw]; exact ⟨_, List.getElem?_eq_getElem (by rw [hown1.1]; omega)⟩
      obtain ⟨u, hu⟩ := hcw'
      have hst := hown1.stored j (.string (mkS (k + j)))
      rw [mixed_set k ss j] at hst
      have hg1 : w.grownBy w1 (Value.slice (some ⟨g, 0, none⟩) ss.length cap).ownBlock := grown_trans hg (grown_below hb1)
      clear hcw hownr hown
      go_wp2
      go_roundw
      case rel => exact ⟨j + 1, by omega, by go_num, by go_num, hst.1, grown_trans hg1 (grown_setM w1 g j _)⟩
      case measure => simp [intOf]; omega
    · obtain rfl : j = ss.length := by omega
      go_wp2
      go_ret
      refine ⟨rfl, ?_, hg⟩
      rw [← mixed_all]
      exact hownr

end Go.Proofs.YtjiafjdjocmodaaGreat

namespace Go.Proofs.YtjiafjdjocmodaaGreat
open Go.RowKit

set_option maxRecDepth 20000 in
set_option maxHeartbeats 1000000 in
theorem heldS_any (a : Option Addr) (cap n k : Nat) (w : World) (hss : SS w a (marks k n)) (h0 : 0 < k) (hk : k + n ≤ 1099511627776) :
    Calls Tryz.prog 48 #[.slice a n cap, .int .i64 k] w fun e w' => e = .returned (.int .i64 ((k + n : Nat) : Int)) ∧ Below w.heap.size w w' := by
  have HL : Hid ((marks k n).length = n) := marks_len k n
  go_enter Tryz.func48, Tryz.ntmps48
  go_wp2
  go_loopw [1, 5] (fun q i wr => ∃ j : Nat, j ≤ n ∧ i = .int .i64 j ∧ q = .int .i64 ((k + j : Nat) : Int) ∧ Below w.heap.size w wr) (fun _ i _ => n - (intOf i).toNat)
  case atStart => exact ⟨0, Nat.zero_le _, rfl, rfl, Below.refl _ _⟩
  case round =>
    obtain ⟨j, hj, rfl, rfl, hb⟩ := hrel
    by_cases hlt : j < n
    · have hjl : j < (marks k n).length := by rw [HL.out]; exact hlt
      obtain ⟨b, off, rfl, hc⟩ := (hss.below hb).at hjl
      have hck : wr.cell? ⟨b, off + j, none⟩ = some (.string (mkS (k + j))) := by rw [hc j hjl]; simp [marks]
      have hmk := markText_any (k + j) wr.drew (by omega) (by omega)
      clear hc hjl
      have hsame := bs_same (x := mkS (k + j)) rfl
      generalize mkS (k + j) = mk at *
      go_wp2_with fail
      go_region_held3 (fun w' => w'.cell? ⟨b, off + j, none⟩ = some (.string mk)) (first | go_keep | (exact e1))
        ((first | (go_at_call 73; refine hmk.mono ?_; rintro e w1 ⟨rfl, hb1⟩; have e1 := cell_later (w := wr.drew) hb1 hck)))
      have hbx : Below w.heap.size w w1 := hb.drew.trans (hb1.mono hb.size)
      go_wp2
      go_roundw
      case rel => exact ⟨j + 1, by omega, by go_num, by go_num, hbx⟩
      case measure => simp [intOf]; omega
    · obtain rfl : j = n := by omega
      go_wp2
      go_ret
      exact ⟨rfl, hb⟩
end Go.Proofs.YtjiafjdjocmodaaGreat

namespace Go.Proofs.YtjiafjdjocmodaaGreat
open Go.RowKit

set_option maxHeartbeats 1000000 in
theorem eq_any (a a' : Option Addr) (cap cap' : Nat) (ss : List ByteArray) (w : World) (hss : SS w a ss) (hss' : SS w a' ss) (hn : ss.length ≤ 1048576) :
    Calls Tryz.prog 43 #[.slice a ss.length cap, .slice a' ss.length cap'] w fun e w' => e = .returned (.bool true) ∧ Below w.heap.size w w' := by
  go_enter Tryz.func43, Tryz.ntmps43
  go_wp2
  go_loopw [5] (fun i wr => ∃ k : Nat, k ≤ ss.length ∧ i = .int .i64 k ∧ Below w.heap.size w wr) (fun i _ => ss.length - (intOf i).toNat)
  case atStart => exact ⟨0, Nat.zero_le _, rfl, Below.refl _ _⟩
  case round =>
    obtain ⟨k, hk, rfl, hb⟩ := hrel
    by_cases hlt : k < ss.length
    · obtain ⟨b, off, rfl, hc⟩ := (hss.below hb).at hlt
      obtain ⟨b', off', rfl, hc'⟩ := (hss'.below hb).at hlt
      have hck := hc k hlt
      have hck' := hc' k hlt
      clear hc hc'
      go_wp2
      go_region
      all_goals (try go_wp2)
      go_roundw
      case rel => exact ⟨k + 1, by omega, by go_num, hb.drew⟩
      case measure => simp [intOf]; omega
    · obtain rfl : k = ss.length := by omega
      go_wp2
      go_ret
      exact ⟨rfl, hb⟩

end Go.Proofs.YtjiafjdjocmodaaGreat

namespace Go.Proofs.YtjiafjdjocmodaaGreat
open Go.RowKit

set_option maxRecDepth 20000 in
set_option maxHeartbeats 1000000 in
theorem szEntry_any (a : En) (L : Int) (w : World) (hL : 0 ≤ L ∧ L ≤ 1048576) (hm : a.path.size ≤ maxLen ∧ a.text.size ≤ maxLen) :
    Calls Tryz.prog 70 #[.agg #[.string a.path, .string a.text, .bool a.runs], .int .i64 L] w fun e w' => e = .returned (.int .i64 (if L - (a.path.size + a.text.size) < 0 then -1 else L - (a.path.size + a.text.size))) ∧ Below w.heap.size w w' := by
  unfold maxLen at hm
  obtain ⟨hm1, hm2⟩ := hm
  by_cases h1 : L - a.path.size < 0
  · rw [if_pos (by omega)]
    go_enter Tryz.func70, Tryz.ntmps70
    go_wp2
    go_ret
    exact ⟨rfl, (Below.refl _ _).alloc (Nat.le_refl _) _⟩
  by_cases h : L - a.path.size - a.text.size < 0
  · rw [if_pos (by omega)]
    go_enter Tryz.func70, Tryz.ntmps70
    go_wp2
    go_ret
    exact ⟨rfl, (Below.refl _ _).alloc (Nat.le_refl _) _⟩
  · rw [if_neg (by omega), show L - ((a.path.size : Int) + a.text.size) = L - a.path.size - a.text.size by omega]
    go_enter Tryz.func70, Tryz.ntmps70
    go_wp2
    go_ret
    exact ⟨rfl, (Below.refl _ _).alloc (Nat.le_refl _) _⟩

set_option maxRecDepth 20000 in
set_option maxHeartbeats 1000000 in
theorem szEntryS_any (a : Option Addr) (cap : Nat) (ts : List En) (w : World) (hss : ES w a ts) (hn : ts.length ≤ maxLen) (hm : ∀ s ∈ ts, s.path.size ≤ maxLen ∧ s.text.size ≤ maxLen) :
    Calls Tryz.prog 41 #[.slice a ts.length cap, .int .i64 1048576] w fun e w' => ∃ r : Int, e = .returned (.int .i64 r) ∧ Below w.heap.size w w' ∧ ((r = -1) ∨ (0 ≤ r ∧ ts.length + totalE ts ≤ 1048576)) := by
  unfold maxLen at hn
  by_cases h0 : (1048576 : Int) - ts.length < 0
  · go_enter Tryz.func41, Tryz.ntmps41
    go_wp2
    go_ret
    exact ⟨-1, rfl, Below.refl _ _, .inl rfl⟩
  · go_enter Tryz.func41, Tryz.ntmps41
    go_wp2
    go_loopw [1, 5] (fun l i wr => ∃ k : Nat, k ≤ ts.length ∧ i = .int .i64 k ∧ l = .int .i64 ((1048576 : Int) - ts.length - totalE (ts.take k)) ∧ ts.length + totalE (ts.take k) ≤ 1048576 ∧ Below w.heap.size w wr) (fun _ i _ => ts.length - (intOf i).toNat)
    case atStart => exact ⟨0, Nat.zero_le _, rfl, by simp [totalE], by simp [totalE]; omega, Below.refl _ _⟩
    case round =>
      obtain ⟨k, hk, rfl, rfl, hle, hb⟩ := hrel
      by_cases hlt : k < ts.length
      · obtain ⟨b, off, rfl, hc⟩ := (hss.below hb).at hlt
        obtain ⟨c0, c1, c2⟩ := hc k hlt
        have HT : Hid (totalE (ts.take (k + 1)) = totalE (ts.take k) + (ts[k].path.size + ts[k].text.size)) := totalE_take ts k hlt
        have hsz := hm ts[k] (List.getElem_mem hlt)
        generalize totalE (ts.take k) = t at *
        clear hc
        go_wp2_with fail
        refine (szEntry_any ts[k] _ _ (by omega) hsz).mono ?_
        rintro e w1 ⟨rfl, hb1⟩
        by_cases hneg : (1048576 : Int) - ts.length - t - (ts[k].path.size + ts[k].text.size) < 0
        · rw [if_pos hneg]
          go_wp2
          go_ret
          exact ⟨-1, rfl, hb.trans (hb1.mono hb.size), .inl rfl⟩
        · rw [if_neg hneg]
          go_wp2
          go_roundw
          case rel => exact ⟨k + 1, by omega, by go_num, by rw [HT.out]; go_num, by rw [HT.out]; omega, hb.trans (hb1.mono hb.size)⟩
          case measure => simp [intOf]; omega
      · obtain rfl : k = ts.length := by omega
        go_wp2
        go_ret
        rw [List.take_length] at *
        exact ⟨_, rfl, hb, .inr ⟨by omega, hle⟩⟩

set_option maxRecDepth 20000 in
set_option maxHeartbeats 1000000 in
theorem szTree_any (a : Option Addr) (cap : Nat) (ts : List En) (w : World) (hss : ES w a ts) (hn : ts.length ≤ maxLen) (hm : ∀ s ∈ ts, s.path.size ≤ maxLen ∧ s.text.size ≤ maxLen) :
    Calls Tryz.prog 10 #[.agg #[.slice a ts.length cap], .int .i64 1048576] w fun e w' => ∃ r : Int, e = .returned (.int .i64 r) ∧ Below w.heap.size w w' ∧ ((r = -1) ∨ (0 ≤ r ∧ ts.length + totalE ts ≤ 1048576)) := by
  go_enter Tryz.func10, Tryz.ntmps10
  go_wp2_with fail
  refine (szEntryS_any a cap ts _ (hss.below ((Below.refl _ _).alloc (Nat.le_refl _) _)) hn hm).mono ?_
  rintro e w1 ⟨r, rfl, hb, hr⟩
  have hb0 : Below w.heap.size w w1 := ((Below.refl _ _).alloc (Nat.le_refl _) _).trans (hb.mono (by simp))
  rcases hr with rfl | ⟨h0, h1⟩
  · go_wp2
    go_ret
    exact ⟨-1, rfl, hb0, .inl rfl⟩
  · go_wp2
    go_ret
    exact ⟨r, rfl, hb0, .inr ⟨h0, h1⟩⟩

set_option maxRecDepth 20000 in
set_option maxHeartbeats 1000000 in
theorem toEntry_any (a : En) (w : World) :
    Calls Tryz.prog 71 #[.agg #[.string a.path, .string a.text, .bool a.runs]] w fun e w' => e = .returned (.agg #[.string a.path, .string a.text, .bool a.runs]) ∧ Below w.heap.size w w' := by
  go_enter Tryz.func71, Tryz.ntmps71
  go_wp2
  refine bodyPost_ret (v := .agg #[.string a.path, .string a.text, .bool a.runs]) ?_ rfl ⟨rfl, ?_⟩
  · go_light
    simp [results, Tryz.results71, go_sem]
  · exact (((Below.refl _ _).alloc (Nat.le_refl _) _).alloc (by simp) _).alloc (by simp; omega) _

set_option maxRecDepth 20000 in
set_option maxHeartbeats 1000000 in
theorem toEntryS_any (a : Option Addr) (cap : Nat) (ts : List En) (w : World) (hss : ES w a ts) (hn : ts.length ≤ 1048576) :
    Calls Tryz.prog 42 #[.slice a ts.length cap] w fun e w' => e = .returned (.slice (some ⟨w.heap.size, 0, none⟩) ts.length ts.length) ∧ ES w' (some ⟨w.heap.size, 0, none⟩) ts ∧ Below w.heap.size w w' ∧ (∀ j, w'.frozen? ⟨w.heap.size, j, none⟩ = false) ∧ w.heap.size < w'.heap.size := by
  obtain ⟨i0, hi, hz0, hz1, hz2⟩ := info_parts Tryz.infoEntry
  go_enter Tryz.func42, Tryz.ntmps42
  go_wp2_with (at_make; refine wpList_make_full _ rfl _ _ 23 rfl w.heap.size 55 i0 _ 3 Tryz.underlying23 hi hz0 hz1 .i64 .i64 _ _ ts.length rfl rfl rfl rfl (by rw [hz2]; omega) (by unfold maxLen; omega) (Nat.le_refl _) ?_; intro w1 hown1 hgrow1)
  go_loopw [4] (fun i wr => ∃ k : Nat, k ≤ ts.length ∧ i = .int .i64 k ∧ (∀ j, j < ts.length * 3 → ∃ u, wr.cell? ⟨w.heap.size, j, none⟩ = some u) ∧ (∀ j, wr.frozen? ⟨w.heap.size, j, none⟩ = false) ∧ (∀ i (h : i < ts.length), i < k → wr.cell? ⟨w.heap.size, 0 + i * 3, none⟩ = some (.string ts[i].path) ∧ wr.cell? ⟨w.heap.size, 0 + i * 3 + 1, none⟩ = some (.string ts[i].text) ∧ wr.cell? ⟨w.heap.size, 0 + i * 3 + 2, none⟩ = some (.bool ts[i].runs)) ∧ Below w.heap.size w wr ∧ w.heap.size < wr.heap.size) (fun i _ => ts.length - (intOf i).toNat)
  case atStart =>
    refine ⟨0, Nat.zero_le _, rfl, fun j hj => ?_, fun j => hown1.frozenAt j, fun i h hi => absurd hi (by omega), (Below.refl _ _).grown hgrow1 (Nat.le_refl _) (fun k hk => by cases hk), ?_⟩
    · rw [hown1.cellAt j hj]
      exact ⟨_, List.getElem?_eq_getElem (by rw [hown1.1]; exact hj)⟩
    · rcases hown1.2 with ⟨h, _⟩ | ⟨g, c, cur, h, _, hg, _⟩
      · simp at h
      · simp at h
        obtain ⟨rfl, _⟩ := h
        exact (Array.getElem?_eq_some_iff.1 hg).1
  case round =>
    obtain ⟨k, hk, rfl, hsome, hfr, hdone, hb, hsz⟩ := hrel
    clear hown1 hgrow1
    by_cases hlt : k < ts.length
    · obtain ⟨b, off, rfl, hc⟩ := (hss.below hb).at hlt
      obtain ⟨c0, c1, c2⟩ := hc k hlt
      clear hc
      go_wp2_with fail
      refine (toEntry_any ts[k] _).mono ?_
      rintro e w2 ⟨rfl, hb2⟩
      obtain ⟨u0, e0⟩ := hsome (k * 3) (by omega)
      obtain ⟨u1, e1⟩ := hsome (k * 3 + 1) (by omega)
      obtain ⟨u2, e2⟩ := hsome (k * 3 + 2) (by omega)
      have e0 := cell_later hb2 e0
      have e1 := cell_later hb2 e1
      have e2 := cell_later hb2 e2
      have f : ∀ j, w2.frozen? ⟨w.heap.size, j, none⟩ = false := fun j => by rw [hb2.frozen (p := ⟨w.heap.size, j, none⟩) hsz]; exact hfr j
      have HS : Hid (∀ j, j < ts.length * 3 → ∃ u, w2.cell? ⟨w.heap.size, j, none⟩ = some u) := fun j hj => (hsome j hj).imp fun u hu => cell_later hb2 hu
      have HD : Hid (∀ i (h : i < ts.length), i < k → w2.cell? ⟨w.heap.size, 0 + i * 3, none⟩ = some (.string ts[i].path) ∧ w2.cell? ⟨w.heap.size, 0 + i * 3 + 1, none⟩ = some (.string ts[i].text) ∧ w2.cell? ⟨w.heap.size, 0 + i * 3 + 2, none⟩ = some (.bool ts[i].runs)) := fun i h hi => ⟨cell_later hb2 (hdone i h hi).1, cell_later hb2 (hdone i h hi).2.1, cell_later hb2 (hdone i h hi).2.2⟩
      clear hsome hdone c0 c1 c2 hfr
      go_wp2
      have hit := setE_hit (v0 := .string ts[k].path) (v1 := .string ts[k].text) (v2 := .bool ts[k].runs) e0 e1 e2
      go_roundw
      case rel =>
        refine ⟨k + 1, by omega, by go_num, ?_, ?_, ?_, setE_below (hb.trans (hb2.mono hb.size)) (Nat.le_refl _), ?_⟩
        · intro j hj
          by_cases hjk : j < k * 3 ∨ k * 3 + 3 ≤ j
          · obtain ⟨u, hu⟩ := HS.out j hj
            exact ⟨u, (setE_other hjk).trans hu⟩
          · rcases (show j = k * 3 ∨ j = k * 3 + 1 ∨ j = k * 3 + 2 by omega) with rfl | rfl | rfl
            · exact ⟨_, hit.1⟩
            · exact ⟨_, hit.2.1⟩
            · exact ⟨_, hit.2.2⟩
        · intro j; exact (setE_frozen _).trans (f j)
        · intro i hi hik
          by_cases hx : i = k
          · subst hx
            simp only [Nat.zero_add]
            exact hit
          · obtain ⟨d0, d1, d2⟩ := HD.out i hi (by omega)
            exact ⟨(setE_other (by omega)).trans d0, (setE_other (by omega)).trans d1, (setE_other (by omega)).trans d2⟩
        · have := hb2.size
          simp [World.setCell]
          omega
      case measure => simp [intOf]; omega
    · obtain rfl : k = ts.length := by omega
      go_wp2
      go_ret
      exact ⟨rfl, .inr ⟨_, 0, rfl, fun i hi => hdone i hi hi⟩, hb, hfr, hsz⟩

set_option maxRecDepth 20000 in
set_option maxHeartbeats 1000000 in
theorem toTree_any (a : Option Addr) (cap : Nat) (ts : List En) (w : World) (hss : ES w a ts) (hn : ts.length ≤ 1048576) :
    Calls Tryz.prog 11 #[.agg #[.slice a ts.length cap]] w fun e w' => ∃ g, e = .returned (.agg #[.slice (some ⟨g, 0, none⟩) ts.length ts.length]) ∧ ES w' (some ⟨g, 0, none⟩) ts ∧ Below w.heap.size w w' ∧ w.heap.size ≤ g ∧ (∀ j, w'.frozen? ⟨g, j, none⟩ = false) ∧ g < w'.heap.size := by
  go_enter Tryz.func11, Tryz.ntmps11
  go_wp2_with fail
  refine (toEntryS_any a cap ts _ (hss.below ((((Below.refl _ _).alloc (Nat.le_refl _) _).alloc (by simp) _).alloc (by simp; omega) _)) hn).mono ?_
  rintro e w1 ⟨rfl, hs1, hb1, hf1, hl1⟩
  have hz := hb1.size
  have HF : Hid (∀ j, w1.frozen? ⟨w.heap.size + 1 + 1 + 1, j, none⟩ = false) := fun j => by have := hf1 j; simpa using this
  have HLt : Hid (w.heap.size + 1 + 1 + 1 < w1.heap.size) := by have := hl1; simp at this; exact this
  clear hf1 hl1
  have d2 := hb1.cell (p := ⟨w.heap.size + 1 + 1, 0, none⟩) (by simp)
  have d1 := hb1.cell (p := ⟨w.heap.size + 1, 0, none⟩) (by simp)
  have f2 := hb1.frozen (p := ⟨w.heap.size + 1 + 1, 0, none⟩) (by simp)
  have f1 := hb1.frozen (p := ⟨w.heap.size + 1, 0, none⟩) (by simp)
  simp [go_sem] at d1 d2 f1 f2 hz
  have hb0 : Below w.heap.size w w1 := ((((Below.refl _ _).alloc (Nat.le_refl _) _).alloc (by simp) _).alloc (by simp; omega) _).trans (hb1.mono (by simp; omega))
  go_wp2
  refine bodyPost_ret (v := .agg #[.slice (some ⟨w.heap.size + 1 + 1 + 1, 0, none⟩) ts.length ts.length]) ?_ rfl ⟨w.heap.size + 1 + 1 + 1, rfl, ?_, ?_, by omega, fun j => ?_, ?_⟩
  · go_light
    simp [results, Tryz.results11, go_sem, d1]
  · simp at hs1
    exact hs1.set_other (by simp) |>.set_other (by simp)
  · exact (hb0.setCell (by simp; omega) _).setCell (by simp) _
  · rw [World.frozen?_setCell, World.frozen?_setCell]; exact HF.out j
  · simp; exact HLt.out

set_option maxRecDepth 20000 in
set_option maxHeartbeats 1000000 in
theorem eqEntry_any (a : En) (w : World) :
    Calls Tryz.prog 72 #[.agg #[.string a.path, .string a.text, .bool a.runs], .agg #[.string a.path, .string a.text, .bool a.runs]] w fun e w' => e = .returned (.bool true) ∧ Below w.heap.size w w' := by
  go_enter Tryz.func72, Tryz.ntmps72
  go_wp2
  go_ret
  exact ⟨rfl, ((Below.refl _ _).alloc (Nat.le_refl _) _).alloc (by simp) _⟩

set_option maxRecDepth 20000 in
set_option maxHeartbeats 1000000 in
theorem eqEntryS_any (a a' : Option Addr) (cap cap' : Nat) (ts : List En) (w : World) (hss : ES w a ts) (hss' : ES w a' ts) (hn : ts.length ≤ 1048576) :
    Calls Tryz.prog 44 #[.slice a ts.length cap, .slice a' ts.length cap'] w fun e w' => e = .returned (.bool true) ∧ Below w.heap.size w w' := by
  go_enter Tryz.func44, Tryz.ntmps44
  go_wp2
  go_loopw [5] (fun i wr => ∃ k : Nat, k ≤ ts.length ∧ i = .int .i64 k ∧ Below w.heap.size w wr) (fun i _ => ts.length - (intOf i).toNat)
  case atStart => exact ⟨0, Nat.zero_le _, rfl, Below.refl _ _⟩
  case round =>
    obtain ⟨k, hk, rfl, hb⟩ := hrel
    by_cases hlt : k < ts.length
    · obtain ⟨b, off, rfl, hc⟩ := (hss.below hb).at hlt
      obtain ⟨b', off', rfl, hc'⟩ := (hss'.below hb).at hlt
      obtain ⟨c0, c1, c2⟩ := hc k hlt
      obtain ⟨d0, d1, d2⟩ := hc' k hlt
      clear hc hc'
      go_wp2
      go_region_with (go_at_call 72; refine (eqEntry_any ts[k] _).mono ?_; rintro e w2 ⟨rfl, hb2⟩)
      all_goals go_wp2
      all_goals go_roundw
      all_goals first | exact ⟨k + 1, by omega, by go_num, hb.drew.trans (hb2.mono hb.size)⟩ | (simp [intOf]; omega)
    · obtain rfl : k = ts.length := by omega
      go_wp2
      go_ret
      exact ⟨rfl, hb⟩

set_option maxRecDepth 20000 in
set_option maxHeartbeats 1000000 in
theorem eqTree_any (a a' : Option Addr) (cap cap' : Nat) (ts : List En) (w : World) (hss : ES w a ts) (hss' : ES w a' ts) (hn : ts.length ≤ 1048576) :
    Calls Tryz.prog 13 #[.agg #[.slice a ts.length cap], .agg #[.slice a' ts.length cap']] w fun e w' => e = .returned (.bool true) ∧ Below w.heap.size w w' := by
  have hb0 : ∀ o1 o2, Below w.heap.size w ((w.alloc o1).alloc o2) := fun o1 o2 => ((Below.refl _ _).alloc (Nat.le_refl _) _).alloc (by simp) _
  go_enter Tryz.func13, Tryz.ntmps13
  go_wp2_with fail
  refine (eqEntryS_any a a' cap cap' ts _ (hss.below (hb0 _ _)) (hss'.below (hb0 _ _)) hn).mono ?_
  rintro e w1 ⟨rfl, hb1⟩
  go_wp2
  go_ret
  exact ⟨rfl, (hb0 _ _).trans (hb1.mono (hb0 _ _).size)⟩
end Go.Proofs.YtjiafjdjocmodaaGreat

namespace Go.Proofs.YtjiafjdjocmodaaGreat
open Go.RowKit

theorem mg_side {F : MrgF} {bs xs ys us : List En} {c : Int} {ks : List ByteArray} (h : MgRel F bs xs ys c us ks) : us = [] ∨ ks = [] := by
  rcases h with ⟨_, _, h, _⟩ | ⟨_, _, _, ⟨_, _, h, _⟩ | ⟨_, ⟨_, _, _, h⟩ | ⟨_, _, h, _⟩⟩⟩
  · exact .inl h
  · exact .inl h
  · exact .inr h
  · exact .inl h
theorem mg_few' {F : MrgF} {bs xs ys us : List En} {c : Int} {ks : List ByteArray} (h : MgRel F bs xs ys c us ks) : us.length ≤ 1000 ∧ ks.length ≤ 1000 := by
  by_cases hv : ValidTs bs ∧ ValidTs xs ∧ ValidTs ys
  · exact mg_few h (by have := hv.1.1; omega) (by have := hv.2.1.1; omega) (by have := hv.2.2.1; omega)
  · rcases h with ⟨_, _, rfl, rfl⟩ | ⟨h1, h2, h3, _⟩
    · simp
    · exact absurd ⟨h1, h2, h3⟩ hv
/-- What Merge gives, in a box; its rows lie from B up and under D. -/
structure MItm (W : World) (b B D : Nat) (c : Int) (us : List En) (ad : Option Addr) (cp : Nat) (ks : List ByteArray) (ak : Option Addr) (ck : Nat) : Prop where
  c0 : W.cell? ⟨b, 0, none⟩ = some (.int .i64 c)
  c1 : W.cell? ⟨b, 1, none⟩ = some (.slice ad us.length cp)
  c2 : W.cell? ⟨b, 2, none⟩ = some (.slice ak ks.length ck)
  lst : EIn B D W ad us
  row : W.ownsRow B 9 1 (.slice ak ks.length ck) ks.length (ks.map .string)
  rlt : ∀ g, (Value.slice ak ks.length ck).ownBlock = some g → g < D
  hi : D ≤ W.heap.size
section
variable {W W' : World} {b B D : Nat} {c : Int} {us : List En} {ad : Option Addr} {cp : Nat} {ks : List ByteArray} {ak : Option Addr} {ck : Nat}
theorem MItm.lt (h : MItm W b B D c us ad cp ks ak ck) : b < W.heap.size := World.block_lt_of_cell? W ⟨b, 0, none⟩ h.c0
theorem MItm.later (h : MItm W b B D c us ad cp ks ak ck) (hb : Below W.heap.size W W') : MItm W' b B D c us ad cp ks ak ck :=
  ⟨cell_later hb h.c0, cell_later hb h.c1, cell_later hb h.c2, h.lst.below h.hi hb, owns_below h.row hb, h.rlt, Nat.le_trans h.hi hb.size⟩
theorem MItm.grown {row : Option Nat} (h : MItm W b B D c us ad cp ks ak ck) (hg : W.grownBy W' row) (hne : ∀ r, row = some r → r ≠ b ∧ (r < B ∨ D ≤ r)) : MItm W' b B D c us ad cp ks ak ck := by
  have hb := hg.block b h.lt (fun e => (hne b e.symm).1 rfl)
  refine ⟨(World.cell?_of_block hb).trans h.c0, (World.cell?_of_block hb).trans h.c1, (World.cell?_of_block hb).trans h.c2, h.lst.grown h.hi hg (fun r e => (hne r e).2), h.row.kept hg ?_, h.rlt, Nat.le_trans h.hi hg.size⟩
  cases ha : (Value.slice ak ks.length ck).ownBlock with
  | none => exact .inl rfl
  | some g =>
    refine .inr fun e => ?_
    have h1 := owns_row_ge h.row ha
    have h2 := h.rlt g ha
    have h3 := (hne g e.symm).2
    omega
theorem MItm.ss (h : MItm W b B D c us ad cp ks ak ck) : SS W ak ks := ss_of_rowM h.row
end
/-- What Merge gives, as MItm. -/
theorem MItm.new {W : World} {t : TypeId} {c : Int} {us : List En} {ad : Option Addr} {cp : Nat} {ks : List ByteArray} {ak : Option Addr} {ck B : Nat} (h1 : EL B W ad us) (h2 : W.ownsRow B 9 1 (.slice ak ks.length ck) ks.length (ks.map .string)) : MItm (W.alloc (.cells #[.int .i64 c, .slice ad us.length cp, .slice ak ks.length ck] t)) W.heap.size B W.heap.size c us ad cp ks ak ck :=
  have hal := below_oneD W (.cells #[.int .i64 c, .slice ad us.length cp, .slice ak ks.length ck] t)
  ⟨by simp, by simp, by simp, (h1.ein (Nat.le_refl _)).below (Nat.le_refl _) hal, owns_below h2 hal, fun _ e => owns_lt h2 e, by simp⟩

set_option maxRecDepth 100000 in
set_option maxHeartbeats 2000000 in
theorem eqMerged_any (c : Int) (us : List En) (ks : List ByteArray) (a b ak bk : Option Addr) (ca cb cak cbk : Nat) (w : World) (h1 : ES w a us) (h2 : ES w b us) (h3 : SS w ak ks) (h4 : SS w bk ks) (hn : us.length ≤ 1000000) (hk : ks.length ≤ 1000000) :
    Calls Tryz.prog 12 #[.agg #[.int .i64 c, .slice a us.length ca, .slice ak ks.length cak], .agg #[.int .i64 c, .slice b us.length cb, .slice bk ks.length cbk]] w fun e w' => e = .returned (.bool true) ∧ Below w.heap.size w w' := by
  have hq1 := below_oneD w (.cells #[.int .i64 c, .slice a us.length ca, .slice ak ks.length cak] 30)
  have hq2 := below_oneD (w.alloc (.cells #[.int .i64 c, .slice a us.length ca, .slice ak ks.length cak] 30)) (.cells #[.int .i64 c, .slice b us.length cb, .slice bk ks.length cbk] 30)
  have hb := kept_below hq1 hq2
  have A := (MBx.new (c := c) (cp := ca) (ck := cak) (t := 30) h1 h3).later hq2
  have B := MBx.new (c := c) (cp := cb) (ck := cbk) (t := 30) (h2.below hq1) (h4.below hq1)
  have hsz : (w.alloc (.cells #[.int .i64 c, .slice a us.length ca, .slice ak ks.length cak] 30)).heap.size = w.heap.size + 1 := by simp
  rw [hsz] at B
  have hcc : (c != c) = false := by simp
  have hcd : (c == c) = true := by simp
  clear hq1 hq2 hsz
  go_enter Tryz.func12, Tryz.ntmps12
  go_upto_region 1 with fail
  generalize (w.alloc (.cells #[.int .i64 c, .slice a us.length ca, .slice ak ks.length cak] 30)).alloc (.cells #[.int .i64 c, .slice b us.length cb, .slice bk ks.length cbk] 30) = W at *
  generalize w.heap.size + 1 = b3 at *
  obtain ⟨b2, hb2⟩ : ∃ b2, b2 = w.heap.size := ⟨_, rfl⟩
  rw [← hb2] at A ⊢
  have HB : Keep (Below w.heap.size w W) := ⟨hb⟩
  rw [← hb2] at hb
  clear hb hb2
  have x0 := A.c0
  have x1 := A.c1
  have y0 := B.c0
  have y1 := B.c1
  go_wp2_with fail
  refine (eqTree_any a b ca cb us W A.es B.es (by omega)).mono ?_
  rintro e w1 ⟨rfl, hb1⟩
  replace A := A.later hb1
  replace B := B.later hb1
  clear x0 x1 y0 y1
  have x2 := A.c2
  have y2 := B.c2
  go_wp2_with fail
  refine (eq_any ak bk cak cbk ks w1 A.ss B.ss (by omega)).mono ?_
  rintro e w2 ⟨rfl, hb2⟩
  go_wp2
  go_ret
  exact ⟨rfl, kept_below HB.out (kept_below hb1 hb2)⟩

set_option maxRecDepth 20000 in
set_option maxHeartbeats 1000000 in
theorem markS_none (ak : Option Addr) (ck k : Nat) (w : World) : Calls Tryz.prog 46 #[.slice ak 0 ck, .int .i64 k] w fun e w' => e = .returned (.int .i64 k) ∧ w' = w := by
  go_enter Tryz.func46, Tryz.ntmps46
  go_wp2
  go_loopw [1, 5] (fun q i wr => i = .int .i64 0 ∧ q = .int .i64 (k : Int) ∧ wr = w) (fun _ _ _ => 0)
  case atStart => exact ⟨rfl, rfl, rfl⟩
  case round =>
    obtain ⟨rfl, rfl, rfl⟩ := hrel
    go_wp2
    go_ret
    exact ⟨rfl, rfl⟩

/-- Behind markMerged. -/
def MarkM (B D : Nat) (us : List En) (ad : Option Addr) (ks : List ByteArray) (ak : Option Addr) (w : World) (e : Ending) (w' : World) : Prop :=
  e = .returned (.int .i64 ((1 + 3 * us.length + ks.length : Nat) : Int)) ∧ EIn B D w' ad (marksE 1 us.length) ∧ SS w' ak (marks (1 + 3 * us.length) ks.length) ∧ ∃ row, w.grownBy w' row ∧ ∀ r, row = some r → B ≤ r ∧ r < D

set_option maxRecDepth 100000 in
set_option maxHeartbeats 2000000 in
theorem markM_any (c : Int) (us : List En) (ad : Option Addr) (cp : Nat) (ks : List ByteArray) (ak : Option Addr) (ck B D : Nat) (w : World) (h1 : EIn B D w ad us) (h2 : w.ownsRow B 9 1 (.slice ak ks.length ck) ks.length (ks.map .string)) (h3 : ∀ g, (Value.slice ak ks.length ck).ownBlock = some g → g < D) (hD : D ≤ w.heap.size) (hside : us = [] ∨ ks = []) (hn : us.length ≤ 100000) (hk : ks.length ≤ 100000) :
    Calls Tryz.prog 15 #[.agg #[.int .i64 c, .slice ad us.length cp, .slice ak ks.length ck], .int .i64 1] w (MarkM B D us ad ks ak w) := by
  have hb := below_oneD w (.cells #[.int .i64 c, .slice ad us.length cp, .slice ak ks.length ck] 30)
  have x1 : (w.alloc (.cells #[.int .i64 c, .slice ad us.length cp, .slice ak ks.length ck] 30)).cell? ⟨w.heap.size, 1, none⟩ = some (.slice ad us.length cp) := by simp
  have x2 : (w.alloc (.cells #[.int .i64 c, .slice ad us.length cp, .slice ak ks.length ck] 30)).cell? ⟨w.heap.size, 2, none⟩ = some (.slice ak ks.length ck) := by simp
  have hsz : (w.alloc (.cells #[.int .i64 c, .slice ad us.length cp, .slice ak ks.length ck] 30)).heap.size = w.heap.size + 1 := by simp
  go_enter Tryz.func15, Tryz.ntmps15
  go_upto_region 1 with fail
  generalize w.alloc (.cells #[.int .i64 c, .slice ad us.length cp, .slice ak ks.length ck] 30) = W at *
  obtain ⟨b2, hb2⟩ : ∃ b2, b2 = w.heap.size := ⟨_, rfl⟩
  rw [← hb2] at x1 x2 ⊢
  have HB : Keep (Below w.heap.size w W ∧ b2 = w.heap.size ∧ W.heap.size = w.heap.size + 1) := ⟨⟨hb, hb2, hsz⟩⟩
  have hE := h1.below hD hb
  have hO := owns_below h2 hb
  clear hb hb2 hsz
  rcases hside with rfl | rfl
  · have hmk := markTK_any 1 (by omega) (by omega) ad cp [] 0 0 W (.inl rfl) (Nat.zero_le _) (by simp)
    go_wp2_with fail
    refine hmk.mono ?_
    rintro e w1 ⟨rfl, _, row, hg1, hr1⟩
    have hrow : row = none := by
      cases row with
      | none => rfl
      | some r => have := hr1 r rfl; omega
    subst hrow
    have x3 : w1.cell? ⟨b2, 2, none⟩ = some (.slice ak ks.length ck) := (World.cell?_of_block (hg1.block b2 (by have := HB.out; omega) (by simp))).trans x2
    have hO1 := hO.kept hg1 (by
      cases ha : (Value.slice ak ks.length ck).ownBlock with
      | none => exact .inl rfl
      | some g => exact .inr (by simp))
    clear hmk x1 x2 hE
    have hmk := markS_any (.slice ak ks.length ck) ks 1 B w1 hO1 (by omega) (by omega)
    go_wp2_with fail
    refine hmk.mono ?_
    rintro e w2 ⟨rfl, ho2, hg2⟩
    go_wp2
    go_ret
    refine ⟨by simp, .inl (by simp [marksE]), ?_, (Value.slice ak ks.length ck).ownBlock, ?_, fun r e => ⟨owns_row_ge h2 e, h3 r e⟩⟩
    · have hl : (marks 1 ks.length).length = ks.length := marks_len _ _
      have ho3 : w2.ownsRow B 9 1 (.slice ak (marks 1 ks.length).length ck) (marks 1 ks.length).length ((marks 1 ks.length).map .string) := by rw [hl]; exact ho2
      exact ss_of_rowM ho3
    · exact grown_trans (grown_trans (grown_below HB.out.1) ⟨hg1.os, hg1.tape, hg1.output, hg1.size, fun k hk _ => hg1.block k hk (by simp)⟩) hg2
  · have hmk := markTK_any 1 (by omega) (by omega) ad cp us B D W hE (by have := HB.out; omega) (by omega)
    go_wp2_with fail
    refine hmk.mono ?_
    rintro e w1 ⟨rfl, hm1, row, hg1, hr1⟩
    have x3 : w1.cell? ⟨b2, 2, none⟩ = some (.slice ak 0 ck) := (World.cell?_of_block (hg1.block b2 (by have := HB.out; omega) (fun e => by have := hr1 b2 e.symm; have := HB.out; omega))).trans x2
    clear hmk x1 x2 hE hO
    go_wp2_with fail
    refine (markS_none ak ck (1 + 3 * us.length) w1).mono ?_
    rintro e w2 ⟨rfl, rfl⟩
    go_wp2
    go_ret
    exact ⟨by simp, hm1, .inl (by simp [marks]), row, grown_trans (grown_below HB.out.1) hg1, hr1⟩

set_option maxRecDepth 100000 in
set_option maxHeartbeats 2000000 in
theorem heldM_any (c : Int) (n m : Nat) (ad : Option Addr) (cp : Nat) (ak : Option Addr) (ck : Nat) (w : World) (h1 : ES w ad (marksE 1 n)) (h2 : SS w ak (marks (1 + 3 * n) m)) (hn : n ≤ 100000) (hk : m ≤ 100000) :
    Calls Tryz.prog 16 #[.agg #[.int .i64 c, .slice ad n cp, .slice ak m ck], .int .i64 1] w fun e w' => e = .returned (.int .i64 ((1 + 3 * n + m : Nat) : Int)) ∧ Below w.heap.size w w' := by
  have hb := below_oneD w (.cells #[.int .i64 c, .slice ad n cp, .slice ak m ck] 30)
  have x1 : (w.alloc (.cells #[.int .i64 c, .slice ad n cp, .slice ak m ck] 30)).cell? ⟨w.heap.size, 1, none⟩ = some (.slice ad n cp) := by simp
  have x2 : (w.alloc (.cells #[.int .i64 c, .slice ad n cp, .slice ak m ck] 30)).cell? ⟨w.heap.size, 2, none⟩ = some (.slice ak m ck) := by simp
  go_enter Tryz.func16, Tryz.ntmps16
  go_upto_region 1 with fail
  generalize w.alloc (.cells #[.int .i64 c, .slice ad n cp, .slice ak m ck] 30) = W at *
  obtain ⟨b2, hb2⟩ : ∃ b2, b2 = w.heap.size := ⟨_, rfl⟩
  rw [← hb2] at x1 x2 ⊢
  have HB : Keep (Below w.heap.size w W) := ⟨hb⟩
  have hE := h1.below hb
  have hO := h2.below hb
  clear hb hb2
  go_wp2_with fail
  refine (heldTree_any ad cp n W hE (by omega)).mono ?_
  rintro e w1 ⟨rfl, hb1⟩
  have hneg : ¬ ((1 + 3 * n : Nat) : Int) < 0 := by omega
  have x3 := cell_later hb1 x2
  go_wp2_with fail
  refine (heldS_any ak ck m (1 + 3 * n) w1 (hO.below hb1) (by omega) (by omega)).mono ?_
  rintro e w2 ⟨rfl, hb2⟩
  have hneg2 : ¬ ((1 + 3 * n + m : Nat) : Int) < 0 := by omega
  go_wp2
  go_ret
  exact ⟨rfl, kept_below HB.out (kept_below hb1 hb2)⟩

/-- Behind the region: where what Merge gave lies. -/
def CutM (F : MrgF) (t1 t2 t3 : List En) (W1 : World) (p : Value) (W : World) : Prop :=
  ∃ c us ks ad cp ak ck n2 n3 nc, p = .pointer (some ⟨nc, 0, none⟩) ∧ MgRel F t1 t2 t3 c us ks ∧ MItm W nc n2 n3 c us ad cp ks ak ck ∧ W1.heap.size ≤ n2 ∧ n2 ≤ n3 ∧ W1.heap.size ≤ nc ∧ (nc < n2 ∨ n3 ≤ nc) ∧ Below W1.heap.size W1 W
/-- What Merge gave, in a slot. -/
structure MOut (F : MrgF) (t1 t2 t3 : List En) (W : World) (v : Value) (w : World) (c : Int) (us : List En) (ks : List ByteArray) (ad : Option Addr) (cp : Nat) (ak : Option Addr) (ck n2 n3 : Nat) : Prop where
  val : v = .agg #[.int .i64 c, .slice ad us.length cp, .slice ak ks.length ck]
  rel : MgRel F t1 t2 t3 c us ks
  lst : EIn n2 n3 w ad us
  row : w.ownsRow n2 9 1 (.slice ak ks.length ck) ks.length (ks.map .string)
  rlt : ∀ g, (Value.slice ak ks.length ck).ownBlock = some g → g < n3
  lo : W.heap.size ≤ n2
  le : n2 ≤ n3
  hi : n3 ≤ w.heap.size
theorem MOut.later {F : MrgF} {t1 t2 t3 : List En} {W : World} {v : Value} {w w' : World} {c : Int} {us : List En} {ks : List ByteArray} {ad : Option Addr} {cp : Nat} {ak : Option Addr} {ck n2 n3 : Nat} (h : MOut F t1 t2 t3 W v w c us ks ad cp ak ck n2 n3) (hb : Below w.heap.size w w') : MOut F t1 t2 t3 W v w' c us ks ad cp ak ck n2 n3 :=
  ⟨h.val, h.rel, h.lst.below h.hi hb, owns_below h.row hb, h.rlt, h.lo, h.le, Nat.le_trans h.hi hb.size⟩
/-- An empty box for it. -/
structure MB3 (b : Nat) (W : World) : Prop where
  c0 : W.cell? ⟨b, 0, none⟩ = some (.int .i64 0)
  c1 : W.cell? ⟨b, 1, none⟩ = some (.slice none 0 0)
  c2 : W.cell? ⟨b, 2, none⟩ = some (.slice none 0 0)
  fz : ∀ j, W.frozen? ⟨b, j, none⟩ = false
theorem MB3.lt {b : Nat} {W : World} (h : MB3 b W) : b < W.heap.size := World.block_lt_of_cell? W ⟨b, 0, none⟩ h.c0
theorem MB3.later {b : Nat} {W W' : World} (h : MB3 b W) (hb : Below W.heap.size W W') : MB3 b W' :=
  ⟨cell_later hb h.c0, cell_later hb h.c1, cell_later hb h.c2, fun j => (hb.frozen (p := ⟨b, j, none⟩) h.lt).trans (h.fz j)⟩
theorem MB3.new (W : World) (t : TypeId) : MB3 W.heap.size (W.alloc (.cells #[.int .i64 0, .slice none 0 0, .slice none 0 0] t)) := ⟨by simp, by simp, by simp, fun j => by simp⟩
def toE (ts : List En) (v : Value) (w : World) : Prop := ∃ g, v = .agg #[.slice (some ⟨g, 0, none⟩) ts.length ts.length] ∧ ES w (some ⟨g, 0, none⟩) ts
theorem toE.later {ts : List En} {v : Value} {w w' : World} (h : toE ts v w) (hb : Below w.heap.size w w') : toE ts v w' := by
  obtain ⟨g, h1, h2⟩ := h
  exact ⟨g, h1, h2.below hb⟩
def zEx (t1 t2 t3 : List En) (i : Nat) (v : Value) (w : World) : Prop := match i with
  | 1 => toE t1 v w
  | 3 => toE t2 v w
  | 5 => toE t3 v w
  | _ => True
theorem zEx_later {t1 t2 t3 : List En} {i : Nat} {v : Value} {w w' : World} (h : zEx t1 t2 t3 i v w) (hb : Below w.heap.size w w') : zEx t1 t2 t3 i v w' := by
  unfold zEx at h ⊢
  split
  · exact toE.later h hb
  · exact toE.later h hb
  · exact toE.later h hb
  · trivial
/-- The region that makes it: operations 1, 3, 5 copy the trees, 6 merges, 7 makes the box, 8 stores. -/
structure ZM (T0 : Array Value) (ds : List Nat) (tab : Nat → Option Value) (s6 s7 : Nat) (F : MrgF) (t1 t2 t3 : List En) (W : World) (L : Array Bool) (a : Act) (w : World) : Prop where
  sl : Sl2 T0 ds tab L a
  wd : Below W.heap.size W w
  ex : ∀ i (h : i < ds.length), L.getD 8 false = false → L.getD i false = true → zEx t1 t2 t3 i (a.eval (.tmp ds[i])) w
  rs : L.getD 6 false = true → L.getD 8 false = false → ∃ c us ks ad cp ak ck n2 n3, MOut F t1 t2 t3 W (a.eval (.tmp s6)) w c us ks ad cp ak ck n2 n3 ∧ (L.getD 7 false = true → ∀ fb, a.eval (.tmp s7) = .pointer (some ⟨fb, 0, none⟩) → fb < n2 ∨ n3 ≤ fb)
  bx : L.getD 7 false = true → L.getD 8 false = false → ∃ fb, a.eval (.tmp s7) = .pointer (some ⟨fb, 0, none⟩) ∧ W.heap.size ≤ fb ∧ MB3 fb w
  fin : L.getD 8 false = true → CutM F t1 t2 t3 W (a.eval (.tmp s7)) w
section
variable {T0 : Array Value} {ds : List Nat} {tab : Nat → Option Value} {s6 s7 : Nat} {F : MrgF} {t1 t2 t3 : List En} {W : World} {L : Array Bool} {a : Act} {w w' : World}
theorem ZM.start (n : Nat) : ZM T0 ds tab s6 s7 F t1 t2 t3 W (Array.replicate n false) { tmps := T0, defers := [] } W.drew :=
  ⟨Sl2.start _, (Below.refl _ _).drew, (fun i _ _ h => by rw [getD_repl] at h; cases h), (fun h => by rw [getD_repl] at h; cases h), (fun h => by rw [getD_repl] at h; cases h), (fun h => by rw [getD_repl] at h; cases h)⟩
theorem ev_put {a : Act} {d k : Nat} {v : Value} (h : k ≠ d) : (a.put (some d) v).eval (.tmp k) = a.eval (.tmp k) := Act.eval_put (fun d' hd' => by cases hd'; intro e'; injection e' with e'; exact h e')
theorem ZM.exs (h : ZM T0 ds tab s6 s7 F t1 t2 t3 W L a w) (nd : ds.Nodup) {i : Nat} {v : Value} (hi : i < ds.length) (hd : ds[i] < T0.size) (h8 : L.getD 8 false = false) (he : zEx t1 t2 t3 i v w') (hb : Below w.heap.size w w') : ∀ j (hj : j < ds.length), (L.setIfInBounds i true).getD j false = true → zEx t1 t2 t3 j ((a.put (some ds[i]) v).eval (.tmp ds[j])) w' := fun j hj hL => by
  by_cases e : j = i
  · subst e
    rw [eval_put_same (by rw [h.sl.sz]; exact hd)]
    exact he
  · rw [ev_put (nodup_ne nd hi hj e)]
    exact zEx_later (h.ex j hj h8 (getD_of_set hL e)) hb
theorem ZM.step (h : ZM T0 ds tab s6 s7 F t1 t2 t3 W L a w) (nd : ds.Nodup) {i : Nat} {v : Value} (hi : i < ds.length) (hd : ds[i] < T0.size) (h6 : i ≠ 6) (h7 : i ≠ 7) (h8 : i ≠ 8) (hs6 : s6 ≠ ds[i]) (hs7 : s7 ≠ ds[i]) (hu : L.getD 8 false = false) (ht : ∀ u, tab i = some u → u = v) (he : zEx t1 t2 t3 i v w') (hb : Below w.heap.size w w') : ZM T0 ds tab s6 s7 F t1 t2 t3 W (L.setIfInBounds i true) (a.put (some ds[i]) v) w' := by
  refine ⟨h.sl.put nd hi hd ht, h.wd.trans (hb.mono h.wd.size), fun j hj _ hL => h.exs nd hi hd hu he hb j hj hL, fun g6 g8 => ?_, fun g7 g8 => ?_, fun g8 => ?_⟩
  · rw [getD_set_ne false h6] at g6
    obtain ⟨c, us, ks, ad, cp, ak, ck, n2, n3, hm, hx⟩ := h.rs g6 hu
    rw [ev_put hs6, ev_put hs7, getD_set_ne false h7]
    exact ⟨c, us, ks, ad, cp, ak, ck, n2, n3, hm.later hb, hx⟩
  · rw [getD_set_ne false h7] at g7
    obtain ⟨fb, e1, e2, e3⟩ := h.bx g7 hu
    rw [ev_put hs7]
    exact ⟨fb, e1, e2, e3.later hb⟩
  · rw [getD_set_ne false h8, hu] at g8; cases g8
theorem ZM.call (h : ZM T0 ds tab s6 s7 F t1 t2 t3 W L a w) (nd : ds.Nodup) {v : Value} (hi : 6 < ds.length) (hd : ds[6] < T0.size) (hs6 : s6 = ds[6]) (hs7 : s7 ≠ ds[6]) (hu : L.getD 8 false = false) (ht : tab 6 = none) {c : Int} {us : List En} {ks : List ByteArray} {ad : Option Addr} {cp : Nat} {ak : Option Addr} {ck : Nat} (hv : v = .agg #[.int .i64 c, .slice ad us.length cp, .slice ak ks.length ck]) (hr : MgRel F t1 t2 t3 c us ks) (hel : EL w.heap.size w' ad us) (hrow : w'.ownsRow w.heap.size 9 1 (.slice ak ks.length ck) ks.length (ks.map .string)) (hb : Below w.heap.size w w') : ZM T0 ds tab s6 s7 F t1 t2 t3 W (L.setIfInBounds 6 true) (a.put (some ds[6]) v) w' := by
  refine ⟨h.sl.put nd hi hd (fun u hu => by rw [ht] at hu; cases hu), h.wd.trans (hb.mono h.wd.size), fun j hj _ hL => h.exs nd hi hd hu trivial hb j hj hL, fun _ _ => ⟨c, us, ks, ad, cp, ak, ck, w.heap.size, w'.heap.size, ⟨?_, hr, hel.ein (Nat.le_refl _), hrow, fun g e => owns_lt hrow e, h.wd.size, hb.size, Nat.le_refl _⟩, fun g7 fb e => ?_⟩, fun g7 g8 => ?_, fun g8 => ?_⟩
  · rw [hs6, eval_put_same (by rw [h.sl.sz]; exact hd)]; exact hv
  · rw [getD_set_ne false (by omega)] at g7
    obtain ⟨fb', e1, e2, e3⟩ := h.bx g7 hu
    rw [ev_put hs7, e1] at e
    injection e with e; injection e with e; injection e with e
    subst e
    exact .inl e3.lt
  · rw [getD_set_ne false (by omega)] at g7
    obtain ⟨fb, e1, e2, e3⟩ := h.bx g7 hu
    rw [ev_put hs7]
    exact ⟨fb, e1, e2, e3.later hb⟩
  · rw [getD_set_ne false (by omega), hu] at g8; cases g8
theorem ZM.box (h : ZM T0 ds tab s6 s7 F t1 t2 t3 W L a w) (nd : ds.Nodup) {t : TypeId} (hi : 7 < ds.length) (hd : ds[7] < T0.size) (hs7 : s7 = ds[7]) (hs6 : s6 ≠ ds[7]) (hu : L.getD 8 false = false) (ht : tab 7 = none) : ZM T0 ds tab s6 s7 F t1 t2 t3 W (L.setIfInBounds 7 true) (a.put (some ds[7]) (.pointer (some ⟨w.heap.size, 0, none⟩))) (w.alloc (.cells #[.int .i64 0, .slice none 0 0, .slice none 0 0] t)) := by
  have hb := below_oneD w (.cells #[.int .i64 0, .slice none 0 0, .slice none 0 0] t)
  have e7 : (a.put (some ds[7]) (.pointer (some ⟨w.heap.size, 0, none⟩))).eval (.tmp s7) = .pointer (some ⟨w.heap.size, 0, none⟩) := by rw [hs7]; exact eval_put_same (by rw [h.sl.sz]; exact hd)
  refine ⟨h.sl.put nd hi hd (fun u hu => by rw [ht] at hu; cases hu), h.wd.trans (hb.mono h.wd.size), fun j hj _ hL => h.exs nd hi hd hu trivial hb j hj hL, fun g6 g8 => ?_, fun _ _ => ⟨w.heap.size, e7, h.wd.size, MB3.new w t⟩, fun g8 => ?_⟩
  · rw [getD_set_ne false (by omega)] at g6
    obtain ⟨c, us, ks, ad, cp, ak, ck, n2, n3, hm, _⟩ := h.rs g6 hu
    rw [ev_put hs6, e7]
    refine ⟨c, us, ks, ad, cp, ak, ck, n2, n3, hm.later hb, fun _ fb e => ?_⟩
    injection e with e; injection e with e; injection e with e
    subst e
    exact .inr hm.hi
  · rw [getD_set_ne false (by omega), hu] at g8; cases g8
theorem ZM.store (h : ZM T0 ds tab s6 s7 F t1 t2 t3 W L a w) (hL : L.getD 8 true = false) (ht : tab 8 = none) {c : Int} {us : List En} {ks : List ByteArray} {ad : Option Addr} {cp : Nat} {ak : Option Addr} {ck n2 n3 fb : Nat} (hm : MOut F t1 t2 t3 W (a.eval (.tmp s6)) w c us ks ad cp ak ck n2 n3) (hx : fb < n2 ∨ n3 ≤ fb) (e1 : a.eval (.tmp s7) = .pointer (some ⟨fb, 0, none⟩)) (e2 : W.heap.size ≤ fb) (e3 : MB3 fb w) : ZM T0 ds tab s6 s7 F t1 t2 t3 W (L.setIfInBounds 8 true) a (((w.setCell ⟨fb, 0, none⟩ (.int .i64 c)).setCell ⟨fb, 1, none⟩ (.slice ad us.length cp)).setCell ⟨fb, 2, none⟩ (.slice ak ks.length ck)) := by
  have g8 := getD_set_true hL
  have hg := grown_set3 w fb (.int .i64 c) (.slice ad us.length cp) (.slice ak ks.length ck)
  have q : ∀ {Y : World} {i j : Nat} {v u : Value}, i ≠ j → Y.cell? ⟨fb, j, none⟩ = some u → (Y.setCell ⟨fb, i, none⟩ v).cell? ⟨fb, j, none⟩ = some u := fun hn hc => (World.cell?_setCell_other _ _ _ _ (fun e => hn (by injection e))).trans hc
  refine ⟨h.sl.skip ht, set3_below h.wd e2 _ _ _, (fun _ _ h1 => by rw [g8] at h1; cases h1), (fun _ h1 => by rw [g8] at h1; cases h1), (fun _ h1 => by rw [g8] at h1; cases h1), fun _ => ⟨c, us, ks, ad, cp, ak, ck, n2, n3, fb, e1, hm.rel, ⟨q (by omega) (q (by omega) (World.cell?_setCell_same _ _ _ e3.c0)), q (by omega) (World.cell?_setCell_same _ _ _ (q (by omega) e3.c1)), World.cell?_setCell_same _ _ _ (q (by omega) (q (by omega) e3.c2)), hm.lst.grown hm.hi hg (fun r e => by cases e; exact hx), hm.row.kept hg ?_, hm.rlt, Nat.le_trans hm.hi hg.size⟩, hm.lo, hm.le, e2, hx, set3_below h.wd e2 _ _ _⟩⟩
  refine .inr fun e => ?_
  have h1 := owns_row_ge hm.row e
  have h2 := hm.rlt fb e
  omega
end
end Go.Proofs.YtjiafjdjocmodaaGreat
