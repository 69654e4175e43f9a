/-
  spec.Merge (regions' arms by program: wip/drawn.py).
-/
import Derived.Test.YtjiafjdjocmodaaGreatMgQ
import Derived.Test.YtjiafjdjocmodaaGreatL8S
import Derived.Test.YtjiafjdjocmodaaGreatZbc
import Derived.Test.YtjiafjdjocmodaaGreatZbc
import Derived.Test.YtjiafjdjocmodaaGreatZbc
import Derived.Deep.CutRange
namespace Go.Proofs.YtjiafjdjocmodaaGreat
open Go.RowKit

/-- Behind the region that merges what lies under a path. -/
def CutG (g : Fl) (ok : Bool) (W1 : World) (pv bv : Value) (W : World) : Prop := ∃ fb, pv = .pointer (some ⟨fb, 0, none⟩) ∧ bv = .bool ok ∧ FB fb g W ∧ W1.heap.size ≤ fb ∧ Below W1.heap.size W1 W
/-- What Merge answers. -/
def MgPost (F : MrgF) (bs xs ys : List En) (w : World) (e : Ending) (w' : World) : Prop :=
  ∃ c us ks ad cp ak ck, MgRel F bs xs ys c us ks ∧ e = .returned (.agg #[.int .i64 c, .slice ad us.length cp, .slice ak ks.length ck]) ∧ EL w.heap.size w' ad us ∧ us.length ≤ cp ∧ w'.ownsRow w.heap.size 9 1 (.slice ak ks.length ck) ks.length (ks.map .string) ∧ Below w.heap.size w w'
theorem owns_mono {w : World} {B B' : Nat} {e : TypeId} {z : Nat} {v : Value} {n : Nat} {xs : List Value} (h : w.ownsRow B e z v n xs) (hB : B' ≤ B) : w.ownsRow B' e z v n xs := ⟨h.1, by
  rcases h.2 with h' | ⟨g, cap', cur, hv, k1, k2⟩
  · exact .inl h'
  · exact .inr ⟨g, cap', cur, hv, Nat.le_trans hB k1, k2⟩⟩
theorem owns_nilS (w : World) (B : Nat) : w.ownsRow B 9 1 (.slice none ([] : List ByteArray).length 0) ([] : List ByteArray).length (([] : List ByteArray).map .string) := ⟨rfl, .inl ⟨rfl, rfl⟩⟩
/-- Three cells of a box are written: what is owned above it stays. -/
theorem grown_set3 (W : World) (g : Nat) (x y z : Value) : W.grownBy (((W.setCell ⟨g, 0, none⟩ x).setCell ⟨g, 1, none⟩ y).setCell ⟨g, 2, none⟩ z) (some g) :=
  gr_trans (gr_trans (grown_set0 W g 0 x) (grown_set0 _ g 1 y)) (grown_set0 _ g 2 z)
theorem MSt.fin {w : World} {S : List Nat} {ob : Nat} {W0 : World} {v v2 : Value} {us : List En} {ks : List ByteArray} {W : World} (s : MSt w S ob W0 v v2 us ks W) {g : Nat} (h1 : w.heap.size ≤ g) (h2 : g < W0.heap.size) (x y z : Value) :
    Below w.heap.size w (((W.setCell ⟨g, 0, none⟩ x).setCell ⟨g, 1, none⟩ y).setCell ⟨g, 2, none⟩ z) ∧
    (((W.setCell ⟨g, 0, none⟩ x).setCell ⟨g, 1, none⟩ y).setCell ⟨g, 2, none⟩ z).ownsRow w.heap.size 55 3 v us.length (ecells us) ∧
    (((W.setCell ⟨g, 0, none⟩ x).setCell ⟨g, 1, none⟩ y).setCell ⟨g, 2, none⟩ z).ownsRow w.heap.size 9 1 v2 ks.length (ks.map .string) := by
  have hg := grown_set3 W g x y z
  refine ⟨s.bw.grown hg s.bw.size (fun j e => by cases e; exact h1), owns_mono (s.row.kept hg (.inr fun e => ?_)) s.lo, owns_mono (s.row2.kept hg (.inr fun e => ?_)) s.lo⟩
  · have := owns_row_ge s.row e; omega
  · have := owns_row_ge s.row2 e; omega
theorem set3_below {w W : World} (hb : Below w.heap.size w W) {g : Nat} (h1 : w.heap.size ≤ g) (x y z : Value) : Below w.heap.size w (((W.setCell ⟨g, 0, none⟩ x).setCell ⟨g, 1, none⟩ y).setCell ⟨g, 2, none⟩ z) :=
  hb.grown (grown_set3 W g x y z) hb.size (fun j e => by cases e; exact h1)
def s9Tab (a b c : Option Addr) (la ca lb cb lc cc ng nl cn k : Nat) (s : ByteArray) (f x y g : Fl) (ok : Bool) : Nat → Option Value
  | 0 => some (.agg #[.slice a la ca])
  | 1 => some (.slice (some ⟨ng, 0, none⟩) nl cn)
  | 2 => some (.int .i64 k)
  | 3 => some (.pointer (some ⟨ng, k, none⟩))
  | 4 => some (.string s)
  | 5 => some (.agg #[.bool f.there, .string f.text, .bool f.runs])
  | 6 => some (.agg #[.slice b lb cb])
  | 7 => some (.slice (some ⟨ng, 0, none⟩) nl cn)
  | 8 => some (.int .i64 k)
  | 9 => some (.pointer (some ⟨ng, k, none⟩))
  | 10 => some (.string s)
  | 11 => some (.agg #[.bool x.there, .string x.text, .bool x.runs])
  | 12 => some (.agg #[.slice c lc cc])
  | 13 => some (.slice (some ⟨ng, 0, none⟩) nl cn)
  | 14 => some (.int .i64 k)
  | 15 => some (.pointer (some ⟨ng, k, none⟩))
  | 16 => some (.string s)
  | 17 => some (.agg #[.bool y.there, .string y.text, .bool y.runs])
  | 18 => some (.tuple #[.agg #[.bool g.there, .string g.text, .bool g.runs], .bool ok])
  | 19 => some (.tuple #[.agg #[.bool g.there, .string g.text, .bool g.runs], .bool ok])
  | 20 => some (.agg #[.bool g.there, .string g.text, .bool g.runs])
  | 21 => some (.bool ok)
  | 24 => some (.bool ok)
  | _ => none
def s9Ds : List Nat := [44, 45, 46, 47, 48, 49, 50, 51, 52, 53, 54, 55, 56, 57, 58, 59, 60, 61, 62, 43, 63, 64, 11, 1000, 12]

def s13Tab (ob ng nl cn k fb : Nat) (v : Value) (s : ByteArray) (g : Fl) : Nat → Option Value
  | 0 => some (.pointer (some ⟨ob, 0, none⟩))
  | 1 => some (v)
  | 2 => some (.slice (some ⟨ng, 0, none⟩) nl cn)
  | 3 => some (.int .i64 k)
  | 4 => some (.pointer (some ⟨ng, k, none⟩))
  | 5 => some (.string s)
  | 6 => some (.pointer (some ⟨fb, 1, none⟩))
  | 7 => some (.string g.text)
  | 8 => some (.pointer (some ⟨fb, 2, none⟩))
  | 9 => some (.bool g.runs)
  | 10 => some (.agg #[.string s, .string g.text, .bool g.runs])
  | 13 => some (.pointer (some ⟨ob, 0, none⟩))
  | _ => none
def s13Ds : List Nat := [76, 77, 78, 79, 80, 81, 82, 83, 84, 85, 86, 87, 88, 89, 1000]

set_option maxRecDepth 100000 in
set_option maxHeartbeats 40000000 in
theorem specMerge_any (F : MrgF) (hM : ∀ (f x y : ByteArray) W, Calls Tryz.prog 68 #[.string f, .string x, .string y] W fun e w' => e = .returned (mrgV (F f x y)) ∧ Below W.heap.size W w') (a b c : Option Addr) (ca cb cc : Nat) (bs xs ys : List En) (w : World) (hbs : ES w a bs) (hxs : ES w b xs) (hys : ES w c ys) (hn1 : bs.length ≤ 1048576) (hn2 : xs.length ≤ 1048576) (hn3 : ys.length ≤ 1048576) :
    Calls Tryz.prog 8 #[.agg #[.slice a bs.length ca], .agg #[.slice b xs.length cb], .agg #[.slice c ys.length cc]] w (MgPost F bs xs ys w) := by
  obtain ⟨i0, hi, hz0, hz1, hz2⟩ := info_parts Tryz.infoEntry
  obtain ⟨j0, hj0, jz0, jz1, jz2⟩ := info_parts Tryz.infoStr
  have hal : Below w.heap.size w ((((w.alloc (.cells #[.slice a bs.length ca] 25)).alloc (.cells #[.slice b xs.length cb] 25)).alloc (.cells #[.slice c ys.length cc] 25)).alloc (.cells #[.int .i64 0, .slice none 0 0, .slice none 0 0] 30)) := ((((Below.refl _ _).alloc (Nat.le_refl _) _).alloc (by simp) _).alloc (by simp; omega) _).alloc (by simp; omega) _
  have m0 : ((((w.alloc (.cells #[.slice a bs.length ca] 25)).alloc (.cells #[.slice b xs.length cb] 25)).alloc (.cells #[.slice c ys.length cc] 25)).alloc (.cells #[.int .i64 0, .slice none 0 0, .slice none 0 0] 30)).cell? ⟨w.heap.size, 0, none⟩ = some (.slice a bs.length ca) := by simp [go_sem]
  have m1 : ((((w.alloc (.cells #[.slice a bs.length ca] 25)).alloc (.cells #[.slice b xs.length cb] 25)).alloc (.cells #[.slice c ys.length cc] 25)).alloc (.cells #[.int .i64 0, .slice none 0 0, .slice none 0 0] 30)).cell? ⟨w.heap.size + 1, 0, none⟩ = some (.slice b xs.length cb) := by simp [go_sem]
  have m2 : ((((w.alloc (.cells #[.slice a bs.length ca] 25)).alloc (.cells #[.slice b xs.length cb] 25)).alloc (.cells #[.slice c ys.length cc] 25)).alloc (.cells #[.int .i64 0, .slice none 0 0, .slice none 0 0] 30)).cell? ⟨w.heap.size + 1 + 1, 0, none⟩ = some (.slice c ys.length cc) := by simp [go_sem]
  have k0 : ((((w.alloc (.cells #[.slice a bs.length ca] 25)).alloc (.cells #[.slice b xs.length cb] 25)).alloc (.cells #[.slice c ys.length cc] 25)).alloc (.cells #[.int .i64 0, .slice none 0 0, .slice none 0 0] 30)).cell? ⟨w.heap.size + 1 + 1 + 1, 0, none⟩ = some (.int .i64 0) := by simp [go_sem]
  have k1 : ((((w.alloc (.cells #[.slice a bs.length ca] 25)).alloc (.cells #[.slice b xs.length cb] 25)).alloc (.cells #[.slice c ys.length cc] 25)).alloc (.cells #[.int .i64 0, .slice none 0 0, .slice none 0 0] 30)).cell? ⟨w.heap.size + 1 + 1 + 1, 1, none⟩ = some (.slice none 0 0) := by simp [go_sem]
  have k2 : ((((w.alloc (.cells #[.slice a bs.length ca] 25)).alloc (.cells #[.slice b xs.length cb] 25)).alloc (.cells #[.slice c ys.length cc] 25)).alloc (.cells #[.int .i64 0, .slice none 0 0, .slice none 0 0] 30)).cell? ⟨w.heap.size + 1 + 1 + 1, 2, none⟩ = some (.slice none 0 0) := by simp [go_sem]
  have kf : ∀ j, ((((w.alloc (.cells #[.slice a bs.length ca] 25)).alloc (.cells #[.slice b xs.length cb] 25)).alloc (.cells #[.slice c ys.length cc] 25)).alloc (.cells #[.int .i64 0, .slice none 0 0, .slice none 0 0] 30)).frozen? ⟨w.heap.size + 1 + 1 + 1, j, none⟩ = false := fun j => by simp [go_sem]
  have os0 : w.heap.size + 1 + 1 + 1 < ((((w.alloc (.cells #[.slice a bs.length ca] 25)).alloc (.cells #[.slice b xs.length cb] 25)).alloc (.cells #[.slice c ys.length cc] 25)).alloc (.cells #[.int .i64 0, .slice none 0 0, .slice none 0 0] 30)).heap.size := by simp [go_sem]
  go_enter Tryz.func8, Tryz.ntmps8
  go_upto_region 1 with fail
  generalize (((w.alloc (.cells #[.slice a bs.length ca] 25)).alloc (.cells #[.slice b xs.length cb] 25)).alloc (.cells #[.slice c ys.length cc] 25)).alloc (.cells #[.int .i64 0, .slice none 0 0, .slice none 0 0] 30) = W at *
  obtain ⟨g, hg⟩ : ∃ g, g = w.heap.size + 1 + 1 + 1 := ⟨_, rfl⟩
  obtain ⟨tc, htc⟩ : ∃ tc, tc = w.heap.size + 1 + 1 := ⟨_, rfl⟩
  obtain ⟨tb, htb⟩ : ∃ tb, tb = w.heap.size + 1 := ⟨_, rfl⟩
  obtain ⟨ta, hta⟩ : ∃ ta, ta = w.heap.size := ⟨_, rfl⟩
  rw [← hg] at k0 k1 k2 kf os0 ⊢
  rw [← htc] at m2 ⊢
  rw [← htb] at m1 ⊢
  rw [← hta] at m0 ⊢
  have HS : Keep (ta = w.heap.size ∧ tb = w.heap.size + 1 ∧ tc = w.heap.size + 2 ∧ g = w.heap.size + 3) := ⟨by omega⟩
  clear hg htc htb hta
  go_cut [28] (fun v wx => ∃ nb : Bool, v = .bool nb ∧ Keep (nb = false ↔ ValidTs bs ∧ ValidTs xs ∧ ValidTs ys) ∧ Below W.heap.size W wx)
  case first =>
    go_wp2_with fail
    refine (specTree_any a ca bs W (hbs.below hal) hn1).mono ?_
    rintro e w1 ⟨va, rfl, hva, hb1⟩
    have m1' := cell_later hb1 m1
    cases va with
    | false =>
      have HV : Keep ((true = false) ↔ ValidTs bs ∧ ValidTs xs ∧ ValidTs ys) := ⟨⟨fun h => (by cases h), fun h => (by have := hva.2 h.1; cases this)⟩⟩
      clear hva
      go_wp2_with fail
      go_meet
      case rel => exact ⟨true, rfl, HV, hb1⟩
    | true =>
      have HV : Keep (ValidTs bs) := ⟨hva.1 rfl⟩
      clear hva
      go_wp2_with fail
      refine (specTree_any b cb xs w1 ((hxs.below hal).below hb1) hn2).mono ?_
      rintro e w2 ⟨vb, rfl, hvb, hb2⟩
      have hb12 := hb1.trans (hb2.mono hb1.size)
      have m2' := cell_later hb12 m2
      cases vb with
      | false =>
        have HV2 : Keep ((true = false) ↔ ValidTs bs ∧ ValidTs xs ∧ ValidTs ys) := ⟨⟨fun h => (by cases h), fun h => (by have := hvb.2 h.2.1; cases this)⟩⟩
        clear hvb
        go_wp2_with fail
        go_meet
        case rel => exact ⟨true, rfl, HV2, hb12⟩
      | true =>
        have HV2 : Keep (ValidTs xs) := ⟨hvb.1 rfl⟩
        clear hvb
        go_wp2_with fail
        refine (specTree_any c cc ys w2 ((hys.below hal).below hb12) hn3).mono ?_
        rintro e w3 ⟨vc, rfl, hvc, hb3⟩
        have HV3 : Keep ((!vc) = false ↔ ValidTs bs ∧ ValidTs xs ∧ ValidTs ys) := ⟨⟨fun h => ⟨HV.out, HV2.out, hvc.1 (by simpa using h)⟩, fun h => by rw [hvc.2 h.2.2]; rfl⟩⟩
        clear hvc
        go_wp2_with fail
        go_meet
        case rel => exact ⟨_, rfl, HV3, hb12.trans (hb3.mono hb12.size)⟩
  case rest =>
    obtain ⟨nb, rfl, HV, hb1⟩ := hcut
    replace m0 := cell_later hb1 m0
    replace m1 := cell_later hb1 m1
    replace m2 := cell_later hb1 m2
    replace k0 := cell_later hb1 k0
    replace k1 := cell_later hb1 k1
    replace k2 := cell_later hb1 k2
    replace kf : ∀ j, wc.frozen? ⟨g, j, none⟩ = false := fun j => (hb1.frozen (p := ⟨g, j, none⟩) os0).trans (kf j)
    have os1 : g < wc.heap.size := Nat.lt_of_lt_of_le os0 hb1.size
    have hbw := hal.trans (hb1.mono hal.size)
    clear hb1 hal os0
    cases nb with
    | true =>
      have hnv : ¬ (ValidTs bs ∧ ValidTs xs ∧ ValidTs ys) := fun h => by have := HV.out.2 h; cases this
      have HP : Keep (MgPost F bs xs ys w (.returned (.agg #[.int .i64 1, .slice none ([] : List En).length 0, .slice none ([] : List ByteArray).length 0])) (((wc.setCell ⟨g, 0, none⟩ (.int .i64 1)).setCell ⟨g, 1, none⟩ (.slice none 0 0)).setCell ⟨g, 2, none⟩ (.slice none 0 0))) := ⟨⟨1, [], [], none, 0, none, 0, .inl ⟨hnv, rfl, rfl, rfl⟩, rfl, EL.nil _ _ _, Nat.le_refl _, owns_nilS _ _, set3_below hbw (by have := HS.out; omega) _ _ _⟩⟩
      clear hM
      go_wp2
      refine bodyPost_ret (v := .agg #[.int .i64 1, .slice none ([] : List En).length 0, .slice none ([] : List ByteArray).length 0]) ?_ rfl HP.out
      go_light
      simp [results, Tryz.results8, go_sem, k0, k1, k2]
    | false =>
      have hv := HV.out.1 rfl
      obtain ⟨v1, v2, v3⟩ := hv
      have HVV : Keep (ValidTs bs ∧ ValidTs xs ∧ ValidTs ys) := ⟨⟨v1, v2, v3⟩⟩
      have l1 : bs.length ≤ 100 := v1.1
      have l2 : xs.length ≤ 100 := v2.1
      have l3 : ys.length ≤ 100 := v3.1
      clear v1 v2 v3 HV
      have hq := below_oneD wc (.cells #[.slice a bs.length ca, .slice b xs.length cb, .slice c ys.length cc] 25)
      have hTs : TsAt (wc.alloc (.cells #[.slice a bs.length ca, .slice b xs.length cb, .slice c ys.length cc] 25)) wc.heap.size 0 [(a, ca, bs), (b, cb, xs), (c, cc, ys)] := by
        intro i hi
        match i, hi with
        | 0, _ => exact ⟨by simp, (hbs.below hbw).below hq⟩
        | 1, _ => exact ⟨by simp, (hxs.below hbw).below hq⟩
        | 2, _ => exact ⟨by simp, (hys.below hbw).below hq⟩
      have hp := l6Paths_any wc.heap.size 0 3 [(a, ca, bs), (b, cb, xs), (c, cc, ys)] _ hTs (by simp) (by
        intro x hx
        simp at hx
        rcases hx with rfl | rfl | rfl <;> (dsimp only; omega))
      go_wp2_with fail
      refine hp.mono ?_
      rintro e w1 ⟨an, cn, rfl, hrow, hb2⟩
      obtain ⟨ns, hns⟩ : ∃ ns, ns = pathsL [bs, xs, ys] := ⟨_, rfl⟩
      rw [show pathsL (tss [(a, ca, bs), (b, cb, xs), (c, cc, ys)]) = ns from hns.symm] at hrow ⊢
      have hlen : ns.length ≤ 300 := by rw [hns]; exact paths3_len bs xs ys l1 l2 l3
      have HNS : Keep (ns = pathsL [bs, xs, ys]) := ⟨hns⟩
      obtain ⟨ng, HNG⟩ : ∃ ng, Keep (∀ k (h : k < ns.length), an = some ⟨ng, 0, none⟩ ∧ w1.cell? ⟨ng, k, none⟩ = some (.string ns[k])) := by
        by_cases h0 : ns = []
        · exact ⟨0, ⟨fun k hk => by rw [h0] at hk; simp at hk⟩⟩
        · obtain ⟨ng, c, hv2, _⟩ := hrow.form (List.length_pos_iff.2 h0)
          cases hv2
          exact ⟨ng, ⟨fun k hk => ⟨rfl, by rw [hrow.cellAt k (by simpa using hk), List.getElem?_map, List.getElem?_eq_getElem hk]; rfl⟩⟩⟩
      have hb3 := below_oneD w1 (.cells #[.slice none 0 0] 25)
      have hbx : Below wc.heap.size wc (w1.alloc (.cells #[.slice none 0 0] 25)) := (hq.trans (hb2.mono hq.size)).trans (hb3.mono (hq.trans (hb2.mono hq.size)).size)
      have hbw2 := hbw.trans (hbx.mono hbw.size)
      have HN0 : Keep (∀ k (h : k < ns.length), an = some ⟨ng, 0, none⟩ ∧ (w1.alloc (.cells #[.slice none 0 0] 25)).cell? ⟨ng, k, none⟩ = some (.string ns[k]) ∧ ng ≠ w1.heap.size) := ⟨fun k hk => ⟨(HNG.out k hk).1, cell_later hb3 (HNG.out k hk).2, by have := World.block_lt_of_cell? w1 ⟨ng, k, none⟩ (HNG.out k hk).2; exact Nat.ne_of_lt this⟩⟩
      have HZ : Keep (g < w1.heap.size ∧ (w1.alloc (.cells #[.slice none 0 0] 25)).heap.size = w1.heap.size + 1) := ⟨⟨Nat.lt_of_lt_of_le os1 (Nat.le_trans hq.size hb2.size), by simp⟩⟩
      replace m0 := cell_later hbx m0
      replace m1 := cell_later hbx m1
      replace m2 := cell_later hbx m2
      replace k0 := cell_later hbx k0
      replace k1 := cell_later hbx k1
      replace k2 := cell_later hbx k2
      replace kf : ∀ j, (w1.alloc (.cells #[.slice none 0 0] 25)).frozen? ⟨g, j, none⟩ = false := fun j => (hbx.frozen (p := ⟨g, j, none⟩) os1).trans (kf j)
      have hst0 := MSt.start2 (S := [w1.heap.size]) (ob := w1.heap.size) hbw2 (by simp) (by simp) (fun s hs => by rw [List.mem_singleton.1 hs]; have := HS.out; have := HZ.out; omega) (by simp)
      clear hq hTs hp hrow hb2 HNG hns hb3 hbx hbw os1
      go_wp2
      generalize w1.alloc (.cells #[.slice none 0 0] 25) = W0 at *
      obtain ⟨ob, hob⟩ : ∃ ob, ob = w1.heap.size := ⟨_, rfl⟩
      rw [← hob] at hst0 HZ HN0 ⊢
      clear hob
      go_loopw [9, 10] (fun v2 i wr => ∃ (k : Nat) (v : Value), i = .int .i64 k ∧ k ≤ ns.length ∧ MSt w [ob] ob W0 v v2 (outM F bs xs ys (ns.take k)) (clsM F bs xs ys (ns.take k)) wr) (fun _ i _ => ns.length - (intOf i).toNat)
      case atStart => exact ⟨0, _, rfl, Nat.zero_le _, by rw [HZ.out.2] at hst0; exact hst0⟩
      case round =>
        clear hst0
        obtain ⟨k, v, rfl, hk, hs⟩ := hrel
        by_cases hlt : k < ns.length
        · have hlt' : (k : Int) < ns.length := by omega
          obtain ⟨rfl, hnk, hng⟩ := HN0.out k hlt
          have HU : Keep (outM F bs xs ys (ns.take (k + 1)) = outM F bs xs ys (ns.take k) ++ enM F bs xs ys ns[k] ∧ clsM F bs xs ys (ns.take (k + 1)) = clsM F bs xs ys (ns.take k) ++ clM F bs xs ys ns[k]) := ⟨⟨outM_take hlt, clsM_take hlt⟩⟩
          have hlu : (outM F bs xs ys (ns.take k)).length ≤ 300 := by have := outM_len (F := F) (bs := bs) (xs := xs) (ys := ys) (ns.take k); simp at this; omega
          have hlk : (clsM F bs xs ys (ns.take k)).length ≤ 300 := by have := clsM_len (F := F) (bs := bs) (xs := xs) (ys := ys) (ns.take k); simp at this; omega
          have t1 := hs.keep m0 (by have := HS.out; have := HZ.out; simp; omega)
          have t2 := hs.keep m1 (by have := HS.out; have := HZ.out; simp; omega)
          have t3 := hs.keep m2 (by have := HS.out; have := HZ.out; simp; omega)
          have nk := hs.keep hnk (by simpa using hng)
          generalize outM F bs xs ys (ns.take k) = us at *
          generalize clsM F bs xs ys (ns.take k) = ks at *
          obtain ⟨s, hs'⟩ : ∃ s, s = ns[k] := ⟨_, rfl⟩
          rw [← hs'] at nk HU
          clear hs' hnk
          obtain ⟨f, hf⟩ : ∃ f, f = atL bs s := ⟨_, rfl⟩
          obtain ⟨x, hx⟩ : ∃ x, x = atL xs s := ⟨_, rfl⟩
          obtain ⟨y, hy⟩ : ∃ y, y = atL ys s := ⟨_, rfl⟩
          obtain ⟨g9, hg9⟩ : ∃ g9, g9 = (pathM F f x y).getD noFl := ⟨_, rfl⟩
          obtain ⟨ok, hok⟩ : ∃ ok, ok = (pathM F f x y).isSome := ⟨_, rfl⟩
          have HE : Keep ((ok = true → clM F bs xs ys s = [] ∧ enM F bs xs ys s = if g9.there = true then [⟨s, g9.text, g9.runs⟩] else []) ∧ (ok = false → clM F bs xs ys s = [s] ∧ enM F bs xs ys s = [] ∧ g9 = noFl)) := ⟨by
            unfold clM enM atM
            rw [← hf, ← hx, ← hy, hg9, hok]
            cases pathM F f x y with
            | none => exact ⟨(fun h => by cases h), fun _ => ⟨rfl, rfl, rfl⟩⟩
            | some z => exact ⟨fun _ => ⟨rfl, rfl⟩, (fun h => by cases h)⟩⟩
          have HA1 : Keep (∀ X, Below wr.heap.size wr X → Calls Tryz.prog 38 #[.agg #[.slice a bs.length ca], .string s] X fun e w' => e = .returned (.agg #[.bool f.there, .string f.text, .bool f.runs]) ∧ Below X.heap.size X w') := ⟨fun X hX => by rw [hf]; exact l6At_any a ca bs s X ((hbs.below hs.bw).below hX) (by omega)⟩
          have HA2 : Keep (∀ X, Below wr.heap.size wr X → Calls Tryz.prog 38 #[.agg #[.slice b xs.length cb], .string s] X fun e w' => e = .returned (.agg #[.bool x.there, .string x.text, .bool x.runs]) ∧ Below X.heap.size X w') := ⟨fun X hX => by rw [hx]; exact l6At_any b cb xs s X ((hxs.below hs.bw).below hX) (by omega)⟩
          have HA3 : Keep (∀ X, Below wr.heap.size wr X → Calls Tryz.prog 38 #[.agg #[.slice c ys.length cc], .string s] X fun e w' => e = .returned (.agg #[.bool y.there, .string y.text, .bool y.runs]) ∧ Below X.heap.size X w') := ⟨fun X hX => by rw [hy]; exact l6At_any c cc ys s X ((hys.below hs.bw).below hX) (by omega)⟩
          have HA4 : Keep (∀ X, Calls Tryz.prog 37 #[.agg #[.bool f.there, .string f.text, .bool f.runs], .agg #[.bool x.there, .string x.text, .bool x.runs], .agg #[.bool y.there, .string y.text, .bool y.runs]] X fun e w' => e = .returned (.tuple #[.agg #[.bool g9.there, .string g9.text, .bool g9.runs], .bool ok]) ∧ Below X.heap.size X w') := ⟨fun X => by rw [hg9, hok]; exact l8Path_any F f x y X (hM _ _ _)⟩
          clear hf hx hy hg9 hok
          obtain ⟨g, hgg⟩ : ∃ g : Fl, g = g9 := ⟨_, rfl⟩
          subst hgg
          have HM : Keep (∀ (f x y : ByteArray) W, Calls Tryz.prog 68 #[.string f, .string x, .string y] W fun e w' => e = .returned (mrgV (F f x y)) ∧ Below W.heap.size W w') := ⟨hM⟩
          clear hM
          go_upto_region 9 with fail
          go_cut [11, 12] from 37 to 89 (fun pv bv wx => CutG g ok wr pv bv wx)
          case first =>
            refine (wpIn_wide (n := 0)).1 ?_
            refine wpIn_region_inv0 (by kernel_rfl) (by kernel_rfl) (fun T0 => BV T0 [44, 45, 46, 47, 48, 49, 50, 51, 52, 53, 54, 55, 56, 57, 58, 59, 60, 61, 62, 43, 63, 64, 11, 1000, 12] (s9Tab a b c bs.length ca xs.length cb ys.length cc ng ns.length cn k s f x y g ok) 22 23 (fun fb => FB fb noFl) (fun fb => FB fb g) wr) ?_ ?_ ?_
            · exact BV.start _
            · intro L a2 w9 hinv hall
              obtain ⟨fb, f1, f2, f3, _⟩ := BV.at hinv (by decide) (hall 22 (by decide))
              replace f3 := f3 (hall 23 (by decide))
              have f4 : a2.eval (.tmp 12) = .bool ok := hinv.sl.sl 24 (by decide) _ rfl (hall 24 (by decide))
              have HX : Keep _ := ⟨hinv.sl.act⟩
              have f5 : Below wr.heap.size wr w9 := hinv.wd
              clear hinv hall
              rw [HX.out]
              go_wp2_with fail
              go_meet
              case rel => exact ⟨fb, evalD2 f1, evalD2 f4, f3, f2, f5⟩
            · intro L a2 w9 i o hinv hcl hL ho hdep
              have hi25 : i < 25 := (Array.getElem?_eq_some_iff.1 ho).1
              have nd := (by decide : ([44, 45, 46, 47, 48, 49, 50, 51, 52, 53, 54, 55, 56, 57, 58, 59, 60, 61, 62, 43, 63, 64, 11, 1000, 12] : List Nat).Nodup)
              unfold wpOpIn
              rw [ho]
              have hwd : Below wr.heap.size wr w9 := hinv.wd
              have c1 := cell_later hwd t1
              have c2 := cell_later hwd t2
              have c3 := cell_later hwd t3
              have c4 := cell_later hwd nk
              match i, hi25, hL, ho, hdep with
                  | 0, _, hL, ho, hdep =>
                    injection ho with ho; subst ho
                    dsimp only
                    rw [if_pos (by rfl)]
                    refine ⟨fun f _ => trivial, ?_⟩
                    have e3 : a2.tmps[3]?.getD undef = .pointer (some ⟨ta, 0, none⟩) := hinv.sl.old (by decide)
                    go_simp
                    exact BV.step hinv nd (fun fb {_ _} hb h => FB.later h hb) (fun fb {_ _} hb h => FB.later h hb) (i := 0) (by decide) (show 44 < 147 by omega) (by decide) (by decide) rfl (Below.refl _ _)
                  | 1, _, hL, ho, hdep =>
                    injection ho with ho; subst ho
                    dsimp only
                    rw [if_pos (by rfl)]
                    refine ⟨fun f _ => trivial, ?_⟩
                    have e7 : a2.tmps[7]?.getD undef = .slice (some ⟨ng, 0, none⟩) ns.length cn := hinv.sl.old (by decide)
                    go_simp
                    exact BV.step hinv nd (fun fb {_ _} hb h => FB.later h hb) (fun fb {_ _} hb h => FB.later h hb) (i := 1) (by decide) (show 45 < 147 by omega) (by decide) (by decide) rfl (Below.refl _ _)
                  | 2, _, hL, ho, hdep =>
                    injection ho with ho; subst ho
                    dsimp only
                    rw [if_pos (by rfl)]
                    refine ⟨fun f _ => trivial, ?_⟩
                    have e10 : a2.tmps[10]?.getD undef = .int .i64 k := hinv.sl.old (by decide)
                    go_simp
                    exact BV.step hinv nd (fun fb {_ _} hb h => FB.later h hb) (fun fb {_ _} hb h => FB.later h hb) (i := 2) (by decide) (show 46 < 147 by omega) (by decide) (by decide) rfl (Below.refl _ _)
                  | 3, _, hL, ho, hdep =>
                    injection ho with ho; subst ho
                    dsimp only
                    rw [if_pos (by rfl)]
                    refine ⟨fun f _ => trivial, ?_⟩
                    have e45 : a2.tmps[45]?.getD undef = .slice (some ⟨ng, 0, none⟩) ns.length cn := hinv.sl.new (i := 1) (by decide) rfl (hdep ⟨1, .data⟩ (by simp) rfl)
                    have e46 : a2.tmps[46]?.getD undef = .int .i64 k := hinv.sl.new (i := 2) (by decide) rfl (hdep ⟨2, .data⟩ (by simp) rfl)
                    go_simp
                    exact BV.step hinv nd (fun fb {_ _} hb h => FB.later h hb) (fun fb {_ _} hb h => FB.later h hb) (i := 3) (by decide) (show 47 < 147 by omega) (by decide) (by decide) rfl (Below.refl _ _)
                  | 4, _, hL, ho, hdep =>
                    injection ho with ho; subst ho
                    dsimp only
                    rw [if_pos (by rfl)]
                    refine ⟨fun f _ => trivial, ?_⟩
                    have e47 : a2.tmps[47]?.getD undef = .pointer (some ⟨ng, k, none⟩) := hinv.sl.new (i := 3) (by decide) rfl (hdep ⟨3, .data⟩ (by simp) rfl)
                    go_simp
                    exact BV.step hinv nd (fun fb {_ _} hb h => FB.later h hb) (fun fb {_ _} hb h => FB.later h hb) (i := 4) (by decide) (show 48 < 147 by omega) (by decide) (by decide) rfl (Below.refl _ _)
                  | 5, _, hL, ho, hdep =>
                    injection ho with ho; subst ho
                    dsimp only
                    rw [if_pos (by rfl)]
                    refine ⟨fun f _ => trivial, ?_⟩
                    have e44 : a2.tmps[44]?.getD undef = .agg #[.slice a bs.length ca] := hinv.sl.new (i := 0) (by decide) rfl (hdep ⟨0, .data⟩ (by simp) rfl)
                    have e48 : a2.tmps[48]?.getD undef = .string s := hinv.sl.new (i := 4) (by decide) rfl (hdep ⟨4, .data⟩ (by simp) rfl)
                    go_simp
                    refine ⟨rfl, CallsIn.mono (callsIn_wide.2 (HA1.out w9 hinv.wd)) ?_⟩
                    rintro e w' ⟨rfl, hb'⟩
                    exact BV.step hinv nd (fun fb {_ _} hb h => FB.later h hb) (fun fb {_ _} hb h => FB.later h hb) (i := 5) (by decide) (show 49 < 147 by omega) (by decide) (by decide) rfl hb'
                  | 6, _, hL, ho, hdep =>
                    injection ho with ho; subst ho
                    dsimp only
                    rw [if_pos (by rfl)]
                    refine ⟨fun f _ => trivial, ?_⟩
                    have e4 : a2.tmps[4]?.getD undef = .pointer (some ⟨tb, 0, none⟩) := hinv.sl.old (by decide)
                    go_simp
                    exact BV.step hinv nd (fun fb {_ _} hb h => FB.later h hb) (fun fb {_ _} hb h => FB.later h hb) (i := 6) (by decide) (show 50 < 147 by omega) (by decide) (by decide) rfl (Below.refl _ _)
                  | 7, _, hL, ho, hdep =>
                    injection ho with ho; subst ho
                    dsimp only
                    rw [if_pos (by rfl)]
                    refine ⟨fun f _ => trivial, ?_⟩
                    have e7 : a2.tmps[7]?.getD undef = .slice (some ⟨ng, 0, none⟩) ns.length cn := hinv.sl.old (by decide)
                    go_simp
                    exact BV.step hinv nd (fun fb {_ _} hb h => FB.later h hb) (fun fb {_ _} hb h => FB.later h hb) (i := 7) (by decide) (show 51 < 147 by omega) (by decide) (by decide) rfl (Below.refl _ _)
                  | 8, _, hL, ho, hdep =>
                    injection ho with ho; subst ho
                    dsimp only
                    rw [if_pos (by rfl)]
                    refine ⟨fun f _ => trivial, ?_⟩
                    have e10 : a2.tmps[10]?.getD undef = .int .i64 k := hinv.sl.old (by decide)
                    go_simp
                    exact BV.step hinv nd (fun fb {_ _} hb h => FB.later h hb) (fun fb {_ _} hb h => FB.later h hb) (i := 8) (by decide) (show 52 < 147 by omega) (by decide) (by decide) rfl (Below.refl _ _)
                  | 9, _, hL, ho, hdep =>
                    injection ho with ho; subst ho
                    dsimp only
                    rw [if_pos (by rfl)]
                    refine ⟨fun f _ => trivial, ?_⟩
                    have e51 : a2.tmps[51]?.getD undef = .slice (some ⟨ng, 0, none⟩) ns.length cn := hinv.sl.new (i := 7) (by decide) rfl (hdep ⟨7, .data⟩ (by simp) rfl)
                    have e52 : a2.tmps[52]?.getD undef = .int .i64 k := hinv.sl.new (i := 8) (by decide) rfl (hdep ⟨8, .data⟩ (by simp) rfl)
                    go_simp
                    exact BV.step hinv nd (fun fb {_ _} hb h => FB.later h hb) (fun fb {_ _} hb h => FB.later h hb) (i := 9) (by decide) (show 53 < 147 by omega) (by decide) (by decide) rfl (Below.refl _ _)
                  | 10, _, hL, ho, hdep =>
                    injection ho with ho; subst ho
                    dsimp only
                    rw [if_pos (by rfl)]
                    refine ⟨fun f _ => trivial, ?_⟩
                    have e53 : a2.tmps[53]?.getD undef = .pointer (some ⟨ng, k, none⟩) := hinv.sl.new (i := 9) (by decide) rfl (hdep ⟨9, .data⟩ (by simp) rfl)
                    go_simp
                    exact BV.step hinv nd (fun fb {_ _} hb h => FB.later h hb) (fun fb {_ _} hb h => FB.later h hb) (i := 10) (by decide) (show 54 < 147 by omega) (by decide) (by decide) rfl (Below.refl _ _)
                  | 11, _, hL, ho, hdep =>
                    injection ho with ho; subst ho
                    dsimp only
                    rw [if_pos (by rfl)]
                    refine ⟨fun f _ => trivial, ?_⟩
                    have e50 : a2.tmps[50]?.getD undef = .agg #[.slice b xs.length cb] := hinv.sl.new (i := 6) (by decide) rfl (hdep ⟨6, .data⟩ (by simp) rfl)
                    have e54 : a2.tmps[54]?.getD undef = .string s := hinv.sl.new (i := 10) (by decide) rfl (hdep ⟨10, .data⟩ (by simp) rfl)
                    go_simp
                    refine ⟨rfl, CallsIn.mono (callsIn_wide.2 (HA2.out w9 hinv.wd)) ?_⟩
                    rintro e w' ⟨rfl, hb'⟩
                    exact BV.step hinv nd (fun fb {_ _} hb h => FB.later h hb) (fun fb {_ _} hb h => FB.later h hb) (i := 11) (by decide) (show 55 < 147 by omega) (by decide) (by decide) rfl hb'
                  | 12, _, hL, ho, hdep =>
                    injection ho with ho; subst ho
                    dsimp only
                    rw [if_pos (by rfl)]
                    refine ⟨fun f _ => trivial, ?_⟩
                    have e5 : a2.tmps[5]?.getD undef = .pointer (some ⟨tc, 0, none⟩) := hinv.sl.old (by decide)
                    go_simp
                    exact BV.step hinv nd (fun fb {_ _} hb h => FB.later h hb) (fun fb {_ _} hb h => FB.later h hb) (i := 12) (by decide) (show 56 < 147 by omega) (by decide) (by decide) rfl (Below.refl _ _)
                  | 13, _, hL, ho, hdep =>
                    injection ho with ho; subst ho
                    dsimp only
                    rw [if_pos (by rfl)]
                    refine ⟨fun f _ => trivial, ?_⟩
                    have e7 : a2.tmps[7]?.getD undef = .slice (some ⟨ng, 0, none⟩) ns.length cn := hinv.sl.old (by decide)
                    go_simp
                    exact BV.step hinv nd (fun fb {_ _} hb h => FB.later h hb) (fun fb {_ _} hb h => FB.later h hb) (i := 13) (by decide) (show 57 < 147 by omega) (by decide) (by decide) rfl (Below.refl _ _)
                  | 14, _, hL, ho, hdep =>
                    injection ho with ho; subst ho
                    dsimp only
                    rw [if_pos (by rfl)]
                    refine ⟨fun f _ => trivial, ?_⟩
                    have e10 : a2.tmps[10]?.getD undef = .int .i64 k := hinv.sl.old (by decide)
                    go_simp
                    exact BV.step hinv nd (fun fb {_ _} hb h => FB.later h hb) (fun fb {_ _} hb h => FB.later h hb) (i := 14) (by decide) (show 58 < 147 by omega) (by decide) (by decide) rfl (Below.refl _ _)
                  | 15, _, hL, ho, hdep =>
                    injection ho with ho; subst ho
                    dsimp only
                    rw [if_pos (by rfl)]
                    refine ⟨fun f _ => trivial, ?_⟩
                    have e57 : a2.tmps[57]?.getD undef = .slice (some ⟨ng, 0, none⟩) ns.length cn := hinv.sl.new (i := 13) (by decide) rfl (hdep ⟨13, .data⟩ (by simp) rfl)
                    have e58 : a2.tmps[58]?.getD undef = .int .i64 k := hinv.sl.new (i := 14) (by decide) rfl (hdep ⟨14, .data⟩ (by simp) rfl)
                    go_simp
                    exact BV.step hinv nd (fun fb {_ _} hb h => FB.later h hb) (fun fb {_ _} hb h => FB.later h hb) (i := 15) (by decide) (show 59 < 147 by omega) (by decide) (by decide) rfl (Below.refl _ _)
                  | 16, _, hL, ho, hdep =>
                    injection ho with ho; subst ho
                    dsimp only
                    rw [if_pos (by rfl)]
                    refine ⟨fun f _ => trivial, ?_⟩
                    have e59 : a2.tmps[59]?.getD undef = .pointer (some ⟨ng, k, none⟩) := hinv.sl.new (i := 15) (by decide) rfl (hdep ⟨15, .data⟩ (by simp) rfl)
                    go_simp
                    exact BV.step hinv nd (fun fb {_ _} hb h => FB.later h hb) (fun fb {_ _} hb h => FB.later h hb) (i := 16) (by decide) (show 60 < 147 by omega) (by decide) (by decide) rfl (Below.refl _ _)
                  | 17, _, hL, ho, hdep =>
                    injection ho with ho; subst ho
                    dsimp only
                    rw [if_pos (by rfl)]
                    refine ⟨fun f _ => trivial, ?_⟩
                    have e56 : a2.tmps[56]?.getD undef = .agg #[.slice c ys.length cc] := hinv.sl.new (i := 12) (by decide) rfl (hdep ⟨12, .data⟩ (by simp) rfl)
                    have e60 : a2.tmps[60]?.getD undef = .string s := hinv.sl.new (i := 16) (by decide) rfl (hdep ⟨16, .data⟩ (by simp) rfl)
                    go_simp
                    refine ⟨rfl, CallsIn.mono (callsIn_wide.2 (HA3.out w9 hinv.wd)) ?_⟩
                    rintro e w' ⟨rfl, hb'⟩
                    exact BV.step hinv nd (fun fb {_ _} hb h => FB.later h hb) (fun fb {_ _} hb h => FB.later h hb) (i := 17) (by decide) (show 61 < 147 by omega) (by decide) (by decide) rfl hb'
                  | 18, _, hL, ho, hdep =>
                    injection ho with ho; subst ho
                    dsimp only
                    rw [if_pos (by rfl)]
                    refine ⟨fun f _ => trivial, ?_⟩
                    have e49 : a2.tmps[49]?.getD undef = .agg #[.bool f.there, .string f.text, .bool f.runs] := hinv.sl.new (i := 5) (by decide) rfl (hdep ⟨5, .data⟩ (by simp) rfl)
                    have e55 : a2.tmps[55]?.getD undef = .agg #[.bool x.there, .string x.text, .bool x.runs] := hinv.sl.new (i := 11) (by decide) rfl (hdep ⟨11, .data⟩ (by simp) rfl)
                    have e61 : a2.tmps[61]?.getD undef = .agg #[.bool y.there, .string y.text, .bool y.runs] := hinv.sl.new (i := 17) (by decide) rfl (hdep ⟨17, .data⟩ (by simp) rfl)
                    go_simp
                    refine ⟨rfl, CallsIn.mono (callsIn_wide.2 (HA4.out w9)) ?_⟩
                    rintro e w' ⟨rfl, hb'⟩
                    exact BV.step hinv nd (fun fb {_ _} hb h => FB.later h hb) (fun fb {_ _} hb h => FB.later h hb) (i := 18) (by decide) (show 62 < 147 by omega) (by decide) (by decide) rfl hb'
                  | 19, _, hL, ho, hdep =>
                    injection ho with ho; subst ho
                    dsimp only
                    rw [if_pos (by rfl)]
                    refine ⟨fun f _ => trivial, ?_⟩
                    have e62 : a2.tmps[62]?.getD undef = .tuple #[.agg #[.bool g.there, .string g.text, .bool g.runs], .bool ok] := hinv.sl.new (i := 18) (by decide) rfl (hdep ⟨18, .data⟩ (by simp) rfl)
                    go_simp
                    exact BV.step hinv nd (fun fb {_ _} hb h => FB.later h hb) (fun fb {_ _} hb h => FB.later h hb) (i := 19) (by decide) (show 43 < 147 by omega) (by decide) (by decide) rfl (Below.refl _ _)
                  | 20, _, hL, ho, hdep =>
                    injection ho with ho; subst ho
                    dsimp only
                    rw [if_pos (by rfl)]
                    refine ⟨fun f _ => trivial, ?_⟩
                    have e43 : a2.tmps[43]?.getD undef = .tuple #[.agg #[.bool g.there, .string g.text, .bool g.runs], .bool ok] := hinv.sl.new (i := 19) (by decide) rfl (hdep ⟨19, .data⟩ (by simp) rfl)
                    go_simp
                    exact BV.step hinv nd (fun fb {_ _} hb h => FB.later h hb) (fun fb {_ _} hb h => FB.later h hb) (i := 20) (by decide) (show 63 < 147 by omega) (by decide) (by decide) rfl (Below.refl _ _)
                  | 21, _, hL, ho, hdep =>
                    injection ho with ho; subst ho
                    dsimp only
                    rw [if_pos (by rfl)]
                    refine ⟨fun f _ => trivial, ?_⟩
                    have e43 : a2.tmps[43]?.getD undef = .tuple #[.agg #[.bool g.there, .string g.text, .bool g.runs], .bool ok] := hinv.sl.new (i := 19) (by decide) rfl (hdep ⟨19, .data⟩ (by simp) rfl)
                    go_simp
                    exact BV.step hinv nd (fun fb {_ _} hb h => FB.later h hb) (fun fb {_ _} hb h => FB.later h hb) (i := 21) (by decide) (show 64 < 147 by omega) (by decide) (by decide) rfl (Below.refl _ _)
                  | 22, _, hL, ho, hdep =>
                    injection ho with ho; subst ho
                    dsimp only
                    rw [if_pos (by rfl)]
                    refine ⟨fun f _ => trivial, ?_⟩
                    go_simp
                    exact BV.box hinv nd (fun fb {_ _} hb h => FB.later h hb) (fun fb {_ _} hb h => FB.later h hb) (by decide) (show 11 < 147 by omega) (by decide) rfl (undone hcl (i := 23) rfl (j := 22) (k := .data) (by simp) rfl (getD_ft hL)) (FB.new w9 noFl _)
                  | 23, _, hL, ho, hdep =>
                    injection ho with ho; subst ho
                    dsimp only
                    rw [if_pos (by rfl)]
                    refine ⟨fun f _ => trivial, ?_⟩
                    obtain ⟨fb, f1, f2, _, f3⟩ := BV.at hinv (by decide) (hdep ⟨22, .data⟩ (by simp) rfl)
                    replace f3 := f3 (getD_ft hL)
                    have e11 : a2.tmps[11]?.getD undef = .pointer (some ⟨fb, 0, none⟩) := evalD2 f1
                    have e63 : a2.tmps[63]?.getD undef = .agg #[.bool g.there, .string g.text, .bool g.runs] := hinv.sl.new (i := 20) (by decide) rfl (hdep ⟨20, .data⟩ (by simp) rfl)
                    have n0 := f3.c0
                    have n1 := f3.c1
                    have n2 := f3.c2
                    have nf := f3.fz
                    go_simp
                    exact BV.store hinv (by decide) hL rfl (by decide) (hdep ⟨22, .data⟩ (by simp) rfl) f1 (f3.set g) (FB.set_below hinv.wd f2 g)
                  | 24, _, hL, ho, hdep =>
                    injection ho with ho; subst ho
                    dsimp only
                    rw [if_pos (by rfl)]
                    refine ⟨fun f _ => trivial, ?_⟩
                    have e64 : a2.tmps[64]?.getD undef = .bool ok := hinv.sl.new (i := 21) (by decide) rfl (hdep ⟨21, .data⟩ (by simp) rfl)
                    go_simp
                    exact BV.step hinv nd (fun fb {_ _} hb h => FB.later h hb) (fun fb {_ _} hb h => FB.later h hb) (i := 24) (by decide) (show 12 < 147 by omega) (by decide) (by decide) rfl (Below.refl _ _)

          case rest =>
            obtain ⟨fb, rfl, rfl, hF, hfb, hB1⟩ := hcut
            have hs2 := hs.later hB1
            have nk2 := cell_later hB1 nk
            have HFB : Keep (wr.heap.size ≤ fb ∧ ∀ j, u9.ownBlock = some j → j < wr.heap.size) := ⟨⟨hfb, fun j e => owns_lt hs.row2 e⟩⟩
            clear t1 t2 t3 nk HA1 HA2 HA3 HA4 hs hB1 hfb
            obtain ⟨X, hX⟩ : ∃ X, X = wc := ⟨_, rfl⟩
            subst hX
            cases ok with
            | false =>
              obtain ⟨e1, e2, rfl⟩ := HE.out.2 rfl
              have HU2 : Keep (outM F bs xs ys (ns.take (k + 1)) = us ∧ clsM F bs xs ys (ns.take (k + 1)) = ks ++ [s]) := ⟨by rw [HU.out.1, HU.out.2, e1, e2, List.append_nil]; exact ⟨rfl, rfl⟩⟩
              clear e1 e2 HE HU
              have hxb := below_oneD X (.cells #[.string s] 9)
              go_wp2_with (first | (at_builtin; refine wpList_append_lies _ rfl _ _ 28 rfl W0.heap.size 9 j0 _ 1 16 Tryz.underlying28 hj0 jz0 jz1 jz2 rfl (by decide) u9 ks.length (ks.map .string) rfl (hs2.row2.alloc _) ⟨X.heap.size, 0, none⟩ 1 1 [.string s] rfl rfl (by simpa using cell_one_new X (.string s) 9) (by simp [Value.oneCell']) (by omega) (by unfold maxLen; omega) (by omega) (by have := hs2.sz; simp; omega) (X.heap.size + 1) (by simp) ?_; intro g2 cap2 w2 hown2 hgrow2 hat2 hlt2; have hF2 := (hF.later hxb).grown hgrow2 (fun e => by have h1 := HFB.out.2 _ e; have h2 := HFB.out.1; omega); have x0 : w2.cell? ⟨fb, 0, none⟩ = some (.bool false) := hF2.c0))
              have hs3 := hs2.addK hxb hgrow2 hown2 hat2 (by simp)
              clear hF2 x0 hown2 hgrow2 hat2 hlt2 hs2 hF nk2
              go_roundw
              case rel => exact ⟨k + 1, v, by congr 1, hlt, by rw [HU2.out.1, HU2.out.2]; exact hs3⟩
              case measure => simp only [intOf]; omega
            | true =>
              obtain ⟨e1, e2⟩ := HE.out.1 rfl
              have x0 := hF.c0
              cases hth : g.there with
              | false =>
                rw [hth] at x0 e2
                have HU2 : Keep (outM F bs xs ys (ns.take (k + 1)) = us ∧ clsM F bs xs ys (ns.take (k + 1)) = ks) := ⟨by rw [HU.out.1, HU.out.2, e1, e2, List.append_nil]; exact ⟨by simp, rfl⟩⟩
                clear e1 e2 HE HU hth
                go_wp2
                go_roundw
                case rel => exact ⟨k + 1, v, by congr 1, hlt, by rw [HU2.out.1, HU2.out.2]; exact hs2⟩
                case measure => simp only [intOf]; omega
              | true =>
                rw [hth] at x0 e2
                have HU2 : Keep (outM F bs xs ys (ns.take (k + 1)) = us ++ [⟨s, g.text, g.runs⟩] ∧ clsM F bs xs ys (ns.take (k + 1)) = ks) := ⟨by rw [HU.out.1, HU.out.2, e1, e2, List.append_nil]; exact ⟨by simp, rfl⟩⟩
                clear e1 e2 HE HU hth
                go_upto_region 13 with fail
                refine (wpIn_wide (n := 0)).1 ?_
                refine wpIn_region_inv0 (by kernel_rfl) (by kernel_rfl) (fun T0 => AE T0 [76, 77, 78, 79, 80, 81, 82, 83, 84, 85, 86, 87, 88, 89, 1000] (s13Tab ob ng ns.length cn k fb v s g) 11 12 14 87 88 w [ob] ob W0 X v u9 us ks ⟨s, g.text, g.runs⟩) ?_ ?_ ?_
                · exact AE.start _
                · intro L a2 w9 hinv hall
                  obtain ⟨v', hs3, _⟩ := hinv.p3 (hall 14 (by decide))
                  have HX : Keep _ := ⟨hinv.sl.act⟩
                  clear hinv hall hs2 hF nk2 x0
                  rw [HX.out]
                  simp only [updL, List.contains_cons, List.contains_nil, Nat.reduceAdd, Nat.reduceBEq, Bool.or_false, cond_false, cond_true, Bool.or_true]
                  go_wp2
                  go_roundw
                  case rel => exact ⟨k + 1, v', by congr 1, hlt, by rw [HU2.out.1, HU2.out.2]; exact hs3⟩
                  case measure => simp only [intOf]; omega
                · intro L a2 w9 i o hinv hcl hL ho hdep
                  have hi15 : i < 15 := (Array.getElem?_eq_some_iff.1 ho).1
                  have nd := (by decide : ([76, 77, 78, 79, 80, 81, 82, 83, 84, 85, 86, 87, 88, 89, 1000] : List Nat).Nodup)
                  unfold wpOpIn
                  rw [ho]
                  match i, hi15, hL, ho, hdep with
                    | 0, _, hL, ho, hdep =>
                      injection ho with ho; subst ho
                      dsimp only
                      rw [if_pos (by rfl)]
                      refine ⟨fun f _ => trivial, ?_⟩
                      have e8 : a2.tmps[8]?.getD undef = .pointer (some ⟨ob, 0, none⟩) := hinv.sl.old (by decide)
                      go_simp
                      exact hinv.step nd (i := 0) (by decide) (show 76 < 147 by omega) (by decide) (by decide) (by decide) (by decide) (by decide) rfl (.inl rfl)
                    | 1, _, hL, ho, hdep =>
                      injection ho with ho; subst ho
                      dsimp only
                      rw [if_pos (by rfl)]
                      refine ⟨fun f _ => trivial, ?_⟩
                      have e76 : a2.tmps[76]?.getD undef = .pointer (some ⟨ob, 0, none⟩) := hinv.sl.new (i := 0) (by decide) rfl (hdep ⟨0, .data⟩ (by simp) rfl)
                      have hw9 := hinv.below (undone hcl (i := 12) rfl (j := 1) (k := .data) (by simp) rfl (getD_ft hL))
                      have c0 := (hs2.later hw9).cell
                      go_simp
                      exact hinv.step nd (i := 1) (by decide) (show 77 < 147 by omega) (by decide) (by decide) (by decide) (by decide) (by decide) rfl (.inl rfl)
                    | 2, _, hL, ho, hdep =>
                      injection ho with ho; subst ho
                      dsimp only
                      rw [if_pos (by rfl)]
                      refine ⟨fun f _ => trivial, ?_⟩
                      have e7 : a2.tmps[7]?.getD undef = .slice (some ⟨ng, 0, none⟩) ns.length cn := hinv.sl.old (by decide)
                      go_simp
                      exact hinv.step nd (i := 2) (by decide) (show 78 < 147 by omega) (by decide) (by decide) (by decide) (by decide) (by decide) rfl (.inl rfl)
                    | 3, _, hL, ho, hdep =>
                      injection ho with ho; subst ho
                      dsimp only
                      rw [if_pos (by rfl)]
                      refine ⟨fun f _ => trivial, ?_⟩
                      have e10 : a2.tmps[10]?.getD undef = .int .i64 k := hinv.sl.old (by decide)
                      go_simp
                      exact hinv.step nd (i := 3) (by decide) (show 79 < 147 by omega) (by decide) (by decide) (by decide) (by decide) (by decide) rfl (.inl rfl)
                    | 4, _, hL, ho, hdep =>
                      injection ho with ho; subst ho
                      dsimp only
                      rw [if_pos (by rfl)]
                      refine ⟨fun f _ => trivial, ?_⟩
                      have e78 : a2.tmps[78]?.getD undef = .slice (some ⟨ng, 0, none⟩) ns.length cn := hinv.sl.new (i := 2) (by decide) rfl (hdep ⟨2, .data⟩ (by simp) rfl)
                      have e79 : a2.tmps[79]?.getD undef = .int .i64 k := hinv.sl.new (i := 3) (by decide) rfl (hdep ⟨3, .data⟩ (by simp) rfl)
                      go_simp
                      exact hinv.step nd (i := 4) (by decide) (show 80 < 147 by omega) (by decide) (by decide) (by decide) (by decide) (by decide) rfl (.inl rfl)
                    | 5, _, hL, ho, hdep =>
                      injection ho with ho; subst ho
                      dsimp only
                      rw [if_pos (by rfl)]
                      refine ⟨fun f _ => trivial, ?_⟩
                      have e80 : a2.tmps[80]?.getD undef = .pointer (some ⟨ng, k, none⟩) := hinv.sl.new (i := 4) (by decide) rfl (hdep ⟨4, .data⟩ (by simp) rfl)
                      have hw9 := hinv.p0 (undone hcl (i := 11) rfl (j := 10) (k := .data) (by simp) rfl (undone hcl (i := 10) rfl (j := 5) (k := .data) (by simp) rfl (getD_ft hL)))
                      have c0 := cell_later hw9 nk2
                      go_simp
                      exact hinv.step nd (i := 5) (by decide) (show 81 < 147 by omega) (by decide) (by decide) (by decide) (by decide) (by decide) rfl (.inl rfl)
                    | 6, _, hL, ho, hdep =>
                      injection ho with ho; subst ho
                      dsimp only
                      rw [if_pos (by rfl)]
                      refine ⟨fun f _ => trivial, ?_⟩
                      have e11 : a2.tmps[11]?.getD undef = .pointer (some ⟨fb, 0, none⟩) := hinv.sl.old (by decide)
                      go_simp
                      exact hinv.step nd (i := 6) (by decide) (show 82 < 147 by omega) (by decide) (by decide) (by decide) (by decide) (by decide) rfl (.inl rfl)
                    | 7, _, hL, ho, hdep =>
                      injection ho with ho; subst ho
                      dsimp only
                      rw [if_pos (by rfl)]
                      refine ⟨fun f _ => trivial, ?_⟩
                      have e82 : a2.tmps[82]?.getD undef = .pointer (some ⟨fb, 1, none⟩) := hinv.sl.new (i := 6) (by decide) rfl (hdep ⟨6, .data⟩ (by simp) rfl)
                      have hw9 := hinv.p0 (undone hcl (i := 11) rfl (j := 10) (k := .data) (by simp) rfl (undone hcl (i := 10) rfl (j := 7) (k := .data) (by simp) rfl (getD_ft hL)))
                      have c0 := (hF.later hw9).c1
                      go_simp
                      exact hinv.step nd (i := 7) (by decide) (show 83 < 147 by omega) (by decide) (by decide) (by decide) (by decide) (by decide) rfl (.inl rfl)
                    | 8, _, hL, ho, hdep =>
                      injection ho with ho; subst ho
                      dsimp only
                      rw [if_pos (by rfl)]
                      refine ⟨fun f _ => trivial, ?_⟩
                      have e11 : a2.tmps[11]?.getD undef = .pointer (some ⟨fb, 0, none⟩) := hinv.sl.old (by decide)
                      go_simp
                      exact hinv.step nd (i := 8) (by decide) (show 84 < 147 by omega) (by decide) (by decide) (by decide) (by decide) (by decide) rfl (.inl rfl)
                    | 9, _, hL, ho, hdep =>
                      injection ho with ho; subst ho
                      dsimp only
                      rw [if_pos (by rfl)]
                      refine ⟨fun f _ => trivial, ?_⟩
                      have e84 : a2.tmps[84]?.getD undef = .pointer (some ⟨fb, 2, none⟩) := hinv.sl.new (i := 8) (by decide) rfl (hdep ⟨8, .data⟩ (by simp) rfl)
                      have hw9 := hinv.p0 (undone hcl (i := 11) rfl (j := 10) (k := .data) (by simp) rfl (undone hcl (i := 10) rfl (j := 9) (k := .data) (by simp) rfl (getD_ft hL)))
                      have c0 := (hF.later hw9).c2
                      go_simp
                      exact hinv.step nd (i := 9) (by decide) (show 85 < 147 by omega) (by decide) (by decide) (by decide) (by decide) (by decide) rfl (.inl rfl)
                    | 10, _, hL, ho, hdep =>
                      injection ho with ho; subst ho
                      dsimp only
                      rw [if_pos (by rfl)]
                      refine ⟨fun f _ => trivial, ?_⟩
                      have e81 : a2.tmps[81]?.getD undef = .string s := hinv.sl.new (i := 5) (by decide) rfl (hdep ⟨5, .data⟩ (by simp) rfl)
                      have e83 : a2.tmps[83]?.getD undef = .string g.text := hinv.sl.new (i := 7) (by decide) rfl (hdep ⟨7, .data⟩ (by simp) rfl)
                      have e85 : a2.tmps[85]?.getD undef = .bool g.runs := hinv.sl.new (i := 9) (by decide) rfl (hdep ⟨9, .data⟩ (by simp) rfl)
                      go_simp
                      exact hinv.step nd (i := 10) (by decide) (show 86 < 147 by omega) (by decide) (by decide) (by decide) (by decide) (by decide) rfl (.inl rfl)
                    | 11, _, hL, ho, hdep =>
                      injection ho with ho; subst ho
                      dsimp only
                      rw [if_pos (by rfl)]
                      refine ⟨fun f _ => trivial, ?_⟩
                      have e86 : a2.tmps[86]?.getD undef = .agg #[.string s, .string g.text, .bool g.runs] := hinv.sl.new (i := 10) (by decide) rfl (hdep ⟨10, .data⟩ (by simp) rfl)
                      have h12 := undone hcl (i := 12) rfl (j := 11) (k := .data) (by simp) rfl (getD_ft hL)
                      have h14 := undone hcl (i := 14) rfl (j := 12) (k := .data) (by simp) rfl (undone hcl (i := 12) rfl (j := 11) (k := .data) (by simp) rfl (getD_ft hL))
                      go_simp
                      exact hinv.build nd (by decide) (show 87 < 147 by omega) (by decide) (by decide) rfl rfl h12 h14 hL
                    | 12, _, hL, ho, hdep =>
                      injection ho with ho; subst ho
                      dsimp only
                      rw [if_pos (by rfl)]
                      have h11 := hdep ⟨11, .data⟩ (by simp) rfl
                      obtain ⟨y, hy, rfl, e87⟩ := hinv.p1 h11 (getD_ft hL)
                      have e77 := hinv.sl.sl 1 (by decide) _ rfl (hdep ⟨1, .data⟩ (by simp) rfl)
                      have h14 := undone hcl (i := 14) rfl (j := 12) (k := .data) (by simp) rfl (getD_ft hL)
                      obtain ⟨g2, cap2, w5, hrun, hown, hgr, hat, _⟩ := run_append_lies (P := Tryz.prog) (y.alloc (.cells #[.string s, .string g.text, .bool g.runs] 55)) 23 23 W0.heap.size 55 i0 _ 3 40 Tryz.underlying23 hi hz0 hz1 hz2 rfl (by decide) v us.length (ecells us) (owns_below hs2.row (hy.trans ((below_oneD y _).mono hy.size))) ⟨y.heap.size, 0, none⟩ 1 1 (ecell ⟨s, g.text, g.runs⟩) rfl (news_3 y ⟨s, g.text, g.runs⟩ _ _ rfl) (one_3 _) (by omega) (by unfold maxLen; omega) (by omega) (by have := hs2.sz; have := hy.size; simp; omega) _ rfl
                      refine wpIn_appendZ _ _ _ rfl e77 e87 hrun ?_
                      exact hinv.app nd (by decide) (show 88 < 147 by omega) (by decide) (by decide) rfl rfl h11 h14 hL (hy.trans ((below_oneD y _).mono hy.size)) hown hgr hat
                    | 13, _, hL, ho, hdep =>
                      injection ho with ho; subst ho
                      dsimp only
                      rw [if_pos (by rfl)]
                      refine ⟨fun f _ => trivial, ?_⟩
                      have e8 : a2.tmps[8]?.getD undef = .pointer (some ⟨ob, 0, none⟩) := hinv.sl.old (by decide)
                      go_simp
                      exact hinv.step nd (i := 13) (by decide) (show 89 < 147 by omega) (by decide) (by decide) (by decide) (by decide) (by decide) rfl (.inl rfl)
                    | 14, _, hL, ho, hdep =>
                      injection ho with ho; subst ho
                      dsimp only
                      rw [if_pos (by rfl)]
                      refine ⟨fun f _ => trivial, ?_⟩
                      have h12 := hdep ⟨12, .data⟩ (by simp) rfl
                      have h11 := hcl 12 _ rfl h12 ⟨11, .data⟩ (by simp) rfl
                      obtain ⟨W1, g2, cap2, e88, hX1, hown, hgr, hat⟩ := hinv.p2 h12 (getD_ft hL)
                      have e88b : a2.tmps[88]?.getD undef = .slice (some ⟨g2, 0, none⟩) (us.length + 1) cap2 := evalD2 e88
                      have e89 : a2.tmps[89]?.getD undef = .pointer (some ⟨ob, 0, none⟩) := hinv.sl.new (i := 13) (by decide) rfl (hdep ⟨13, .data⟩ (by simp) rfl)
                      obtain ⟨⟨oc, of⟩, hs3, hk3⟩ := hs2.addE (e := ⟨s, g.text, g.runs⟩) hX1 hgr hown hat rfl
                      go_simp
                      exact hinv.last (by decide) (by decide) rfl h11 h12 hL ⟨_, hs3, hk3⟩

        · obtain rfl : k = ns.length := by omega
          rw [List.take_length] at hs
          have gno : g ∉ [ob] := by have := HS.out; have := HZ.out; simp; omega
          have HKK : Keep (∀ (W : World) (v v2 : Value) (us : List En) (ks : List ByteArray), MSt w [ob] ob W0 v v2 us ks W → W.cell? ⟨g, 0, none⟩ = some (.int .i64 0) ∧ W.cell? ⟨g, 1, none⟩ = some (.slice none 0 0) ∧ W.cell? ⟨g, 2, none⟩ = some (.slice none 0 0) ∧ ∀ j, W.frozen? ⟨g, j, none⟩ = false) := ⟨fun W v v2 us ks h => ⟨h.keep k0 gno, h.keep k1 gno, h.keep k2 gno, fun j => frozen_of (h.bl g (by have := HS.out; have := HZ.out; omega) gno) (kf j)⟩⟩
          have g0 := hs.keep k0 gno
          have g1 := hs.keep k1 gno
          have g2 := hs.keep k2 gno
          have HLO : Keep (w.heap.size ≤ g ∧ g < W0.heap.size) := ⟨by have := HS.out; have := HZ.out; omega⟩
          have gf : ∀ j, wr.frozen? ⟨g, j, none⟩ = false := fun j => frozen_of (hs.bl g HLO.out.2 gno) (kf j)
          have hlu : (outM F bs xs ys ns).length ≤ 300 := by have := outM_len (F := F) (bs := bs) (xs := xs) (ys := ys) ns; omega
          have hlk : (clsM F bs xs ys ns).length ≤ 300 := by have := clsM_len (F := F) (bs := bs) (xs := xs) (ys := ys) ns; omega
          have HO : Keep (∃ us ks, outM F bs xs ys (pathsL [bs, xs, ys]) = us ∧ clsM F bs xs ys (pathsL [bs, xs, ys]) = ks ∧ us = outM F bs xs ys ns ∧ ks = clsM F bs xs ys ns) := ⟨⟨_, _, rfl, rfl, by rw [HNS.out], by rw [HNS.out]⟩⟩
          clear k0 k1 k2 kf m0 m1 m2 HN0 hk hM hbw2 hbs hxs hys
          obtain ⟨us, ks, ho1, ho2, hu, hkk⟩ := HO.out
          have HO1 : Keep (outM F bs xs ys (pathsL [bs, xs, ys]) = us ∧ clsM F bs xs ys (pathsL [bs, xs, ys]) = ks) := ⟨⟨ho1, ho2⟩⟩
          rw [← hu] at hs hlu
          rw [← hkk] at hs hlk
          clear ho1 ho2 hu hkk HO
          obtain ⟨ad, cp, rfl⟩ := owns_slice hs.row
          obtain ⟨ak, ck, rfl⟩ := owns_slice hs.row2
          by_cases hks : ks = []
          · subst hks
            have oc := hs.cell
            have htr := specTree_any ad cp us wr (el_of_row hs.row).es (by omega)
            go_wp2_with fail
            refine htr.mono ?_
            rintro e w2 ⟨vv, rfl, hvv, hb2⟩
            have hs2 := hs.later hb2
            have oc2 := hs2.cell
            replace g0 := cell_later hb2 g0
            replace g1 := cell_later hb2 g1
            replace g2 := cell_later hb2 g2
            replace gf : ∀ j, w2.frozen? ⟨g, j, none⟩ = false := fun j => (hb2.frozen (p := ⟨g, j, none⟩) (Nat.lt_of_lt_of_le HLO.out.2 hs.sz)).trans (gf j)
            clear htr oc hs hb2
            cases vv with
            | true =>
              have HP : Keep (MgPost F bs xs ys w (.returned (.agg #[.int .i64 0, .slice ad us.length cp, .slice none ([] : List ByteArray).length 0])) (((w2.setCell ⟨g, 0, none⟩ (.int .i64 0)).setCell ⟨g, 1, none⟩ (.slice ad us.length cp)).setCell ⟨g, 2, none⟩ (.slice none 0 0))) := ⟨⟨0, us, [], ad, cp, none, 0, .inr ⟨HVV.out.1, HVV.out.2.1, HVV.out.2.2, .inr ⟨HO1.out.2, .inl ⟨by rw [HO1.out.1]; exact hvv.1 rfl, rfl, HO1.out.1.symm, rfl⟩⟩⟩, rfl, el_of_row (hs2.fin HLO.out.1 HLO.out.2 _ _ _).2.1, row_roomO hs2.row, owns_nilS _ _, (hs2.fin HLO.out.1 HLO.out.2 _ _ _).1⟩⟩
              clear hs2 hvv
              go_wp2
              refine bodyPost_ret (v := .agg #[.int .i64 0, .slice ad us.length cp, .slice none ([] : List ByteArray).length 0]) ?_ rfl HP.out
              go_light
              simp [results, Tryz.results8, go_sem, g0, g1, g2]
            | false =>
              have HNV : Keep (¬ ValidTs us) := ⟨fun h => by have := hvv.2 h; cases this⟩
              clear hvv
              go_wp2
              go_loopw [9, 13] (fun v9 i wr => ∃ k : Nat, i = .int .i64 k ∧ k ≤ us.length ∧ (100 < us.length → k = 0) ∧ MSt w [ob] ob W0 (.slice ad us.length cp) v9 us (kidsAt us k) wr) (fun _ i _ => us.length - (intOf i).toNat)
              case atStart => exact ⟨0, rfl, Nat.zero_le _, fun _ => rfl, hs2⟩
              case round =>
                clear hs2 g0 g1 g2 gf oc2
                obtain ⟨k, rfl, hk, hk0, hs⟩ := hrel
                have oc := hs.cell
                have hkl := kidsAt_len us k
                obtain ⟨wo, hwo⟩ : ∃ x, x = wr := ⟨_, rfl⟩
                subst hwo
                by_cases hgo : k < us.length ∧ us.length ≤ 100
                · obtain ⟨hlt, h100⟩ := hgo
                  have hlt' : (k : Int) < us.length := by omega
                  have h100' : (us.length : Int) ≤ 100 := by omega
                  obtain ⟨gb, rfl⟩ : ∃ gb, ad = some ⟨gb, 0, none⟩ := by
                    rcases el_of_row hs.row with h | ⟨gb, h, _⟩
                    · rw [h] at hlt; simp at hlt
                    · exact ⟨gb, h⟩
                  have HEL : Keep (∀ W, Below wo.heap.size wo W → ∀ i (h : i < us.length), W.cell? ⟨gb, i * 3, none⟩ = some (.string us[i].path)) := ⟨fun W hW i hi => by
                    rcases el_of_row (owns_below hs.row hW) with h | ⟨gb', h, _, _, _, hc⟩
                    · rw [h] at hi; simp at hi
                    · cases h; exact (hc i hi).1⟩
                  have HKA : Keep _ := ⟨kidsAt_succ hlt⟩
                  generalize kidsAt us k = ks at *
                  obtain ⟨pk, hpk⟩ : ∃ pk, pk = us[k].path := ⟨_, rfl⟩
                  rw [← hpk] at HKA
                  have HPK : Keep (pk = us[k].path) := ⟨hpk⟩
                  have HH : Keep (100 < us.length → k = 0) := ⟨hk0⟩
                  clear hpk hk0
                  go_wp2
                  go_loopw [14, 15] (fun inn m wq => ∃ (j : Nat) (q : Bool), m = .int .i64 j ∧ j ≤ us.length ∧ inn = .bool q ∧ Keep ((us.take j).any (fun x => beginsB pk x.path) = q) ∧ Below wo.heap.size wo wq) (fun _ m _ => us.length - (intOf m).toNat)
                  case atStart => exact ⟨0, false, rfl, Nat.zero_le _, rfl, ⟨rfl⟩, Below.refl _ _⟩
                  case round =>
                    obtain ⟨j, q, rfl, hj, rfl, HQ, hB⟩ := hrel
                    have oq := cell_later hB oc
                    by_cases hjl : j < us.length
                    · have hjl' : (j : Int) < us.length := by omega
                      obtain ⟨pj, hpj⟩ : ∃ pj, pj = us[j].path := ⟨_, rfl⟩
                      obtain ⟨r, hr⟩ : ∃ r, r = beginsB pk pj := ⟨_, rfl⟩
                      have HT : Keep ((us.take (j + 1)).any (fun x => beginsB pk x.path) = (q || r)) := ⟨by rw [List.take_succ_eq_append_getElem hjl, List.any_append, HQ.out, hr, hpj]; simp⟩
                      have o1 : ∀ x : Later wr, x.world.cell? ⟨ob, 0, none⟩ = some (.slice (some ⟨gb, 0, none⟩) us.length cp) := fun x => cell_later x.kept oq
                      have p1 : ∀ x : Later wr, x.world.cell? ⟨gb, k * 3, none⟩ = some (.string pk) := fun x => by rw [HPK.out]; exact HEL.out _ (kept_below hB x.kept) k hlt
                      have p2 : ∀ x : Later wr, x.world.cell? ⟨gb, j * 3, none⟩ = some (.string pj) := fun x => by rw [hpj]; exact HEL.out _ (kept_below hB x.kept) j hjl
                      have HC : Keep (∀ x : Later wr, Calls Tryz.prog 39 #[.string pk, .string pj] x.world fun e w'' => e = .returned (.bool r) ∧ ∃ y : Later wr, w'' = y.world) := ⟨fun x => Later.call x (begins_lit r (by rw [hr]; exact beginsB_iff) _)⟩
                      clear hr hpj
                      cases q with
                      | true =>
                        go_wp2_with fail
                        (haveI := later_any; refine wp_region_later (by kernel_rfl) (by kernel_rfl) ?_; (repeat (go_big_quiet_step (exact HC.out _))); refine wpQuiet_nil ?_; intro _ hwq; obtain ⟨xq, hwq2⟩ := hwq; subst hwq2)
                        go_wp2
                        go_roundw
                        case rel => exact ⟨j + 1, true, by congr 1, hjl, rfl, ⟨by rw [HT.out]; rfl⟩, kept_below hB xq.kept⟩
                        case measure => simp only [intOf]; omega
                      | false =>
                        go_wp2_with fail
                        (haveI := later_any; refine wp_region_later (by kernel_rfl) (by kernel_rfl) ?_; (repeat (go_big_quiet_step (exact HC.out _))); refine wpQuiet_nil ?_; intro _ hwq; obtain ⟨xq, hwq2⟩ := hwq; subst hwq2)
                        go_wp2
                        go_roundw
                        case rel => exact ⟨j + 1, r, by congr 1, hjl, rfl, ⟨by rw [HT.out]; rfl⟩, kept_below hB xq.kept⟩
                        case measure => simp only [intOf]; omega
                    · obtain rfl : j = us.length := by omega
                      have HQ2 : Keep (kidsAt us (k + 1) = ks ++ if q = true then [pk] else []) := ⟨by have h := HQ.out; rw [List.take_length] at h; rw [HKA.out, h]⟩
                      have hs2 := hs.later hB
                      have p1 : wr.cell? ⟨gb, k * 3, none⟩ = some (.string pk) := by rw [HPK.out]; exact HEL.out wr hB k hlt
                      clear HKA HQ hs HEL
                      cases q with
                      | false =>
                        go_wp2
                        go_roundw
                        case rel => exact ⟨k + 1, by congr 1, hlt, (fun h => by omega), by rw [HQ2.out]; simpa using hs2⟩
                        case measure => simp only [intOf]; omega
                      | true =>
                        have hxb := below_oneD wr (.cells #[.string pk] 9)
                        go_wp2_with (first | (at_builtin; refine wpList_append_lies _ rfl _ _ 28 rfl W0.heap.size 9 j0 _ 1 16 Tryz.underlying28 hj0 jz0 jz1 jz2 rfl (by decide) u9 ks.length (ks.map .string) rfl (hs2.row2.alloc _) ⟨wr.heap.size, 0, none⟩ 1 1 [.string pk] rfl rfl (by simpa using cell_one_new wr (.string pk) 9) (by simp [Value.oneCell']) (by omega) (by unfold maxLen; omega) (by omega) (by have := hs2.sz; simp; omega) (wr.heap.size + 1) (by simp) ?_; intro g2 cap2 w3 hown2 hgrow2 hat2 hlt2))
                        have hs3 := hs2.addK hxb hgrow2 hown2 hat2 (by simp)
                        clear hown2 hgrow2 hat2 hlt2 hs2 p1
                        go_roundw
                        case rel => exact ⟨k + 1, by congr 1, hlt, (fun h => by omega), by rw [HQ2.out, if_pos rfl]; exact hs3⟩
                        case measure => simp only [intOf]; omega
                · have HF : Keep (kidsAt us k = if us.length ≤ 100 then kidsM us else []) := ⟨by
                    by_cases h : us.length ≤ 100
                    · rw [if_pos h]
                      obtain rfl : k = us.length := by omega
                      unfold kidsAt kidsM
                      rw [List.take_length]
                    · rw [if_neg h, hk0 (by omega)]
                      rfl⟩
                  obtain ⟨g0, g1, g2, gf⟩ := HKK.out _ _ _ _ _ hs
                  rw [HF.out] at hs
                  obtain ⟨ak3, ck3, rfl⟩ := owns_slice hs.row2
                  have HP : Keep (MgPost F bs xs ys w (.returned (.agg #[.int .i64 3, .slice none ([] : List En).length 0, .slice ak3 (if us.length ≤ 100 then kidsM us else []).length ck3])) (((wo.setCell ⟨g, 0, none⟩ (.int .i64 3)).setCell ⟨g, 1, none⟩ (.slice none 0 0)).setCell ⟨g, 2, none⟩ (.slice ak3 (if us.length ≤ 100 then kidsM us else []).length ck3))) := ⟨⟨3, [], _, none, 0, ak3, ck3, .inr ⟨HVV.out.1, HVV.out.2.1, HVV.out.2.2, .inr ⟨HO1.out.2, .inr ⟨by rw [HO1.out.1]; exact HNV.out, rfl, rfl, by rw [HO1.out.1]⟩⟩⟩, rfl, EL.nil _ _ _, Nat.le_refl _, (hs.fin HLO.out.1 HLO.out.2 _ _ _).2.2, (hs.fin HLO.out.1 HLO.out.2 _ _ _).1⟩⟩
                  generalize (if us.length ≤ 100 then kidsM us else []) = kk at *
                  clear HF hs
                  by_cases hlt : k < us.length
                  · have hlt' : (k : Int) < us.length := by omega
                    have h100' : ¬ (us.length : Int) ≤ 100 := by omega
                    have h100d : decide ((us.length : Int) ≤ 100) = false := by simp; omega
                    go_wp2
                    refine bodyPost_ret (v := .agg #[.int .i64 3, .slice none ([] : List En).length 0, .slice ak3 kk.length ck3]) ?_ rfl HP.out
                    go_light
                    simp [results, Tryz.results8, go_sem, g0, g1, g2]
                  · have hlt' : ¬ (k : Int) < us.length := by omega
                    go_wp2
                    refine bodyPost_ret (v := .agg #[.int .i64 3, .slice none ([] : List En).length 0, .slice ak3 kk.length ck3]) ?_ rfl HP.out
                    go_light
                    simp [results, Tryz.results8, go_sem, g0, g1, g2]
          · have h0 : (0 : Int) < ks.length := by have := List.length_pos_iff.2 hks; omega
            have HP : Keep (MgPost F bs xs ys w (.returned (.agg #[.int .i64 2, .slice none ([] : List En).length 0, .slice ak ks.length ck])) (((wr.setCell ⟨g, 0, none⟩ (.int .i64 2)).setCell ⟨g, 1, none⟩ (.slice none 0 0)).setCell ⟨g, 2, none⟩ (.slice ak ks.length ck))) := ⟨⟨2, [], ks, none, 0, ak, ck, .inr ⟨HVV.out.1, HVV.out.2.1, HVV.out.2.2, .inl ⟨by rw [HO1.out.2]; exact hks, rfl, rfl, HO1.out.2.symm⟩⟩, rfl, EL.nil _ _ _, Nat.le_refl _, (hs.fin HLO.out.1 HLO.out.2 _ _ _).2.2, (hs.fin HLO.out.1 HLO.out.2 _ _ _).1⟩⟩
            clear hs hks
            go_wp2
            refine bodyPost_ret (v := .agg #[.int .i64 2, .slice none ([] : List En).length 0, .slice ak ks.length ck]) ?_ rfl HP.out
            go_light
            simp [results, Tryz.results8, go_sem, g0, g1, g2]
end Go.Proofs.YtjiafjdjocmodaaGreat
