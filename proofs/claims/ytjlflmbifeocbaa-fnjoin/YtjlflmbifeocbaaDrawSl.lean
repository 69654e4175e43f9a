/-
  spec.l6Spoil.
-/
import Derived.Test.YtjlflmbifeocbaaZbj
import Derived.Test.YtjlflmbifeocbaaZbd
import Derived.Test.YtjlflmbifeocbaaDrawD5
namespace Go.Proofs.Ytjlflmbifeocbaa
open Go.RowKit

def PatS6 (g : Nat) (a : Option Addr) (cap : Nat) (zs : List Int) (K p : Nat) (w : World) (e : Ending) (w' : World) : Prop :=
  ∃ ad cp ds, e = .returned (.agg #[.slice ad (List.length ds) cp]) ∧ CL w.heap.size w' ad ds ∧ ds.length ≤ cp ∧ ds.length ≤ 310 ∧ TinyC 1100 10000 ds ∧ Dr g a cap zs w w' p K

def dsT : List Nat := [111, 112, 113, 114, 115, 116, 117, 118, 119, 120, 121, 122, 123, 1000]
theorem ndT : dsT.Nodup := by decide
def tabT (tb gb cp n k : Nat) (adB : Addr) (nB cB : Nat) : Nat → Option Value
  | 1 => some (.pointer (some ⟨tb, 0, none⟩))
  | 2 => some (.slice (some ⟨gb, 0, none⟩) n cp)
  | 3 => some (.int .i64 k)
  | 4 => some (.slice (some ⟨gb, 0, none⟩) k cp)
  | 6 => some (.pointer (some ⟨tb, 0, none⟩))
  | 7 => some (.slice (some ⟨gb, 0, none⟩) n cp)
  | 8 => some (.int .i64 k)
  | 9 => some (.int .i64 ((k : Int) + 1))
  | 10 => some (.slice (some adB) nB cB)
  | 12 => some (.pointer (some ⟨tb, 0, none⟩))
  | _ => none

set_option maxRecDepth 100000 in
set_option maxHeartbeats 8000000 in
theorem l6Spoil_any (g : Nat) (a : Option Addr) (cap : Nat) (zs : List Int) (p : Nat) (adp : Option Addr) (cpp : Nat) (cs : List Ch) (w : World) (h : Rd w g a cap zs p) (hp : p ≤ 1000000) (hcs : CS w adp cs) (hT : TinyC 1000 5000 cs) (hn : cs.length ≤ 300) :
    Calls Try.prog 45 #[.pointer (some ⟨g, 0, none⟩), .agg #[.slice adp cs.length cpp]] w (PatS6 g a cap zs 20 p w) := by
  obtain ⟨i0, hi, hz0, hz1, hzb⟩ := info_parts Try.infoChange
  have hglt := h.lt
  have hal : Below w.heap.size w (((w.alloc (.cells #[.slice adp cs.length cpp] 30)).alloc (.cells #[.slice none 0 0] 30)).alloc (.cells #[] 68)) := (((Below.refl _ _).alloc (Nat.le_refl _) _).alloc (by simp) _).alloc (by simp; omega) _
  have k0 : (((w.alloc (.cells #[.slice adp cs.length cpp] 30)).alloc (.cells #[.slice none 0 0] 30)).alloc (.cells #[] 68)).cell? ⟨w.heap.size + 1, 0, none⟩ = some (.slice none 0 0) := by simp [go_sem]
  have kf : (((w.alloc (.cells #[.slice adp cs.length cpp] 30)).alloc (.cells #[.slice none 0 0] 30)).alloc (.cells #[] 68)).frozen? ⟨w.heap.size + 1, 0, none⟩ = false := by simp [go_sem]
  have m0 : (((w.alloc (.cells #[.slice adp cs.length cpp] 30)).alloc (.cells #[.slice none 0 0] 30)).alloc (.cells #[] 68)).cell? ⟨w.heap.size, 0, none⟩ = some (.slice adp cs.length cpp) := by simp [go_sem]
  have hown0 : (((w.alloc (.cells #[.slice adp cs.length cpp] 30)).alloc (.cells #[.slice none 0 0] 30)).alloc (.cells #[] 68)).ownsRow (w.heap.size + 2) 68 7 (.slice (some ⟨w.heap.size + 1 + 1, 0, none⟩) 0 0) 0 (ccells []) := by simpa using own_noneC ((w.alloc (.cells #[.slice adp cs.length cpp] 30)).alloc (.cells #[.slice none 0 0] 30)) (w.heap.size + 2) (by simp)
  have hsz : (((w.alloc (.cells #[.slice adp cs.length cpp] 30)).alloc (.cells #[.slice none 0 0] 30)).alloc (.cells #[] 68)).heap.size = w.heap.size + 1 + 1 + 1 := by simp
  have hone := ccells_all1 cs
  have hlen := ccells_size cs
  go_enter Try.func45, Try.ntmps45
  go_upto_region 1 with fail
  go_cut [5] (fun pv wx => ∃ b5 ad cp, pv = .pointer (some ⟨b5, 0, none⟩) ∧ LS6 g a cap zs w (w.heap.size + 1) b5 ad cp cs p wx)
  case first =>
    have hfin : ∀ (w2 : World) (ad2 : Option Addr) (cp2 : Nat), Below w.heap.size w w2 → w.heap.size + 1 + 1 ≤ w2.heap.size → w2.cell? ⟨w.heap.size + 1, 0, none⟩ = some (.slice none 0 0) → w2.frozen? ⟨w.heap.size + 1, 0, none⟩ = false → w2.ownsRow (w.heap.size + 2) 68 7 (.slice ad2 cs.length cp2) cs.length (ccells cs) → (∀ k, blk ad2 = some k → k < w2.heap.size) → ∃ b5 ad cp, Value.pointer (some ⟨w2.heap.size, 0, none⟩) = .pointer (some ⟨b5, 0, none⟩) ∧ LS6 g a cap zs w (w.heap.size + 1) b5 ad cp cs p (w2.alloc (.cells #[.slice ad2 cs.length cp2] 30)) := fun w2 ad2 cp2 hb2 hs2 c2 f2 hr2 hk2 => by
      have hba := below_oneD w2 (.cells #[.slice ad2 cs.length cp2] 30)
      exact ⟨w2.heap.size, ad2, cp2, rfl, ⟨(h.below hb2).below hba, gr_trans (gr_below hb2) (gr_below hba), cell_later hba c2, (hba.frozen (p := ⟨w.heap.size + 1, 0, none⟩) (by show w.heap.size + 1 < _; omega)).trans f2, by simp, by simp, owns_below hr2 hba, fun e => by have := hk2 _ e; omega, by omega⟩⟩
    cases adp with
    | some x =>
      have hnw : ∀ j u, (ccells cs)[j]? = some u → (((w.alloc (.cells #[.slice (some x) cs.length cpp] 30)).alloc (.cells #[.slice none 0 0] 30)).alloc (.cells #[] 68)).cell? (x.add j) = some u := by
        rcases hcs with rfl | ⟨bb, off, hx, hc⟩
        · intro j u hu; simp [ccells] at hu
        · cases hx
          exact cs_news (fun i hi => (hc i hi).later hal)
      go_wp2_with (first | (at_builtin; refine wpList_append_own _ rfl _ _ 28 rfl (w.heap.size + 2) 68 i0 _ 7 80 Try.underlying28 hi hz0 hz1 hzb rfl (by decide) (.slice (some ⟨w.heap.size + 1 + 1, 0, none⟩) 0 0) 0 (ccells []) rfl hown0 x cs.length cpp (ccells cs) rfl hlen hnw hone (by unfold maxLen; omega) (by omega) (by omega) ?_; intro v2 w2 hown2 hgrow2 hnn; obtain ⟨ad2, cp2, rfl⟩ := owns_slice hown2))
      have hb2 := hal.grown hgrow2 hal.size (fun j hj => by cases hj; simp; omega)
      have hs2 := hgrow2.size
      rw [hsz] at hs2
      have k2 := hgrow2.cell (a := ⟨w.heap.size + 1, 0, none⟩) k0 (by simp [Value.ownBlock])
      have kf2 : w2.frozen? ⟨w.heap.size + 1, 0, none⟩ = false := frozen_of (hgrow2.block (w.heap.size + 1) (by simp) (by simp [Value.ownBlock])) kf
      replace hown2 : w2.ownsRow (w.heap.size + 2) 68 7 (.slice ad2 cs.length cp2) cs.length (ccells cs) := by simpa [ccells] using hown2
      have hk2 : ∀ k, blk ad2 = some k → k < w2.heap.size := fun k hk => by
        rcases hown2.2 with ⟨h', _⟩ | ⟨gq, capq, curq, hv, _, h2, _⟩
        · injection h' with h1 _ _; subst h1; simp [blk] at hk
        · cases hv; simp [blk] at hk; subst hk; exact (Array.getElem?_eq_some_iff.1 h2).1
      have HF : Keep _ := ⟨hfin w2 ad2 cp2 hb2 (by omega) k2 kf2 hown2 hk2⟩
      clear hfin hnw hown0 hown2 hgrow2 hnn hb2 k2 kf2 hk2 k0 kf m0 hal
      go_wp2_with fail
      go_meet
      case rel => exact HF.out
    | none =>
      obtain rfl : cs = [] := by
        rcases hcs with h | ⟨bb, off, h, _⟩
        · exact h
        · cases h
      go_wp2_with (first | (at_builtin; refine wpList_append_nothing rfl _ _ 28 rfl (w.heap.size + 2) 68 i0 7 Try.underlying28 hi _ _ cpp _ rfl hown0 rfl ?_))
      have HF : Keep _ := ⟨hfin _ _ _ hal (by rw [hsz]; omega) k0 kf hown0 (fun k hk => by simp [blk] at hk; rw [hsz]; omega)⟩
      clear hfin hown0 k0 kf m0 hal
      go_meet
      case rel => first | exact HF.out | simpa using HF.out
  case rest =>
    obtain ⟨b5, ad, cp, rfl, hL⟩ := hcut
    obtain ⟨rs, hrs⟩ : ∃ rs, rs = w.heap.size + 1 := ⟨_, rfl⟩
    rw [← hrs] at hL ⊢
    clear hal k0 kf m0 hown0 hsz hone hlen hrs hcs
    have t0 := hL.tc
    go_upto_if 18 with fail
    clear t0
    go_cut [21] (fun _ wx => ∃ ad cp ds, LS6 g a cap zs w rs b5 ad cp ds p wx ∧ ds ≠ [] ∧ ds.length ≤ 300 ∧ TinyC 1000 5000 ds)
    case first =>
      have t1 := hL.tc
      have t2 := hL.tf
      by_cases h0 : cs = []
      · subst h0
        have hB : ((([] : List Ch).length : Int) == 0) = true := rfl
        have hba := below_oneD wc (.cells #[.string ⟨#[97]⟩, .bool false, .string ⟨#[]⟩, .bool false, .bool true, .string ⟨#[]⟩, .bool false] 68)
        have hLa := hL.later hba
        have hrn : (wc.alloc (.cells #[.string ⟨#[97]⟩, .bool false, .string ⟨#[]⟩, .bool false, .bool true, .string ⟨#[]⟩, .bool false] 68)).ownsRow (rs + 1) 68 7 (.slice (some ⟨wc.heap.size, 0, none⟩) ([(⟨⟨#[97]⟩, ⟨false, ⟨#[]⟩, false⟩, ⟨true, ⟨#[]⟩, false⟩⟩ : Ch)]).length 1) ([(⟨⟨#[97]⟩, ⟨false, ⟨#[]⟩, false⟩, ⟨true, ⟨#[]⟩, false⟩⟩ : Ch)]).length (ccells [⟨⟨#[97]⟩, ⟨false, ⟨#[]⟩, false⟩, ⟨true, ⟨#[]⟩, false⟩⟩]) :=
          ⟨rfl, .inr ⟨wc.heap.size, 1, _, rfl, by have := hL.lt; have := hL.ord; omega, heap_alloc_new _ _, Nat.le_refl _, by unfold maxLen; omega, rfl, rfl⟩⟩
        have HM : Keep _ := ⟨hLa.put hrn (fun e => by have := hL.lt; simp [blk] at e; omega)⟩
        have t1a := hLa.tc
        have t2a := hLa.tf
        clear hrn hLa hba hL
        go_wp2_with fail
        go_meet
        case rel => exact ⟨_, _, _, HM.out, by simp, by simp, fun c hc => by rw [List.mem_singleton.1 hc]; exact ⟨by show 1 ≤ 1000; omega, Nat.zero_le _, Nat.zero_le _⟩⟩
      · have hB : ((cs.length : Int) == 0) = false := by simp; exact h0
        have HM : Keep _ := ⟨hL⟩
        clear hL
        go_wp2_with fail
        go_meet
        case rel => exact ⟨_, _, _, HM.out, h0, hn, hT⟩
    case rest =>
      clear hL hT hn
      obtain ⟨ad, cp, ds, hL, hne, hn, hT⟩ := hcut
      have hpos : 0 < ds.length := List.length_pos_iff.2 hne
      have t0 := hL.tc
      go_wp2_with fail
      refine (pick_any g a cap zs p ds.length wc hL.rd (by omega) (by omega) (by omega)).mono ?_
      rintro e w4 ⟨k, rfl, hk, hg4, hR4⟩
      have hL4 := hL.step hg4 hR4
      clear hL hg4 hR4 t0
      obtain ⟨gb, rfl, hgb, hc⟩ : ∃ gb, ad = some ⟨gb, 0, none⟩ ∧ (rs + 1 ≤ gb ∧ gb < w4.heap.size) ∧ ChAt w4 gb (k * 7) ds[k] := by
        rcases hL4.cl with h0 | ⟨gb, e, h1, h2, h3⟩
        · exact absurd h0 hne
        · exact ⟨gb, e, ⟨h1, h2⟩, h3.2 k hk⟩
      obtain ⟨x0, x1, x2, x3, x4, x5, x6⟩ := hc
      have hkT := hT _ (List.getElem_mem hk)
      have hk' : (k : Int) < ds.length := by omega
      have t4 := hL4.tc
      have hba := below_oneD w4 (.cells #[.string ds[k].path, .bool ds[k].old.there, .string ds[k].old.text, .bool ds[k].old.runs, .bool ds[k].new.there, .string ds[k].new.text, .bool ds[k].new.runs] 68)
      have hL5 := hL4.later hba
      have hX : CBox w4.heap.size ds[k] (w4.alloc (.cells #[.string ds[k].path, .bool ds[k].old.there, .string ds[k].old.text, .bool ds[k].old.runs, .bool ds[k].new.there, .string ds[k].new.text, .bool ds[k].new.runs] 68)) := ⟨by simp, by simp, by simp, by simp, by simp, by simp, by simp, fun j => by simp, by simp⟩
      have HO : Keep (b5 < w4.heap.size ∧ gb < w4.heap.size ∧ rs < b5) := ⟨by have := hL4.lt; have := hL4.ord; omega⟩
      clear hba hL4
      go_upto_region 6 with fail
      generalize w4.alloc (.cells #[.string ds[k].path, .bool ds[k].old.there, .string ds[k].old.text, .bool ds[k].old.runs, .bool ds[k].new.there, .string ds[k].new.text, .bool ds[k].new.runs] 68) = w5 at *
      generalize w4.heap.size = xb at *
      go_wp2_with fail
      refine (pick_any g a cap zs (p + 1) 8 w5 hL5.rd (by omega) (by omega) (by omega)).mono ?_
      rintro e w6 ⟨y, rfl, hy, hg6, hR6⟩
      have hL6 := hL5.step hg6 hR6
      have hX6 := hX.grown hg6 (fun e => by have := HO.out; have := hL5.ord; cases e; omega)
      clear hL5 hg6 hR6 hX x0 x1 x2 x3 x4 x5 x6 t4
      have HGB : Keep _ := ⟨hL6.gbk hne⟩
      have HRM : Keep (ds.length ≤ cp) := ⟨hL6.room⟩
      by_cases q0 : y = 0
      · have hB0 : ((y : Int) == 0) = true := by simp; omega
        clear q0
        have z0 := hX6.c0
        have zf := hX6.fz
        have hxz := hkT.1
        go_wp2_with fail
        refine (spoilS_any g a cap zs (p + 1 + 1) ds[k].path w6 hL6.rd (by omega) (by omega)).mono ?_
        rintro e w7 ⟨o, rfl, ho, ⟨p7, hp7, hR7⟩, hg7⟩
        have hL7 := hL6.step hg7 hR7
        have hX7 := hX6.grown hg7 (fun e => by have := HO.out; have := hL6.ord; cases e; omega)
        have HX8 : Keep _ := ⟨hX7.sPath o⟩
        have HL8 : Keep _ := ⟨hL7.other (grown_set0 w7 xb 0 (.string o)) (by have := HO.out; omega) (by have := HO.out; simp [blk]; omega)⟩
        have z0' := hX7.c0
        have zf' := hX7.fz
        have hdz : o.size ≤ 1100 ∧ ds[k].old.text.size ≤ 10000 ∧ ds[k].new.text.size ≤ 10000 := by have := hkT; omega
        clear hL6 hX6 hL7 hX7 z0 zf hg7 hR7
        go_upto_region 30 with fail
        obtain ⟨W8, hW8⟩ : ∃ W8, W8 = w7.setCell ⟨xb, 0, none⟩ (.string o) := ⟨_, rfl⟩
        rw [← hW8]
        have hX8 := HX8.out
        have hL8 := HL8.out
        rw [← hW8] at hX8 hL8
        clear HX8 HL8 z0' zf' hW8
        change (⟨o, ds[k].old, ds[k].new⟩ : Ch).path.size ≤ 1100 ∧ (⟨o, ds[k].old, ds[k].new⟩ : Ch).old.text.size ≤ 10000 ∧ (⟨o, ds[k].old, ds[k].new⟩ : Ch).new.text.size ≤ 10000 at hdz
        obtain ⟨d, hd⟩ : ∃ d : Ch, d = ⟨o, ds[k].old, ds[k].new⟩ := ⟨_, rfl⟩
        rw [← hd] at hX8 hdz
        clear hd
        have z0 := hX8.c0
        have z1 := hX8.c1
        have z2 := hX8.c2
        have z3 := hX8.c3
        have z4 := hX8.c4
        have z5 := hX8.c5
        have z6 := hX8.c6
        have t8 := hL8.tc
        obtain ⟨fz8, u0, u1, u2, u3, u4, u5, u6⟩ : (∀ j, W8.frozen? ⟨gb, j, none⟩ = false) ∧ ChAt W8 gb (k * 7) ds[k] := by
          rcases hL8.cl with h0 | ⟨g', e, _, _, h3, h4⟩
          · exact absurd h0 hne
          · cases e; exact ⟨h3, h4 k hk⟩
        have HT := hL8.turn (k := k) hk d (p0 := p) (K := 20) (by omega)
        unfold seven at HT
        obtain ⟨t9, r9, rf9, b1, b2⟩ := HT
        have hTn : TinyC 1100 10000 (ds.set k d) := (hT.wide (by omega) (by omega)).set hdz
        have HLN : Keep ((ds.set k d).length = ds.length) := ⟨by simp⟩
        have HB : Keep _ := ⟨b1⟩
        have HC : Keep _ := ⟨b2⟩
        clear hL8 hX8 b1 b2 hT hkT
        generalize ds.set k d = us at *
        go_wp2
        refine bodyPost_ret (v := .agg #[.slice (some ⟨gb, 0, none⟩) ds.length cp]) ?_ rfl ⟨some ⟨gb, 0, none⟩, cp, us, by rw [HLN.out], HB.out, by rw [HLN.out]; exact HRM.out, by rw [HLN.out]; omega, hTn, HC.out⟩
        go_light
        simp [results, Try.results45, go_sem, r9]
      have hB0 : ((y : Int) == 0) = false := by simp; omega
      by_cases q1 : y = 1
      · have hB1 : ((y : Int) == 1) = true := by simp; omega
        clear q0 q1
        have z1 := hX6.c1
        have z2 := hX6.c2
        have z3 := hX6.c3
        have z4 := hX6.c4
        have z5 := hX6.c5
        have z6 := hX6.c6
        have zf := hX6.fz
        have HX8 : Keep _ := ⟨hX6.sOld⟩
        have HL8 : Keep (LS6 g a cap zs w rs b5 (some ⟨gb, 0, none⟩) cp ds (p + 1 + 1) (((w6.setCell ⟨xb, 1, none⟩ (.bool ds[k].new.there)).setCell ⟨xb, 2, none⟩ (.string ds[k].new.text)).setCell ⟨xb, 3, none⟩ (.bool ds[k].new.runs))) := ⟨hL6.other (xb := xb) (gr_set3 w6 xb _ _ _) (by have := HO.out; omega) (by have := HO.out; simp [blk]; omega)⟩
        have hdz : ds[k].path.size ≤ 1100 ∧ ds[k].new.text.size ≤ 10000 ∧ ds[k].new.text.size ≤ 10000 := by have := hkT; omega
        clear hL6 hX6
        go_upto_region 30 with fail
        obtain ⟨W8, hW8⟩ : ∃ W8, W8 = ((w6.setCell ⟨xb, 1, none⟩ (.bool ds[k].new.there)).setCell ⟨xb, 2, none⟩ (.string ds[k].new.text)).setCell ⟨xb, 3, none⟩ (.bool ds[k].new.runs) := ⟨_, rfl⟩
        rw [← hW8]
        have hX8 := HX8.out
        have hL8 := HL8.out
        rw [← hW8] at hX8 hL8
        clear HX8 HL8 zf hW8 z1 z2 z3 z4 z5 z6
        change (⟨ds[k].path, ds[k].new, ds[k].new⟩ : Ch).path.size ≤ 1100 ∧ (⟨ds[k].path, ds[k].new, ds[k].new⟩ : Ch).old.text.size ≤ 10000 ∧ (⟨ds[k].path, ds[k].new, ds[k].new⟩ : Ch).new.text.size ≤ 10000 at hdz
        obtain ⟨d, hd⟩ : ∃ d : Ch, d = ⟨ds[k].path, ds[k].new, ds[k].new⟩ := ⟨_, rfl⟩
        rw [← hd] at hX8 hdz
        clear hd
        have z0 := hX8.c0
        have z1 := hX8.c1
        have z2 := hX8.c2
        have z3 := hX8.c3
        have z4 := hX8.c4
        have z5 := hX8.c5
        have z6 := hX8.c6
        have t8 := hL8.tc
        obtain ⟨fz8, u0, u1, u2, u3, u4, u5, u6⟩ : (∀ j, W8.frozen? ⟨gb, j, none⟩ = false) ∧ ChAt W8 gb (k * 7) ds[k] := by
          rcases hL8.cl with h0 | ⟨g', e, _, _, h3, h4⟩
          · exact absurd h0 hne
          · cases e; exact ⟨h3, h4 k hk⟩
        have HT := hL8.turn (k := k) hk d (p0 := p) (K := 20) (by omega)
        unfold seven at HT
        obtain ⟨t9, r9, rf9, b1, b2⟩ := HT
        have hTn : TinyC 1100 10000 (ds.set k d) := (hT.wide (by omega) (by omega)).set hdz
        have HLN : Keep ((ds.set k d).length = ds.length) := ⟨by simp⟩
        have HB : Keep _ := ⟨b1⟩
        have HC : Keep _ := ⟨b2⟩
        clear hL8 hX8 b1 b2 hT hkT
        generalize ds.set k d = us at *
        go_wp2
        refine bodyPost_ret (v := .agg #[.slice (some ⟨gb, 0, none⟩) ds.length cp]) ?_ rfl ⟨some ⟨gb, 0, none⟩, cp, us, by rw [HLN.out], HB.out, by rw [HLN.out]; exact HRM.out, by rw [HLN.out]; omega, hTn, HC.out⟩
        go_light
        simp [results, Try.results45, go_sem, r9]
      have hB1 : ((y : Int) == 1) = false := by simp; omega
      by_cases q2 : y = 2
      · have hB2 : ((y : Int) == 2) = true := by simp; omega
        clear q0 q1 q2
        have z1 := hX6.c1
        have zf := hX6.fz
        have HX8 : Keep _ := ⟨hX6.sThere (!ds[k].old.there)⟩
        have HL8 : Keep (LS6 g a cap zs w rs b5 (some ⟨gb, 0, none⟩) cp ds (p + 1 + 1) (w6.setCell ⟨xb, 1, none⟩ (.bool (!ds[k].old.there)))) := ⟨hL6.other (xb := xb) (grown_set0 w6 xb 1 _) (by have := HO.out; omega) (by have := HO.out; simp [blk]; omega)⟩
        have hdz : ds[k].path.size ≤ 1100 ∧ ds[k].old.text.size ≤ 10000 ∧ ds[k].new.text.size ≤ 10000 := by have := hkT; omega
        clear hL6 hX6
        go_upto_region 30 with fail
        obtain ⟨W8, hW8⟩ : ∃ W8, W8 = w6.setCell ⟨xb, 1, none⟩ (.bool (!ds[k].old.there)) := ⟨_, rfl⟩
        rw [← hW8]
        have hX8 := HX8.out
        have hL8 := HL8.out
        rw [← hW8] at hX8 hL8
        clear HX8 HL8 zf hW8 z1
        change (⟨ds[k].path, ⟨!ds[k].old.there, ds[k].old.text, ds[k].old.runs⟩, ds[k].new⟩ : Ch).path.size ≤ 1100 ∧ (⟨ds[k].path, ⟨!ds[k].old.there, ds[k].old.text, ds[k].old.runs⟩, ds[k].new⟩ : Ch).old.text.size ≤ 10000 ∧ (⟨ds[k].path, ⟨!ds[k].old.there, ds[k].old.text, ds[k].old.runs⟩, ds[k].new⟩ : Ch).new.text.size ≤ 10000 at hdz
        obtain ⟨d, hd⟩ : ∃ d : Ch, d = ⟨ds[k].path, ⟨!ds[k].old.there, ds[k].old.text, ds[k].old.runs⟩, ds[k].new⟩ := ⟨_, rfl⟩
        rw [← hd] at hX8 hdz
        clear hd
        have z0 := hX8.c0
        have z1 := hX8.c1
        have z2 := hX8.c2
        have z3 := hX8.c3
        have z4 := hX8.c4
        have z5 := hX8.c5
        have z6 := hX8.c6
        have t8 := hL8.tc
        obtain ⟨fz8, u0, u1, u2, u3, u4, u5, u6⟩ : (∀ j, W8.frozen? ⟨gb, j, none⟩ = false) ∧ ChAt W8 gb (k * 7) ds[k] := by
          rcases hL8.cl with h0 | ⟨g', e, _, _, h3, h4⟩
          · exact absurd h0 hne
          · cases e; exact ⟨h3, h4 k hk⟩
        have HT := hL8.turn (k := k) hk d (p0 := p) (K := 20) (by omega)
        unfold seven at HT
        obtain ⟨t9, r9, rf9, b1, b2⟩ := HT
        have hTn : TinyC 1100 10000 (ds.set k d) := (hT.wide (by omega) (by omega)).set hdz
        have HLN : Keep ((ds.set k d).length = ds.length) := ⟨by simp⟩
        have HB : Keep _ := ⟨b1⟩
        have HC : Keep _ := ⟨b2⟩
        clear hL8 hX8 b1 b2 hT hkT
        generalize ds.set k d = us at *
        go_wp2
        refine bodyPost_ret (v := .agg #[.slice (some ⟨gb, 0, none⟩) ds.length cp]) ?_ rfl ⟨some ⟨gb, 0, none⟩, cp, us, by rw [HLN.out], HB.out, by rw [HLN.out]; exact HRM.out, by rw [HLN.out]; omega, hTn, HC.out⟩
        go_light
        simp [results, Try.results45, go_sem, r9]
      have hB2 : ((y : Int) == 2) = false := by simp; omega
      by_cases q3 : y = 3
      · have hB3 : ((y : Int) == 3) = true := by simp; omega
        clear q0 q1 q2 q3
        have hmany : ∀ (z : Nat) (W : World), z < 2 → Calls Try.prog 28 #[.string ⟨#[116]⟩, .int .i64 (1500 + (z : Int))] W fun e w' => ∃ o : ByteArray, e = .returned (.string o) ∧ o.size ≤ 1501 ∧ W = w' := fun z W hz => by
          have := many_any ⟨#[116]⟩ (1500 + z) W (by show 1 * (1500 + z) ≤ _; omega) (by omega) (by show 1 ≤ 1; omega) (by show 1 ≤ _; omega)
          rw [show ((1500 + z : Nat) : Int) = 1500 + (z : Int) by omega] at this
          exact this.mono (fun e w' ⟨o, h1, h2, h3⟩ => ⟨o, h1, by rw [h2]; show 1 * (1500 + z) ≤ _; omega, h3⟩)
        go_wp2_with fail
        refine (pick_any g a cap zs (p + 1 + 1) 2 w6 hL6.rd (by omega) (by omega) (by omega)).mono ?_
        rintro e w7 ⟨z, rfl, hz, hg7, hR7⟩
        have hL7 := hL6.step hg7 hR7
        have hX7 := hX6.grown hg7 (fun e => by have := HO.out; have := hL6.ord; cases e; omega)
        clear hL6 hX6 hg7 hR7
        obtain ⟨M, hM, hwM⟩ : ∃ M : Int, 1500 + (z : Int) = M ∧ IntKind.i64.wrap (1500 + (z : Int)) = M := ⟨_, rfl, (by rw [IntKind.wrap_i64]; omega)⟩
        have hmM := hM ▸ hmany z w7 hz
        clear hM hmany
        go_wp2_with fail
        refine hmM.mono ?_
        rintro e w7' ⟨o, rfl, ho, rfl⟩
        have z5 := hX7.c5
        have zf := hX7.fz
        have HX8 : Keep _ := ⟨hX7.sNew o⟩
        have HL8 : Keep _ := ⟨hL7.other (grown_set0 w7 xb 5 (.string o)) (by have := HO.out; omega) (by have := HO.out; simp [blk]; omega)⟩
        have hdz : ds[k].path.size ≤ 1100 ∧ ds[k].old.text.size ≤ 10000 ∧ o.size ≤ 10000 := by have := hkT; omega
        clear hL7 hX7 hmM
        go_upto_region 30 with fail
        obtain ⟨W8, hW8⟩ : ∃ W8, W8 = w7.setCell ⟨xb, 5, none⟩ (.string o) := ⟨_, rfl⟩
        rw [← hW8]
        have hX8 := HX8.out
        have hL8 := HL8.out
        rw [← hW8] at hX8 hL8
        clear HX8 HL8 z5 zf hW8
        change (⟨ds[k].path, ds[k].old, ⟨ds[k].new.there, o, ds[k].new.runs⟩⟩ : Ch).path.size ≤ 1100 ∧ (⟨ds[k].path, ds[k].old, ⟨ds[k].new.there, o, ds[k].new.runs⟩⟩ : Ch).old.text.size ≤ 10000 ∧ (⟨ds[k].path, ds[k].old, ⟨ds[k].new.there, o, ds[k].new.runs⟩⟩ : Ch).new.text.size ≤ 10000 at hdz
        obtain ⟨d, hd⟩ : ∃ d : Ch, d = ⟨ds[k].path, ds[k].old, ⟨ds[k].new.there, o, ds[k].new.runs⟩⟩ := ⟨_, rfl⟩
        rw [← hd] at hX8 hdz
        clear hd
        have z0 := hX8.c0
        have z1 := hX8.c1
        have z2 := hX8.c2
        have z3 := hX8.c3
        have z4 := hX8.c4
        have z5 := hX8.c5
        have z6 := hX8.c6
        have t8 := hL8.tc
        obtain ⟨fz8, u0, u1, u2, u3, u4, u5, u6⟩ : (∀ j, W8.frozen? ⟨gb, j, none⟩ = false) ∧ ChAt W8 gb (k * 7) ds[k] := by
          rcases hL8.cl with h0 | ⟨g', e, _, _, h3, h4⟩
          · exact absurd h0 hne
          · cases e; exact ⟨h3, h4 k hk⟩
        have HT := hL8.turn (k := k) hk d (p0 := p) (K := 20) (by omega)
        unfold seven at HT
        obtain ⟨t9, r9, rf9, b1, b2⟩ := HT
        have hTn : TinyC 1100 10000 (ds.set k d) := (hT.wide (by omega) (by omega)).set hdz
        have HLN : Keep ((ds.set k d).length = ds.length) := ⟨by simp⟩
        have HB : Keep _ := ⟨b1⟩
        have HC : Keep _ := ⟨b2⟩
        clear hL8 hX8 b1 b2 hT hkT
        generalize ds.set k d = us at *
        go_wp2
        refine bodyPost_ret (v := .agg #[.slice (some ⟨gb, 0, none⟩) ds.length cp]) ?_ rfl ⟨some ⟨gb, 0, none⟩, cp, us, by rw [HLN.out], HB.out, by rw [HLN.out]; exact HRM.out, by rw [HLN.out]; omega, hTn, HC.out⟩
        go_light
        simp [results, Try.results45, go_sem, r9]
      have hB3 : ((y : Int) == 3) = false := by simp; omega
      by_cases q4 : y = 4
      · have hB4 : ((y : Int) == 4) = true := by simp; omega
        clear q0 q1 q2 q3 q4
        have z2 := hX6.c2
        have zf := hX6.fz
        have hcI : ¬ 9223372036854775807 < ds[k].old.text.size + 5 := by have := hkT; omega
        have HX8 : Keep _ := ⟨hX6.sText (ds[k].old.text ++ ⟨#[111, 116, 104, 101, 114]⟩)⟩
        have HL8 : Keep (LS6 g a cap zs w rs b5 (some ⟨gb, 0, none⟩) cp ds (p + 1 + 1) (w6.setCell ⟨xb, 2, none⟩ (.string (ds[k].old.text ++ ⟨#[111, 116, 104, 101, 114]⟩)))) := ⟨hL6.other (xb := xb) (grown_set0 w6 xb 2 _) (by have := HO.out; omega) (by have := HO.out; simp [blk]; omega)⟩
        have hdz : ds[k].path.size ≤ 1100 ∧ (ds[k].old.text ++ ⟨#[111, 116, 104, 101, 114]⟩).size ≤ 10000 ∧ ds[k].new.text.size ≤ 10000 := by have := hkT; rw [ByteArray.size_append]; show _ ∧ _ + 5 ≤ _ ∧ _; omega
        clear hL6 hX6
        go_upto_region 30 with fail
        obtain ⟨W8, hW8⟩ : ∃ W8, W8 = w6.setCell ⟨xb, 2, none⟩ (.string (ds[k].old.text ++ ⟨#[111, 116, 104, 101, 114]⟩)) := ⟨_, rfl⟩
        rw [← hW8]
        have hX8 := HX8.out
        have hL8 := HL8.out
        rw [← hW8] at hX8 hL8
        clear HX8 HL8 zf hW8 z2
        change (⟨ds[k].path, ⟨ds[k].old.there, ds[k].old.text ++ ⟨#[111, 116, 104, 101, 114]⟩, ds[k].old.runs⟩, ds[k].new⟩ : Ch).path.size ≤ 1100 ∧ (⟨ds[k].path, ⟨ds[k].old.there, ds[k].old.text ++ ⟨#[111, 116, 104, 101, 114]⟩, ds[k].old.runs⟩, ds[k].new⟩ : Ch).old.text.size ≤ 10000 ∧ (⟨ds[k].path, ⟨ds[k].old.there, ds[k].old.text ++ ⟨#[111, 116, 104, 101, 114]⟩, ds[k].old.runs⟩, ds[k].new⟩ : Ch).new.text.size ≤ 10000 at hdz
        obtain ⟨d, hd⟩ : ∃ d : Ch, d = ⟨ds[k].path, ⟨ds[k].old.there, ds[k].old.text ++ ⟨#[111, 116, 104, 101, 114]⟩, ds[k].old.runs⟩, ds[k].new⟩ := ⟨_, rfl⟩
        rw [← hd] at hX8 hdz
        clear hd
        have z0 := hX8.c0
        have z1 := hX8.c1
        have z2 := hX8.c2
        have z3 := hX8.c3
        have z4 := hX8.c4
        have z5 := hX8.c5
        have z6 := hX8.c6
        have t8 := hL8.tc
        obtain ⟨fz8, u0, u1, u2, u3, u4, u5, u6⟩ : (∀ j, W8.frozen? ⟨gb, j, none⟩ = false) ∧ ChAt W8 gb (k * 7) ds[k] := by
          rcases hL8.cl with h0 | ⟨g', e, _, _, h3, h4⟩
          · exact absurd h0 hne
          · cases e; exact ⟨h3, h4 k hk⟩
        have HT := hL8.turn (k := k) hk d (p0 := p) (K := 20) (by omega)
        unfold seven at HT
        obtain ⟨t9, r9, rf9, b1, b2⟩ := HT
        have hTn : TinyC 1100 10000 (ds.set k d) := (hT.wide (by omega) (by omega)).set hdz
        have HLN : Keep ((ds.set k d).length = ds.length) := ⟨by simp⟩
        have HB : Keep _ := ⟨b1⟩
        have HC : Keep _ := ⟨b2⟩
        clear hL8 hX8 b1 b2 hT hkT
        generalize ds.set k d = us at *
        go_wp2
        refine bodyPost_ret (v := .agg #[.slice (some ⟨gb, 0, none⟩) ds.length cp]) ?_ rfl ⟨some ⟨gb, 0, none⟩, cp, us, by rw [HLN.out], HB.out, by rw [HLN.out]; exact HRM.out, by rw [HLN.out]; omega, hTn, HC.out⟩
        go_light
        simp [results, Try.results45, go_sem, r9]
      have hB4 : ((y : Int) == 4) = false := by simp; omega
      by_cases q5 : y = 5
      · have hB5 : ((y : Int) == 5) = true := by simp; omega
        clear q0 q1 q2 q3 q4 q5
        have z0 := hX6.c0
        have z1 := hX6.c1
        have z2 := hX6.c2
        have z3 := hX6.c3
        have z4 := hX6.c4
        have z5 := hX6.c5
        have z6 := hX6.c6
        have t6 := hL6.tc
        have hba := below_oneD w6 (.cells #[.string ds[k].path, .bool ds[k].old.there, .string ds[k].old.text, .bool ds[k].old.runs, .bool ds[k].new.there, .string ds[k].new.text, .bool ds[k].new.runs] 68)
        have hLa := hL6.later hba
        have hlt6 := hL6.lt
        have hrl := hL6.ltr
        have t6a : ∀ o, (w6.alloc o).cell? ⟨b5, 0, none⟩ = some (.slice (some ⟨gb, 0, none⟩) ds.length cp) := fun o => cell_later (below_oneD w6 o) t6
        go_wp2_with (first | (at_builtin; refine wpList_append_lies _ rfl _ _ 28 rfl (rs + 1) 68 i0 _ 7 80 Try.underlying28 hi hz0 hz1 hzb rfl (by decide) (.slice (some ⟨gb, 0, none⟩) ds.length cp) ds.length (ccells ds) rfl hLa.row ⟨w6.heap.size, 0, none⟩ 1 1 (chL ds[k]) rfl rfl (news_7 w6 ds[k] _ _ rfl) (one_7 _) (by omega) (by unfold maxLen; omega) (by omega) (by simp; omega) (w6.heap.size + 1) (by simp) ?_; intro g3 cap3 w7 hown3 hgrow3 hat3 hlt3; obtain ⟨hc3, hf3, hL7⟩ := hLa.app (d := ds[k]) hgrow3 hown3 (by rcases hat3 with h3 | h3 <;> first | (left; simpa [Value.ownBlock] using h3) | (left; simpa [Value.ownBlock] using h3.symm) | (right; omega)); have t9 := hL7.tc; rw [show (ds ++ [ds[k]]).length = ds.length + 1 by simp] at t9; have r9 := hL7.rc; have rf9 := hL7.rf))
        obtain ⟨b1, b2⟩ := hL7.back (p0 := p) (K := 20) (by omega)
        have hR9 := hL7.room
        have HLN : (ds ++ [ds[k]]).length = ds.length + 1 := by simp
        rw [HLN] at b1 b2
        refine bodyPost_ret (v := .agg #[.slice (some ⟨g3, 0, none⟩) (ds.length + 1) cap3]) ?_ rfl ⟨some ⟨g3, 0, none⟩, cap3, ds ++ [ds[k]], by rw [HLN], b1, hR9, by rw [HLN]; omega, (hT.wide (by omega) (by omega)).snoc (by have := hkT; omega), b2⟩
        go_light
        simp [results, Try.results45, go_sem, r9]
      have hB5 : ((y : Int) == 5) = false := by simp; omega
      by_cases q6 : y = 6
      · have hB6 : ((y : Int) == 6) = true := by simp; omega
        clear q0 q1 q2 q3 q4 q5 q6
        obtain ⟨adB, nB, cB, HnB, hcutB, hnewB⟩ := cutC_hi gb cp ds k hk HRM.out
        have HcutB : Keep _ := ⟨hcutB⟩
        have HcutA : Keep _ := ⟨cutC_lo gb cp ds.length k (by have := HRM.out; omega) (by have := HRM.out; omega)⟩
        have HnewB : Keep _ := ⟨hnewB⟩
        have HH : Keep (gb < w6.heap.size ∧ b5 < w6.heap.size) := ⟨⟨HGB.out.2.1, hL6.lt⟩⟩
        have HLd : Keep (LS6 g a cap zs w rs b5 (some ⟨gb, 0, none⟩) cp ds (p + 1 + 1) w6.drew) := ⟨hL6.later (Below.refl _ _).drew⟩
        have HTd : Keep (TinyC 1100 10000 (ds.take k ++ ds.drop (k + 1)) ∧ (ds.take k ++ ds.drop (k + 1)).length ≤ 310) := ⟨⟨(hT.wide (by omega) (by omega)).erase, by simp; omega⟩⟩
        have HTK : Keep ((ds.take k).length = k) := ⟨by simp; omega⟩
        have hb5 : (b5 : Nat) < w6.heap.size := hL6.lt
        clear hcutB hnewB hL6 hX6 hT hkT
        go_upto_region 28 with fail
        refine (wpIn_wide (n := 0)).1 ?_
        refine wpIn_region_inv0 (by kernel_rfl) (by kernel_rfl) (fun T0 => EVL T0 dsT (tabT b5 gb cp ds.length k adB nB cB) (exT (MkC w6.heap.size g a cap zs w rs b5 gb cp ds (p + 1 + 1)) k ds) (IT (fun W => LS6 g a cap zs w rs b5 (some ⟨gb, 0, none⟩) cp ds (p + 1 + 1) W ∧ w6.heap.size ≤ W.heap.size) (fun W => ∃ ad3 cp3, LS6 g a cap zs w rs b5 ad3 cp3 (ds.take k ++ ds.drop (k + 1)) (p + 1 + 1) W))) ?_ ?_ ?_
        · exact ⟨Sl2.start _, ⟨fun _ => ⟨HLd.out, Nat.le_refl _⟩, fun e => by rw [getD_repl] at e; cases e⟩, fun i _ hL => by rw [getD_repl] at hL; cases hL⟩
        · intro L a2 w9 hinv hall
          obtain ⟨ad3, cp3, hL9⟩ := hinv.wd.2 (hall 13 (by decide))
          have HXX : Keep _ := ⟨hinv.sl.act⟩
          clear hinv hall
          rw [HXX.out]
          simp only [updL, dsT, List.contains_cons, List.contains_nil, Nat.reduceAdd, Nat.reduceBEq, Bool.or_false, cond_false, cond_true, Bool.or_true]
          have t9 := hL9.tc
          have r9 := hL9.rc
          have rf9 := hL9.rf
          obtain ⟨b1, b2⟩ := hL9.back (p0 := p) (K := 20) (by omega)
          have HB : Keep _ := ⟨b1⟩
          have HC : Keep _ := ⟨b2⟩
          have HR9 : Keep _ := ⟨hL9.room⟩
          have HTN : Keep (TinyC 1100 10000 (ds.take k ++ ds.drop (k + 1)) ∧ ((ds.take k ++ ds.drop (k + 1))).length ≤ 310) := ⟨HTd.out⟩
          clear hL9 b1 b2 HTd HLd
          generalize ds.take k ++ ds.drop (k + 1) = us at *
          go_wp2
          refine bodyPost_ret (v := .agg #[.slice ad3 us.length cp3]) ?_ rfl ⟨ad3, cp3, us, rfl, HB.out, HR9.out, HTN.out.2, HTN.out.1, HC.out⟩
          go_light
          simp [results, Try.results45, go_sem, r9]
        · intro L a2 w9 i o hinv hcl hL ho hdep
          have hin : i < 14 := (Array.getElem?_eq_some_iff.1 ho).1
          unfold wpOpIn
          rw [ho]
          have q13 : ∀ i, i < 13 → L.getD i true = false → L.getD 13 false = false := fun i hi h9 => by
            cases hb : L.getD 13 false with
            | false => rfl
            | true =>
              exfalso
              have h := fun e he hb' => hcl 13 _ rfl hb e he hb'
              match i, hi, h9 with
              | 0, _, h9 => have h := h ⟨0, .phase⟩ (by simp) rfl; rw [getD_ft h9] at h; cases h
              | 1, _, h9 => have h := h ⟨1, .phase⟩ (by simp) rfl; rw [getD_ft h9] at h; cases h
              | 2, _, h9 => have h := h ⟨2, .phase⟩ (by simp) rfl; rw [getD_ft h9] at h; cases h
              | 3, _, h9 => have h := h ⟨3, .phase⟩ (by simp) rfl; rw [getD_ft h9] at h; cases h
              | 4, _, h9 => have h := h ⟨4, .phase⟩ (by simp) rfl; rw [getD_ft h9] at h; cases h
              | 5, _, h9 => have h := h ⟨5, .phase⟩ (by simp) rfl; rw [getD_ft h9] at h; cases h
              | 6, _, h9 => have h := h ⟨6, .phase⟩ (by simp) rfl; rw [getD_ft h9] at h; cases h
              | 7, _, h9 => have h := h ⟨7, .phase⟩ (by simp) rfl; rw [getD_ft h9] at h; cases h
              | 8, _, h9 => have h := h ⟨8, .phase⟩ (by simp) rfl; rw [getD_ft h9] at h; cases h
              | 9, _, h9 => have h := h ⟨9, .phase⟩ (by simp) rfl; rw [getD_ft h9] at h; cases h
              | 10, _, h9 => have h := h ⟨10, .phase⟩ (by simp) rfl; rw [getD_ft h9] at h; cases h
              | 11, _, h9 => have h := h ⟨11, .data⟩ (by simp) rfl; rw [getD_ft h9] at h; cases h
              | 12, _, h9 => have h := h ⟨12, .data⟩ (by simp) rfl; rw [getD_ft h9] at h; cases h
          clear hcl
          match i, hin, hL, ho, hdep with
          | 0, _, hL, ho, hdep =>
            injection ho with ho; subst ho
            dsimp only
            rw [if_pos (by rfl)]
            refine ⟨fun f _ => trivial, ?_⟩
            obtain ⟨hA9, hS9⟩ := hinv.wd.1 (q13 0 (by omega) hL)
            go_simp
            exact hinv.step ndT (exT_0 hL) (i := 0) (by decide) (by show 111 < 131; decide) (fun u hu => by cases hu) ⟨fun _ _ => MkC.start hA9 HH.out hS9, fun e => by omega, fun e => by omega⟩ (hinv.wd.on (by omega) (q13 0 (by omega) hL) (fun h => ⟨h.1.later (below_oneD _ _), Nat.le_trans h.2 (by simp)⟩))
          | 1, _, hL, ho, hdep =>
            injection ho with ho; subst ho
            dsimp only
            rw [if_pos (by rfl)]
            refine ⟨fun f _ => trivial, ?_⟩
            have e5 : a2.tmps[5]?.getD undef = .pointer (some ⟨b5, 0, none⟩) := hinv.sl.old (by decide)
            go_simp
            exact hinv.step ndT (exT_pure (by omega) (by omega) (by omega) (by omega)) (i := 1) (by decide) (by show 112 < 131; decide) (fun u hu => by cases hu; rfl) (exT_no (by omega) (by omega) (by omega)) (hinv.wd.pure (by omega))
          | 2, _, hL, ho, hdep =>
            injection ho with ho; subst ho
            dsimp only
            rw [if_pos (by rfl)]
            refine ⟨fun f _ => trivial, ?_⟩
            have e112 : a2.tmps[112]?.getD undef = .pointer (some ⟨b5, 0, none⟩) := hinv.sl.new (i := 1) (by decide) rfl (hdep ⟨1, .data⟩ (by simp) rfl)
            have z0 := (hinv.wd.1 (q13 2 (by omega) hL)).1.tc
            go_simp
            exact hinv.step ndT (exT_pure (by omega) (by omega) (by omega) (by omega)) (i := 2) (by decide) (by show 113 < 131; decide) (fun u hu => by cases hu; rfl) (exT_no (by omega) (by omega) (by omega)) (hinv.wd.pure (by omega))
          | 3, _, hL, ho, hdep =>
            injection ho with ho; subst ho
            dsimp only
            rw [if_pos (by rfl)]
            refine ⟨fun f _ => trivial, ?_⟩
            have e6 : a2.tmps[6]?.getD undef = .int .i64 k := hinv.sl.old (by decide)
            go_simp
            exact hinv.step ndT (exT_pure (by omega) (by omega) (by omega) (by omega)) (i := 3) (by decide) (by show 114 < 131; decide) (fun u hu => by cases hu; rfl) (exT_no (by omega) (by omega) (by omega)) (hinv.wd.pure (by omega))
          | 4, _, hL, ho, hdep =>
            injection ho with ho; subst ho
            dsimp only
            rw [if_pos (by rfl)]
            refine ⟨fun f _ => trivial, ?_⟩
            have e113 : a2.tmps[113]?.getD undef = .slice (some ⟨gb, 0, none⟩) ds.length cp := hinv.sl.new (i := 2) (by decide) rfl (hdep ⟨2, .data⟩ (by simp) rfl)
            have e114 : a2.tmps[114]?.getD undef = .int .i64 k := hinv.sl.new (i := 3) (by decide) rfl (hdep ⟨3, .data⟩ (by simp) rfl)
            have hcA := HcutA.out w9
            go_simp
            exact hinv.step ndT (exT_pure (by omega) (by omega) (by omega) (by omega)) (i := 4) (by decide) (by show 115 < 131; decide) (fun u hu => by cases hu; rfl) (exT_no (by omega) (by omega) (by omega)) (hinv.wd.pure (by omega))
          | 5, _, hL, ho, hdep =>
            injection ho with ho; subst ho
            dsimp only
            rw [if_pos (by rfl)]
            have hx0 := (hinv.ex 0 (by decide) (hdep ⟨0, .data⟩ (by simp) rfl)).1 rfl (getD_ft hL)
            have ev := hinv.sl.sl 4 (by decide) _ rfl (hdep ⟨4, .data⟩ (by simp) rfl)
            have hn9 : ∀ j u, (ccells (ds.take k))[j]? = some u → w9.cell? ((⟨gb, 0, none⟩ : Addr).add j) = some u := by have := cl_news hx0.ld.cl 0 k; simpa using this
            obtain ⟨v', W', hr3, ad3, cp3, rfl, hM⟩ := hx0.app i0 _ hi hz0 hz1 hzb rfl ⟨gb, 0, none⟩ cp (ds.take k) hn9 (by simp; omega) 28
            rw [HTK.out] at hr3
            refine wpIn_appendZ _ _ _ rfl rfl ev hr3 ?_
            exact hinv.step ndT (exT_5 hL) (i := 5) (by decide) (by show 116 < 131; decide) (fun u hu => by cases hu) ⟨fun e => by omega, fun _ => ⟨by rw [getD_set_ne false (by omega)]; exact hdep ⟨0, .data⟩ (by simp) rfl, fun _ => ⟨ad3, cp3, rfl, hM⟩⟩, fun e => by omega⟩ (hinv.wd.on (by omega) (q13 5 (by omega) hL) (fun _ => ⟨hM.ld, hM.sz⟩))
          | 6, _, hL, ho, hdep =>
            injection ho with ho; subst ho
            dsimp only
            rw [if_pos (by rfl)]
            refine ⟨fun f _ => trivial, ?_⟩
            have e5 : a2.tmps[5]?.getD undef = .pointer (some ⟨b5, 0, none⟩) := hinv.sl.old (by decide)
            go_simp
            exact hinv.step ndT (exT_pure (by omega) (by omega) (by omega) (by omega)) (i := 6) (by decide) (by show 117 < 131; decide) (fun u hu => by cases hu; rfl) (exT_no (by omega) (by omega) (by omega)) (hinv.wd.pure (by omega))
          | 7, _, hL, ho, hdep =>
            injection ho with ho; subst ho
            dsimp only
            rw [if_pos (by rfl)]
            refine ⟨fun f _ => trivial, ?_⟩
            have e117 : a2.tmps[117]?.getD undef = .pointer (some ⟨b5, 0, none⟩) := hinv.sl.new (i := 6) (by decide) rfl (hdep ⟨6, .data⟩ (by simp) rfl)
            have z0 := (hinv.wd.1 (q13 7 (by omega) hL)).1.tc
            go_simp
            exact hinv.step ndT (exT_pure (by omega) (by omega) (by omega) (by omega)) (i := 7) (by decide) (by show 118 < 131; decide) (fun u hu => by cases hu; rfl) (exT_no (by omega) (by omega) (by omega)) (hinv.wd.pure (by omega))
          | 8, _, hL, ho, hdep =>
            injection ho with ho; subst ho
            dsimp only
            rw [if_pos (by rfl)]
            refine ⟨fun f _ => trivial, ?_⟩
            have e6 : a2.tmps[6]?.getD undef = .int .i64 k := hinv.sl.old (by decide)
            go_simp
            exact hinv.step ndT (exT_pure (by omega) (by omega) (by omega) (by omega)) (i := 8) (by decide) (by show 119 < 131; decide) (fun u hu => by cases hu; rfl) (exT_no (by omega) (by omega) (by omega)) (hinv.wd.pure (by omega))
          | 9, _, hL, ho, hdep =>
            injection ho with ho; subst ho
            dsimp only
            rw [if_pos (by rfl)]
            refine ⟨fun f _ => trivial, ?_⟩
            have e119 : a2.tmps[119]?.getD undef = .int .i64 k := hinv.sl.new (i := 8) (by decide) rfl (hdep ⟨8, .data⟩ (by simp) rfl)
            have hw9 : IntKind.i64.wrap ((k : Int) + 1) = (k : Int) + 1 := by rw [IntKind.wrap_i64]; omega
            go_simp
            exact hinv.step ndT (exT_pure (by omega) (by omega) (by omega) (by omega)) (i := 9) (by decide) (by show 120 < 131; decide) (fun u hu => by cases hu; rfl) (exT_no (by omega) (by omega) (by omega)) (hinv.wd.pure (by omega))
          | 10, _, hL, ho, hdep =>
            injection ho with ho; subst ho
            dsimp only
            rw [if_pos (by rfl)]
            refine ⟨fun f _ => trivial, ?_⟩
            have e118 : a2.tmps[118]?.getD undef = .slice (some ⟨gb, 0, none⟩) ds.length cp := hinv.sl.new (i := 7) (by decide) rfl (hdep ⟨7, .data⟩ (by simp) rfl)
            have e120 : a2.tmps[120]?.getD undef = .int .i64 ((k : Int) + 1) := hinv.sl.new (i := 9) (by decide) rfl (hdep ⟨9, .data⟩ (by simp) rfl)
            have hcB := HcutB.out w9
            go_simp
            exact hinv.step ndT (exT_pure (by omega) (by omega) (by omega) (by omega)) (i := 10) (by decide) (by show 121 < 131; decide) (fun u hu => by cases hu; rfl) (exT_no (by omega) (by omega) (by omega)) (hinv.wd.pure (by omega))
          | 11, _, hL, ho, hdep =>
            injection ho with ho; subst ho
            dsimp only
            rw [if_pos (by rfl)]
            have h5 := hdep ⟨5, .data⟩ (by simp) rfl
            obtain ⟨ad3, cp3, ev0, hx0⟩ := ((hinv.ex 5 (by decide) h5).2.1 rfl).2 (getD_ft hL)
            have ev := hinv.sl.sl 10 (by decide) _ rfl (hdep ⟨10, .data⟩ (by simp) rfl)
            rw [ev0] at hx0
            obtain ⟨v', W', hr3, ad4, cp4, rfl, hM⟩ := hx0.app i0 _ hi hz0 hz1 hzb rfl adB cB (ds.drop (k + 1)) (HnewB.out _ _ hx0.ld.cl) (by simp; omega) 28
            rw [← HnB.out] at hr3
            refine wpIn_appendZ _ _ _ rfl ev0 ev hr3 ?_
            exact hinv.step ndT (exT_11 hL h5) (i := 11) (by decide) (by show 122 < 131; decide) (fun u hu => by cases hu) ⟨fun e => by omega, fun e => by omega, fun _ => ⟨by rw [getD_set_ne false (by omega)]; exact ((hinv.ex 5 (by decide) h5).2.1 rfl).1, by rw [getD_set_ne false (by omega)]; exact h5, fun _ => ⟨ad4, cp4, rfl, hM⟩⟩⟩ (hinv.wd.on (by omega) (q13 11 (by omega) hL) (fun _ => ⟨hM.ld, hM.sz⟩))
          | 12, _, hL, ho, hdep =>
            injection ho with ho; subst ho
            dsimp only
            rw [if_pos (by rfl)]
            refine ⟨fun f _ => trivial, ?_⟩
            have e5 : a2.tmps[5]?.getD undef = .pointer (some ⟨b5, 0, none⟩) := hinv.sl.old (by decide)
            go_simp
            exact hinv.step ndT (exT_pure (by omega) (by omega) (by omega) (by omega)) (i := 12) (by decide) (by show 123 < 131; decide) (fun u hu => by cases hu; rfl) (exT_no (by omega) (by omega) (by omega)) (hinv.wd.pure (by omega))
          | 13, _, hL, ho, hdep =>
            injection ho with ho; subst ho
            dsimp only
            rw [if_pos (by rfl)]
            refine ⟨fun f _ => trivial, ?_⟩
            have h11 := hdep ⟨11, .data⟩ (by simp) rfl
            have h5 := ((hinv.ex 11 (by decide) h11).2.2 rfl).2.1
            obtain ⟨ad4, cp4, ev0, hM⟩ := ((hinv.ex 11 (by decide) h11).2.2 rfl).2.2 (getD_ft hL)
            rw [ev0] at hM
            have e122 : a2.tmps[122]?.getD undef = .slice ad4 (ds.take k ++ ds.drop (k + 1)).length cp4 := evalD2 ev0
            generalize ds.take k ++ ds.drop (k + 1) = us9 at *
            have e123 : a2.tmps[123]?.getD undef = .pointer (some ⟨b5, 0, none⟩) := hinv.sl.new (i := 12) (by decide) rfl (hdep ⟨12, .data⟩ (by simp) rfl)
            have z0 := hM.ld.tc
            have z1 := hM.ld.tf
            have hfin := hM.store
            go_simp
            exact hinv.skip (exT_13 hL h5 h11) (i := 13) rfl (fun v => exT_no (by omega) (by omega) (by omega)) (IT.last hL ⟨ad4, cp4, hfin⟩)
      have hB6 : ((y : Int) == 6) = false := by simp; omega
      clear q0 q1 q2 q3 q4 q5 q6
      have hown0 := own_noneC w6 (rs + 1) hL6.ltr
      have hba := below_oneD w6 (.cells #[] 68)
      have hLa := hL6.later hba
      have t6 := hLa.tc
      have tf6 := hLa.tf
      have hL7 := hLa.put (ds := []) (ad' := some ⟨w6.heap.size, 0, none⟩) (cp' := 0) hown0 (fun e => by have := hL6.lt; simp [blk] at e; omega)
      have hrd7 := hL7.rd
      clear hown0 hba hLa hL6 hX6
      go_wp2_with fail
      simp only [List.length_nil] at hL7 hrd7
      refine (pick_any g a cap zs (p + 1 + 1) 2 _ hrd7 (by omega) (by omega) (by omega)).mono ?_
      rintro e w8 ⟨z, rfl, hz, hg8, hR8⟩
      have hL8 := hL7.step hg8 hR8
      clear hL7 hg8 hR8 t6 tf6 hrd7
      have hwz : IntKind.i64.wrap (200 + (z : Int)) = 200 + (z : Int) := by rw [IntKind.wrap_i64]; omega
      go_wp2
      go_loopw [9] (fun i wr => ∃ (gb cp : Nat) (us : List Ch), i = .int .i64 us.length ∧ us.length ≤ 201 ∧ LS6 g a cap zs w rs b5 (some ⟨gb, 0, none⟩) cp us (p + 1 + 1 + 1) wr ∧ Keep (TinyC 1100 10000 us)) (fun i _ => 202 - (intOf i).toNat)
      case atStart => exact ⟨_, 0, [], rfl, Nat.zero_le _, hL8, ⟨fun c hc => by simp at hc⟩⟩
      case round =>
        clear hL8
        obtain ⟨gb, cp, us, rfl, hj, hL, HT⟩ := hrel
        have t1 := hL.tc
        have t2 := hL.tf
        by_cases hlt : (us.length : Int) < 200 + z
        · have hj2 : us.length ≤ 200 := by omega
          have hcv := conv_two (97 + (us.length : Int) / 26) (97 + (us.length : Int) % 26) wr
          have hb1 := below_oneD wr (.cells #[.int .u8 (97 + (us.length : Int) / 26), .int .u8 (97 + (us.length : Int) % 26)] 5)
          have hLa := hL.later hb1
          have t1a := hLa.tc
          have t2a := hLa.tf
          have hc3 : ¬ 9223372036854775807 < 1 + (strOfNums [97 + (us.length : Int) / 26, 97 + (us.length : Int) % 26]).size := by rw [strOfNums_size]; simp
          obtain ⟨d, hd⟩ : ∃ d : Ch, d = ⟨zp us.length, ⟨false, ⟨#[]⟩, false⟩, ⟨true, ⟨#[]⟩, false⟩⟩ := ⟨_, rfl⟩
          have hb2 := below_oneD (wr.alloc (.cells #[.int .u8 (97 + (us.length : Int) / 26), .int .u8 (97 + (us.length : Int) % 26)] 5)) (.cells #[.string (zp us.length), .bool false, .string ⟨#[]⟩, .bool false, .bool true, .string ⟨#[]⟩, .bool false] 68)
          have hLb := hLa.later hb2
          have hsa : (wr.alloc (.cells #[.int .u8 (97 + (us.length : Int) / 26), .int .u8 (97 + (us.length : Int) % 26)] 5)).heap.size = wr.heap.size + 1 := by simp
          have hlt6 := hLa.lt
          have hrl := hLa.ltr
          have hzs : (zp us.length).size = 3 := zp_size us.length
          obtain ⟨zz, hzz⟩ : ∃ zz, zz = zp us.length := ⟨_, rfl⟩
          have hzz' : ⟨#[122]⟩ ++ strOfNums [97 + (us.length : Int) / 26, 97 + (us.length : Int) % 26] = zz := hzz.symm
          rw [← hzz] at hb2 hLb hzs
          clear hzz hd d
          go_wp2_with (first | (at_builtin; refine wpList_append_lies _ rfl _ _ 28 rfl (rs + 1) 68 i0 _ 7 80 Try.underlying28 hi hz0 hz1 hzb rfl (by decide) (.slice (some ⟨gb, 0, none⟩) us.length cp) us.length (ccells us) rfl hLb.row ⟨wr.heap.size + 1, 0, none⟩ 1 1 (chL ⟨zz, ⟨false, ⟨#[]⟩, false⟩, ⟨true, ⟨#[]⟩, false⟩⟩) rfl rfl (news_7 _ ⟨zz, ⟨false, ⟨#[]⟩, false⟩, ⟨true, ⟨#[]⟩, false⟩⟩ _ _ hsa) (one_7 _) (by omega) (by unfold maxLen; omega) (by omega) (by simp; omega) (wr.heap.size + 1 + 1) (by simp) ?_; intro g3 cap3 w7 hown3 hgrow3 hat3 hlt3; obtain ⟨hc3, hf3, hL7⟩ := hLb.app (d := ⟨zz, ⟨false, ⟨#[]⟩, false⟩, ⟨true, ⟨#[]⟩, false⟩⟩) hgrow3 hown3 (by rcases hat3 with h3 | h3 <;> first | (left; simpa [Value.ownBlock] using h3) | (left; simpa [Value.ownBlock] using h3.symm) | (right; omega))))
          go_roundw
          case rel => exact ⟨g3, cap3, us ++ [⟨zz, ⟨false, ⟨#[]⟩, false⟩, ⟨true, ⟨#[]⟩, false⟩⟩], by congr 1; simp, by simp; omega, hL7, ⟨HT.out.snoc ⟨by show zz.size ≤ 1100; omega, Nat.zero_le _, Nat.zero_le _⟩⟩⟩
          case measure => simp only [intOf]; omega
        · have r9 := hL.rc
          have rf9 := hL.rf
          obtain ⟨b1, b2⟩ := hL.back (p0 := p) (K := 20) (by omega)
          have hR9 := hL.room
          clear hL
          go_wp2
          refine bodyPost_ret (v := .agg #[.slice (some ⟨gb, 0, none⟩) us.length cp]) ?_ rfl ⟨some ⟨gb, 0, none⟩, cp, us, rfl, b1, hR9, by omega, HT.out, b2⟩
          go_light
          simp [results, Try.results45, go_sem, r9]
end Go.Proofs.Ytjlflmbifeocbaa
