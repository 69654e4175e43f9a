/-
  impl's tellKids.
-/
import Derived.Test.YtmeodgcnnjkilaaNamesW
import Derived.Test.YtmeodgcnnjkilaaTellE
import Derived.Test.YtmeodgcnnjkilaaEntOf
import Derived.Test.YtmeodgcnnjkilaaEntL
import Derived.Deep.AppendLies
namespace Go.Proofs.Ytmeodgcnnjkilaa
open Go.RowKit

def TellPost (φ : Way → Option (ByteArray × Bool)) (p0 r : Way) (acc : List En) (B : Nat) (v : Value) (w : World) (e : Ending) (w' : World) : Prop :=
  ∃ v' us, e = .returned v' ∧ Told φ p0 r acc us ∧ w'.ownsRow B 35 3 v' us.length (ecells us) ∧ Grow w w' v v'

theorem Grow.of_below {w w' : World} {v : Value} (h : Below w.heap.size w w') : Grow w w' v v := ⟨⟨h.os, h.tape, h.output, h.size, fun k hk _ => h.block k hk⟩, .inl rfl⟩

theorem tree_grow {lo N B : Nat} {w w' : World} {β : Way → Option Nat} {μ : Way → Nat} {φ : Way → Option (ByteArray × Bool)} {v v' : Value} {n : Nat} {xs : List Value} (hT : TreeM lo N w β μ φ) (hTB : ∀ k, TreeB β μ k → k < B) (hrow : w.ownsRow B 35 3 v n xs) (hg : Grow w w' v v') : TreeM lo N w' β μ φ :=
  hT.turn (fun k hk => hg.1.block k (hT.lt hk).2 (fun e => by
    have h1 := owns_row_ge hrow e.symm
    have h2 := hTB k hk
    omega))

theorem names_keep {B : Nat} {w1 w' : World} {v v' : Value} {ad : Option Addr} {ns : List ByteArray} (h : NamesAt B w1 ad ns) (hg : Grow w1 w' v v') (hv : ∀ k, v.ownBlock = some k → k < B) : NamesAt B w' ad ns := by
  rcases h with h | ⟨g, ha, h1, h2, h3⟩
  · exact .inl h
  · refine .inr ⟨g, ha, h1, Nat.lt_of_lt_of_le h2 hg.1.size, fun i hi => ?_⟩
    rw [World.cell?_of_block (hg.1.block g h2 (fun e => by have := hv g e.symm; omega))]
    exact h3 i hi
theorem names_at {B : Nat} {w : World} {ad : Option Addr} {ns : List ByteArray} (h : NamesAt B w ad ns) {k : Nat} (hk : k < ns.length) : ∃ g, ad = some ⟨g, 0, none⟩ ∧ w.cell? ⟨g, k, none⟩ = some (.string ns[k]) := by
  rcases h with h | ⟨g, ha, _, _, h3⟩
  · subst h; simp at hk
  · exact ⟨g, ha, h3 k hk⟩

set_option maxRecDepth 100000 in
set_option maxHeartbeats 8000000 in
theorem tell_any (lo N K : Nat) (hN : N ≤ 90000) (hK : K ≤ 100000) (β : Way → Option Nat) (μ : Way → Nat) (φ : Way → Option (ByteArray × Bool)) (hG : GoodT K β φ) (p0 : Way) (B : Nat) (hTB : ∀ k, TreeB β μ k → k < B) :
    ∀ (d : Nat) (r : Way) (b : Nat) (f : ByteArray) (acc : List En) (v : Value) (w : World), TreeM lo N w β μ φ → β (p0 ++ r) = some b → 7 ≤ (p0 ++ r).length + d → Front f r → f.size ≤ 21 * r.length → AccOk φ p0 r acc → B ≤ w.heap.size → w.ownsRow B 35 3 v acc.length (ecells acc) →
      Calls Try.prog 45 #[.pointer (some ⟨b, 0, none⟩), v, .string f] w fun e w' => TellPost φ p0 r acc B v w e w'
  | 0, r, b, f, acc, v, w, hT, hb, hd, hf, hfs, hA, hB, hrow => by
    have := hG.deep (p0 ++ r) (by rw [hb]; simp)
    omega
  | d + 1, r, b, f, acc, v, w, hT, hb, hd, hf, hfs, hA, hB, hrow => by
    have ih := tell_any lo N K hN hK β μ φ hG p0 B hTB d
    obtain ⟨i0, hi, hz0, hz1, hz2⟩ := info_parts Try.infoEntry
    have hrl : r.length ≤ 6 := by have := hG.deep (p0 ++ r) (by rw [hb]; simp); simp at this; omega
    have hv : ∀ k, v.ownBlock = some k → k < w.heap.size := fun k hk => own_lt hrow hk
    have HB : Keep (B ≤ w.heap.size) := ⟨hB⟩
    clear hB
    go_enter Try.func45, Try.ntmps45
    go_wp2_with fail
    refine (names_any lo N w β μ φ hT hN (p0 ++ r) b hb (fun x hx => hG.name _ x hx)).mono ?_
    rintro e w1 ⟨ad, cap, ns, rfl, hna, hno, hb1, hnl⟩
    have hrow1 := owns_below hrow hb1
    have hT1 := hT.below hb1
    have HS1 : Keep (w.heap.size ≤ w1.heap.size) := ⟨hb1.size⟩
    have HB1 : Keep (Below w.heap.size w w1) := ⟨hb1⟩
    clear hrow hT hb1
    go_wp2_with fail
    go_loopw [1, 13] (fun v' i wr => ∃ (k : Nat) (us : List En), i = .int .i64 k ∧ k ≤ ns.length ∧ Mid φ p0 r acc (ns.take k) us ∧ wr.ownsRow B 35 3 v' us.length (ecells us) ∧ Grow w1 wr v v') (fun _ i _ => ns.length - (intOf i).toNat)
    case atStart => exact ⟨0, acc, rfl, Nat.zero_le _, Mid.start hA, hrow1, Grow.refl _ _⟩
    case round =>
      obtain ⟨k, us, rfl, hk, hM, hrow, hgr⟩ := hrel
      have hTr := tree_grow hT1 hTB hrow1 hgr
      by_cases hlt : k < ns.length
      · have hlt' : (k : Int) < ns.length := by omega
        obtain ⟨g, rfl, hcn⟩ := names_at (names_keep hna hgr hv) hlt
        have hkid := (hno.mem _).1 (List.getElem_mem hlt)
        obtain ⟨c, hc⟩ := Option.ne_none_iff_exists'.1 hkid
        obtain ⟨hnm1, hnm2⟩ := hG.name _ _ hkid
        obtain ⟨hob, _, _, hkd⟩ := hTr.node _ b hb
        obtain ⟨_, c3, _, _, _⟩ := node_cells hob
        obtain ⟨hoc, _, _, _⟩ := hTr.node _ c hc
        obtain ⟨e0, _, _, e1, e2⟩ := node_cells hoc
        have hlk := hkd.look ns[k] (by omega)
        rw [hc] at hlk
        unfold ptrV at hlk
        have hBr : B ≤ wr.heap.size := Nat.le_trans HB.out (Nat.le_trans HS1.out hgr.1.size)
        have hfew := tells_few hG hM.asc (hM.tells hA)
        have HM : Keep (Mid φ p0 r acc (ns.take k) us) := ⟨hM⟩
        have HNO : Keep (NamesOf β φ (p0 ++ r) ns) := ⟨hno⟩
        have HF : Keep (Front f r) := ⟨hf⟩
        have HFS : Keep (f.size ≤ 21 * r.length) := ⟨hfs⟩
        have hfb : f.size ≤ 126 := by omega
        have hcat : ¬ 9223372036854775807 < f.size + ns[k].size := by omega
        have HX : Keep ((47 : UInt8) ∉ ns[k].data.toList) := ⟨hnm2⟩
        have HKID : Keep (β (p0 ++ r ++ [ns[k]]) = some c) := ⟨hc⟩
        clear hob hkd hoc hM hno hf hfs hkid hnm2 hc
        cases hφ : φ (p0 ++ r ++ [ns[k]]) with
        | some ft =>
          obtain ⟨t, rn⟩ := ft
          have htx := hG.text _ t rn hφ
          rw [hφ] at e0 e1 e2
          simp only [Option.map_some, Option.getD_some, Option.isSome_some] at e0 e1 e2
          have HPHI : Keep (φ (p0 ++ r ++ [ns[k]]) = some (t, rn)) := ⟨hφ⟩
          clear hφ
          go_wp2_with fail
          refine (entry_any (f ++ ns[k]) t rn wr (by rw [ByteArray.size_append]; omega) (by omega)).mono ?_
          rintro e w2 ⟨rfl, hb2⟩
          have hrow2 := owns_below hrow hb2
          have hg2 : Grow wr w2 u1 u1 := Grow.of_below hb2
          have hB2 : B ≤ w2.heap.size := Nat.le_trans hBr hb2.size
          have hus : us.length ≤ 100000 := by omega
          obtain ⟨en, hen⟩ : ∃ en : En, en = ⟨f ++ ns[k], t, rn⟩ := ⟨_, rfl⟩
          have he1 : f ++ ns[k] = en.path := by rw [hen]
          have he2 : t = en.text := by rw [hen]
          have he3 : rn = en.runs := by rw [hen]
          have HMF : Keep (Mid φ p0 r acc (ns.take (k + 1)) (us ++ [en])) := ⟨by rw [hen]; exact HM.out.file hG hA HNO.out hlt HF.out HPHI.out⟩
          rw [he1, he2, he3]
          clear hen he1 he2 he3 hb2 hrow hfew e0 e1 e2 hlk c3 hcn HPHI
          go_wp2_with (first
            | (at_builtin; refine wpList_append_lies _ rfl _ _ 29 rfl B 35 i0 _ 3 40 Try.underlying29 hi hz0 hz1 hz2 rfl (by decide) u1 us.length (ecells us) rfl (hrow2.alloc _) ⟨w2.heap.size, 0, none⟩ 1 1 (ecell en) rfl rfl (news_3 w2 en _ _ rfl) (one_3 en) (by omega) (by unfold maxLen; omega) (by omega) (by simp; omega) (w2.heap.size + 1) (by simp) ?_; intro g2 cap2 w3 hown3 hgrow3 hat3 hlt3))
          have hg3 : Grow w2 w3 u1 (.slice (some ⟨g2, 0, none⟩) (us.length + 1) cap2) := Grow.alloc _ ⟨hgrow3, by
            rcases hat3 with h | h
            · exact .inl h.symm
            · exact .inr ⟨g2, rfl, by rw [h]; simp⟩⟩
          have hg4 := hgr.trans (hg2.trans hg3)
          have hown4 : w3.ownsRow B 35 3 (.slice (some ⟨g2, 0, none⟩) (us.length + 1) cap2) (us ++ [en]).length (ecells (us ++ [en])) := by
            rw [ecells_snoc, List.length_append]; exact hown3
          clear hown3 hgrow3 hat3 hg2 hg3
          go_wp2
          go_roundw
          case rel => exact ⟨k + 1, us ++ [en], by congr 1, hlt, HMF.out, hown4, hg4⟩
          case measure => simp only [intOf]; omega
        | none =>
          rw [hφ] at e0
          have HPHI : Keep (φ (p0 ++ r ++ [ns[k]]) = none) := ⟨hφ⟩
          clear hφ
          have hcat2 : ¬ 9223372036854775807 < (f ++ ns[k]).size + 1 := by rw [ByteArray.size_append]; omega
          have hcall := ih (r ++ [ns[k]]) c (f ++ ns[k] ++ ⟨#[47]⟩) us u1 wr hTr (by rw [← List.append_assoc]; exact HKID.out) (by simp at hd ⊢; omega) (front_step HF.out HX.out) (by
            have := HFS.out
            rw [ByteArray.size_append, ByteArray.size_append, show (⟨#[47]⟩ : ByteArray).size = 1 from rfl]; simp; omega) (HM.out.acc hG hA HNO.out hlt) hBr hrow
          clear hfew ih
          go_wp2_with fail
          refine hcall.mono ?_
          rintro e w2 ⟨v2, us2, rfl, htold, hrow2, hgr2⟩
          have HMD : Keep (Mid φ p0 r acc (ns.take (k + 1)) us2) := ⟨HM.out.dir hlt HPHI.out htold⟩
          have hg4 := hgr.trans hgr2
          clear hcall htold
          go_wp2
          go_roundw
          case rel => exact ⟨k + 1, us2, by congr 1, hlt, HMD.out, hrow2, hg4⟩
          case measure => simp only [intOf]; omega
      · obtain rfl : k = ns.length := by omega
        rw [List.take_length] at hM
        have hgw := (Grow.of_below (v := v) HB1.out).trans hgr
        have htold := hM.done hG hno
        go_wp2
        go_ret
        exact ⟨_, us, rfl, htold, hrow, hgw⟩
end Go.Proofs.Ytmeodgcnnjkilaa
