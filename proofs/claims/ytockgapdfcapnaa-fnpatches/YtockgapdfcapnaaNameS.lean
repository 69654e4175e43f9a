/-
  spec.l6Name.
-/
import Derived.Test.YtockgapdfcapnaaNameP
import Derived.Test.YtockgapdfcapnaaStrsB
import Derived.Test.YtockgapdfcapnaaBase
namespace Go.Proofs.Ytockgapdfcapnaa
open Go.RowKit

theorem ss_of_rowM {w : World} {base : Nat} {ad : Option Addr} {cp : Nat} {ss : List ByteArray} (h : w.ownsRow base 9 1 (.slice ad ss.length cp) ss.length (ss.map .string)) : SS w ad ss := by
  by_cases h0 : ss = []
  · exact .inl h0
  · right
    obtain ⟨g, c, hv, _⟩ := h.form (List.length_pos_iff.2 h0)
    cases hv
    exact ⟨g, 0, rfl, fun i hi => by rw [Nat.zero_add, h.cellAt i (by simpa using hi), List.getElem?_map, List.getElem?_eq_getElem hi]; rfl⟩
def NamesPost (us : List ByteArray) (w : World) (e : Ending) (w' : World) : Prop :=
  ∃ ad cp, e = .returned (.slice ad us.length cp) ∧ w'.ownsRow w.heap.size 9 1 (.slice ad us.length cp) us.length (us.map .string) ∧ Below w.heap.size w w'
/-- A row of names in the making. -/
structure NmR (w : World) (v : Value) (us : List ByteArray) (W : World) : Prop where
  row : W.ownsRow w.heap.size 9 1 v us.length (us.map .string)
  bw : Below w.heap.size w W
theorem NmR.app {w : World} {v v' : Value} {us : List ByteArray} {W W' : World} {x : ByteArray} {o : Obj} (h : NmR w v us W) (hg : (W.alloc o).grownBy W' v.ownBlock) (ho : W'.ownsRow w.heap.size 9 1 v' (us.length + 1) (us.map .string ++ [.string x])) : NmR w v' (us ++ [x]) W' :=
  ⟨by rw [List.length_append, List.map_append]; exact ho, (h.bw.alloc h.bw.size _).grown hg (by have := h.bw.size; simp; omega) (owns_base h.row)⟩

set_option maxRecDepth 100000 in
set_option maxHeartbeats 4000000 in
theorem l6Name_any (a : Option Addr) (cap : Nat) (ls : List ByteArray) (s : ByteArray) (w : World) (hss : SS w a ls) (hn : ls.length ≤ 1048576) :
    Calls Try.prog 57 #[.slice a ls.length cap, .string s] w (NamesPost (nameL ls s) w) := by
  obtain ⟨i0, hi, hz0, hz1, hz2⟩ := info_parts Try.infoStr
  have hnil : NmR w (.slice (some ⟨w.heap.size, 0, none⟩) 0 0) [] (w.alloc (.cells #[] 9)) := ⟨⟨by simp, .inr ⟨w.heap.size, 0, #[], rfl, Nat.le_refl _, heap_alloc_new w _, Nat.le_refl _, by unfold maxLen; omega, rfl, by simp⟩⟩, (Below.refl _ _).alloc (Nat.le_refl _) _⟩
  go_enter Try.func57, Try.ntmps57
  go_wp2
  go_loopw [5, 6, 7] (fun v dn i wr => ∃ k : Nat, i = .int .i64 k ∧ k ≤ ls.length ∧ dn = .bool (foldN s (ls.take k)).2 ∧ NmR w v (foldN s (ls.take k)).1 wr) (fun _ _ i _ => ls.length - (intOf i).toNat)
  case atStart => exact ⟨0, rfl, Nat.zero_le _, rfl, hnil⟩
  case round =>
    obtain ⟨k, rfl, hk, rfl, hR⟩ := hrel
    have hfl := (foldN_len s ls k hk).2
    have hbs := hR.bw.size
    by_cases hlt : k < ls.length
    · have hlt' : (k : Int) < ls.length := by omega
      obtain ⟨b, off, rfl, hcl⟩ := (hss.below hR.bw).at hlt
      have hck := hcl k hlt
      have HN : Keep (foldN s (ls.take (k + 1)) = stepN s (foldN s (ls.take k)) ls[k]) := ⟨foldN_take hlt⟩
      have hbm : ∀ W, Below w.heap.size w W → W.cell? ⟨b, off + k, none⟩ = some (.string ls[k]) := fun W hW => by
        obtain ⟨b2, off2, e2, h2⟩ := (hss.below hW).at hlt
        cases e2
        exact h2 k hlt
      clear hcl
      generalize hx : ls[k] = x at *
      clear hx
      generalize foldN s (ls.take k) = r at *
      obtain ⟨us, dn⟩ := r
      dsimp only at hR hfl HN ⊢
      cases dn with
      | true =>
        by_cases hxs : x = s
        · have hne : (x.toList != s.toList) = false := by rw [hxs]; simp
          have heq : (x.toList == s.toList) = true := by rw [hxs]; simp
          have HF : Keep (foldN s (ls.take (k + 1)) = (us, true)) := ⟨by rw [HN.out]; unfold stepN; rw [if_pos rfl, if_neg (by rw [hne]; simp)]⟩
          clear hxs
          go_wp2
          go_roundw
          case rel => exact ⟨k + 1, by congr 1, by omega, by rw [HF.out], by rw [HF.out]; exact hR⟩
          case measure => simp only [intOf]; omega
        · have hne : (x.toList != s.toList) = true := ne_toList.2 hxs
          have heq : (x.toList == s.toList) = false := by simpa using hne
          have HF : Keep (foldN s (ls.take (k + 1)) = (us ++ [x], true)) := ⟨by rw [HN.out]; unfold stepN; rw [if_pos rfl, if_pos hne]⟩
          clear hxs
          go_wp2_with (first | (at_builtin; refine wpList_append_own _ rfl _ _ 23 rfl w.heap.size 9 i0 _ 1 16 Try.underlying23 hi hz0 hz1 hz2 rfl (by decide) _ _ _ rfl (hR.row.alloc _) ⟨wr.heap.size, 0, none⟩ 1 1 [.string x] rfl rfl (cell_one_new _ _ _) (by simp [Value.oneCell']) (by unfold maxLen; omega) (by omega) (by have := hR.bw.size; simp; omega) ?_; intro v2 w2 ho2 hg2 _; have hR2 := hR.app (x := x) hg2 ho2))
          go_roundw
          case rel => exact ⟨k + 1, by congr 1, by omega, by rw [HF.out], by rw [HF.out]; exact hR2⟩
          case measure => simp only [intOf]; omega
      | false =>
        by_cases hl : Op.bytesLess x.toList s.toList = true
        · have hxs : x ≠ s := less_ne hl
          have hne : (x.toList != s.toList) = true := ne_toList.2 hxs
          have heq : (x.toList == s.toList) = false := by simpa using hne
          have hgl : Op.bytesLess s.toList x.toList = false := by
            cases hq : Op.bytesLess s.toList x.toList with
            | false => rfl
            | true => have := less_trans hl hq; rw [less_irrefl] at this; cases this
          have HF : Keep (foldN s (ls.take (k + 1)) = (us ++ [x], false)) := ⟨by rw [HN.out]; unfold stepN; rw [if_neg (by simp), if_pos hl]⟩
          clear hxs
          go_wp2_with (first | (at_builtin; refine wpList_append_own _ rfl _ _ 23 rfl w.heap.size 9 i0 _ 1 16 Try.underlying23 hi hz0 hz1 hz2 rfl (by decide) _ _ _ rfl (hR.row.alloc _) ⟨wr.heap.size, 0, none⟩ 1 1 [.string x] rfl rfl (cell_one_new _ _ _) (by simp [Value.oneCell']) (by unfold maxLen; omega) (by omega) (by have := hR.bw.size; simp; omega) ?_; intro v2 w2 ho2 hg2 _; have hR2 := hR.app (x := x) hg2 ho2))
          go_roundw
          case rel => exact ⟨k + 1, by congr 1, by omega, by rw [HF.out], by rw [HF.out]; exact hR2⟩
          case measure => simp only [intOf]; omega
        · replace hl : Op.bytesLess x.toList s.toList = false := by simpa using hl
          by_cases hxs : x = s
          · have hne : (x.toList != s.toList) = false := by rw [hxs]; simp
            have heq : (x.toList == s.toList) = true := by rw [hxs]; simp
            have HF : Keep (foldN s (ls.take (k + 1)) = (us ++ [s], true)) := ⟨by rw [HN.out]; unfold stepN; rw [if_neg (by simp), if_neg (by rw [hl]; simp), if_neg (by rw [hne]; simp)]⟩
            clear hxs
            go_wp2_with (first | (at_builtin; refine wpList_append_own _ rfl _ _ 23 rfl w.heap.size 9 i0 _ 1 16 Try.underlying23 hi hz0 hz1 hz2 rfl (by decide) _ _ _ rfl (hR.row.alloc _) ⟨wr.heap.size, 0, none⟩ 1 1 [.string s] rfl rfl (cell_one_new _ _ _) (by simp [Value.oneCell']) (by unfold maxLen; omega) (by omega) (by have := hR.bw.size; simp; omega) ?_; intro v2 w2 ho2 hg2 _; have hR2 := hR.app (x := s) hg2 ho2; have ck2 := hbm w2 hR2.bw; have hl2 : (us ++ [s]).length ≤ 1048579 := (by simp; omega)))
            go_roundw
            case rel => exact ⟨k + 1, by congr 1, by omega, by rw [HF.out], by rw [HF.out]; exact hR2⟩
            case measure => simp only [intOf]; omega
          · have hne : (x.toList != s.toList) = true := ne_toList.2 hxs
            have heq : (x.toList == s.toList) = false := by simpa using hne
            have hgl := less_of hl hxs
            have HF : Keep (foldN s (ls.take (k + 1)) = (us ++ [s] ++ [x], true)) := ⟨by rw [HN.out]; unfold stepN; rw [if_neg (by simp), if_neg (by rw [hl]; simp), if_pos hne]⟩
            have hul : us.length ≤ 1048578 := by omega
            clear hxs
            go_wp2_with (first | (at_builtin; refine wpList_append_own _ rfl _ _ 23 rfl w.heap.size 9 i0 _ 1 16 Try.underlying23 hi hz0 hz1 hz2 rfl (by decide) _ _ _ rfl (hR2.row.alloc _) ⟨w2.heap.size, 0, none⟩ 1 1 [.string x] rfl rfl (cell_one_new _ _ _) (by simp [Value.oneCell']) (by unfold maxLen; omega) (by omega) (by have := hR2.bw.size; simp; omega) ?_; intro v3 w3 ho3 hg3 _; have hR3 := hR2.app (x := x) hg3 ho3) | (at_builtin; refine wpList_append_own _ rfl _ _ 23 rfl w.heap.size 9 i0 _ 1 16 Try.underlying23 hi hz0 hz1 hz2 rfl (by decide) _ _ _ rfl (hR.row.alloc _) ⟨wr.heap.size, 0, none⟩ 1 1 [.string s] rfl rfl (cell_one_new _ _ _) (by simp [Value.oneCell']) (by unfold maxLen; omega) (by omega) (by have := hR.bw.size; simp; omega) ?_; intro v2 w2 ho2 hg2 _; have hR2 := hR.app (x := s) hg2 ho2; have ck2 := hbm w2 hR2.bw; have hl2 : (us ++ [s]).length ≤ 1048579 := (by simp; omega)))
            go_roundw
            case rel => exact ⟨k + 1, by congr 1, by omega, by rw [HF.out], by rw [HF.out]; exact hR3⟩
            case measure => simp only [intOf]; omega
    · obtain rfl : k = ls.length := by omega
      rw [List.take_length] at hR hfl
      have HNL : Keep (nameL ls s = if (foldN s ls).2 = true then (foldN s ls).1 else (foldN s ls).1 ++ [s]) := ⟨rfl⟩
      rw [List.take_length]
      generalize foldN s ls = r at *
      obtain ⟨us, dn⟩ := r
      dsimp only at hR hfl HNL ⊢
      cases dn with
      | true =>
        rw [if_pos rfl] at HNL
        obtain ⟨ad, cp, rfl⟩ := owns_slice hR.row
        go_wp2
        go_ret
        rw [HNL.out]
        exact ⟨ad, cp, rfl, hR.row, hR.bw⟩
      | false =>
        rw [if_neg (by simp)] at HNL
        go_wp2_with (first | (at_builtin; refine wpList_append_own _ rfl _ _ 23 rfl w.heap.size 9 i0 _ 1 16 Try.underlying23 hi hz0 hz1 hz2 rfl (by decide) _ _ _ rfl (hR.row.alloc _) ⟨wr.heap.size, 0, none⟩ 1 1 [.string s] rfl rfl (cell_one_new _ _ _) (by simp [Value.oneCell']) (by unfold maxLen; omega) (by omega) (by have := hR.bw.size; simp; omega) ?_; intro v2 w2 ho2 hg2 _; have hR2 := hR.app (x := s) hg2 ho2))
        obtain ⟨ad, cp, rfl⟩ := owns_slice hR2.row
        go_ret
        rw [HNL.out]
        exact ⟨ad, cp, rfl, hR2.row, hR2.bw⟩
end Go.Proofs.Ytockgapdfcapnaa
