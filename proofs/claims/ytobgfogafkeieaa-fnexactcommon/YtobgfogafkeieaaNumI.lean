/-
  impl.numberLines: equal lines have one number.
-/
import Derived.Test.YtobgfogafkeieaaStrsB
import Derived.Test.YtobgfogafkeieaaBase
import Derived.Maps.OwnSet
import Derived.Maps.OwnIn
import Derived.Maps.Views
import Derived.Maps.AppendAt
namespace Go.Proofs.Ytobgfogafkeieaa
open Go.RowKit

structure NKeep (p : Prop) : Prop where
  out : p

theorem nkey_str (x : ByteArray) (h : x.size ≤ 1099511627776) : keyOf Try.prog 9 (.string x) = some (.string x.data.toList) := by
  have hm : x.size ≤ maxLen := by unfold maxLen; omega
  simp [keyOf, mapKey, Try.underlying9, hm]
theorem nKeyed : Maps.Keyed Try.prog 9 := Maps.string_keyed Try.underlying9
theorem nzeroInt (w : World) : (zeroValue 3).run Try.prog w = .ok (.int .i64 0) w := by kernel_rfl
theorem Try.infoInt : (Try.prog.info? 3).map (fun i => (i.zero, i.size, i.bytes)) = some (some (.int .i64 0), 1, 8) := by kernel_rfl

def kl (l : ByteArray) : Lit := .string l.data.toList
theorem kl_inj {x y : ByteArray} (h : kl x = kl y) : x = y := by
  unfold kl at h
  cases x with
  | mk dx => cases y with
    | mk dy => simp at h; simp [h]
theorem kl_is (l : ByteArray) : WideAt.IsKeyLit (kl l) := by unfold kl; trivial

/-- The lines that have a number, in the order of their numbers; D: the map as it reads. -/
structure KeyD (ks : List ByteArray) (D : DataW Unit) : Prop where
  yes : ∀ l, Maps.has D (kl l) = true → ∃ i : Nat, ks[i]? = some l ∧ D.atKey (kl l) (.lit (.int .i64 0)) = .lit (.int .i64 i)
  no : ∀ l, Maps.has D (kl l) = false → l ∉ ks
  size : Maps.size D = ks.length
  nodup : ks.Nodup

theorem keyD_nil : KeyD [] (.map []) := ⟨fun l h => by simp [Maps.has] at h, fun l _ => by simp, by simp [Maps.size], by simp⟩
theorem KeyD.add {ks : List ByteArray} {D : DataW Unit} (h : KeyD ks D) (ht : Maps.Tidy D) (hm : Maps.IsMap D) {l : ByteArray} (hn : Maps.has D (kl l) = false) : KeyD (ks ++ [l]) (D.put (kl l) (.lit (.int .i64 ks.length))) := by
  refine ⟨fun x hx => ?_, fun x hx => ?_, ?_, ?_⟩
  · by_cases e : kl x = kl l
    · have := kl_inj e
      subst this
      exact ⟨ks.length, by simp, Maps.atKey_put_same hm (kl_is _) _ _⟩
    · rw [Maps.has_put_other e] at hx
      obtain ⟨i, h1, h2⟩ := h.yes x hx
      exact ⟨i, by rw [List.getElem?_append_left (List.getElem?_eq_some_iff.1 h1).1]; exact h1, by rw [Maps.atKey_put_other e]; exact h2⟩
  · by_cases e : kl x = kl l
    · have := kl_inj e
      subst this
      rw [Maps.has_put_same hm (kl_is _)] at hx
      cases hx
    · rw [Maps.has_put_other e] at hx
      have := h.no x hx
      simp only [List.mem_append, List.mem_singleton]
      rintro (h1 | rfl)
      · exact this h1
      · exact e rfl
  · rw [Maps.size_put ht, hn, List.length_append, h.size]; rfl
  · rw [List.nodup_append]
    refine ⟨h.nodup, by simp, fun a ha b hb => ?_⟩
    simp at hb
    subst hb
    exact fun e => h.no _ hn (e ▸ ha)

/-- Numbers of lines. -/
def Numbered (ks ss : List ByteArray) (xs : List Nat) : Prop := xs.length = ss.length ∧ ∀ (i : Nat) (h : i < ss.length), ∃ x, xs[i]? = some x ∧ ks[x]? = some ss[i]
theorem Numbered.mono {ks ks' ss : List ByteArray} {xs : List Nat} (h : Numbered ks ss xs) (hp : ks <+: ks') : Numbered ks' ss xs := by
  obtain ⟨r, rfl⟩ := hp
  refine ⟨h.1, fun i hi => ?_⟩
  obtain ⟨x, h1, h2⟩ := h.2 i hi
  exact ⟨x, h1, by rw [List.getElem?_append_left (List.getElem?_eq_some_iff.1 h2).1]; exact h2⟩
theorem Numbered.snoc {ks ss : List ByteArray} {xs : List Nat} {k x : Nat} (hk : k < ss.length) (h : Numbered ks (ss.take k) xs) (hx : ks[x]? = some ss[k]) : Numbered ks (ss.take (k + 1)) (xs ++ [x]) := by
  have hl : (ss.take k).length = k := by simp; omega
  have hxl : xs.length = k := by rw [h.1, hl]
  refine ⟨by simp [hxl]; omega, fun i hi => ?_⟩
  simp at hi
  by_cases e : i = k
  · subst e
    exact ⟨x, by rw [← hxl]; simp, by simpa using hx⟩
  · obtain ⟨y, h1, h2⟩ := h.2 i (by simp; omega)
    exact ⟨y, by rw [List.getElem?_append_left (by omega)]; exact h1, by simpa using h2⟩
/-- Equal numbers are equal lines. -/
theorem Numbered.same {ks ss tt : List ByteArray} {xs ys : List Nat} (hn : ks.Nodup) (h : Numbered ks ss xs) (h' : Numbered ks tt ys) {i j : Nat} (hi : i < ss.length) (hj : j < tt.length) (hi' : i < xs.length) (hj' : j < ys.length) : (xs[i] = ys[j]) ↔ ss[i] = tt[j] := by
  obtain ⟨x, h1, h2⟩ := h.2 i hi
  obtain ⟨y, h3, h4⟩ := h'.2 j hj
  rw [List.getElem?_eq_getElem hi'] at h1
  rw [List.getElem?_eq_getElem hj'] at h3
  cases h1
  cases h3
  constructor
  · intro e
    rw [e, h4] at h2
    exact (Option.some.inj h2).symm
  · intro e
    obtain ⟨l1, e1⟩ := List.getElem?_eq_some_iff.1 h2
    obtain ⟨l2, e2⟩ := List.getElem?_eq_some_iff.1 h4
    have hpw := List.pairwise_iff_getElem.1 hn
    rcases Nat.lt_trichotomy xs[i] ys[j] with h | h | h
    · exact absurd (by rw [e1, e2, e]) (hpw _ _ l1 l2 h)
    · exact h
    · exact absurd (by rw [e1, e2, e]) (hpw _ _ l2 l1 h)

def intC (xs : List Nat) : List Value := xs.map fun (x : Nat) => Value.int .i64 (x : Int)

def NumPost (w : World) (b : Nat) (ks ss : List ByteArray) (e : Ending) (w' : World) : Prop :=
  ∃ ks' D xs ad cp, e = .returned (.slice ad ss.length cp) ∧ ks <+: ks' ∧ ks'.length ≤ ks.length + ss.length ∧ Numbered ks' ss xs ∧ w'.ownsMap Try.prog 9 (plainElem Try.prog 3) b ks'.length D ∧ KeyD ks' D ∧
    w'.ownsRow w.heap.size 3 1 (.slice ad ss.length cp) ss.length (intC xs) ∧ w.grownBy w' (some b)

theorem grown_then {w w1 w2 : World} {row : Option Nat} {r2 : Option Nat} (h : w.grownBy w1 row) (k : w1.grownBy w2 r2) (hr : ∀ g, r2 = some g → row = some g ∨ w.heap.size ≤ g) : w.grownBy w2 row := by
  refine ⟨k.os.trans h.os, k.tape.trans h.tape, k.output.trans h.output, Nat.le_trans h.size k.size, fun i hi hne => (k.block i (Nat.lt_of_lt_of_le hi h.size) (fun e => ?_)).trans (h.block i hi hne)⟩
  rcases hr i e.symm with h' | h'
  · exact hne h'.symm
  · omega

set_option maxRecDepth 20000 in
set_option maxHeartbeats 4000000 in
theorem numberLines_any (b : Nat) (ks : List ByteArray) (D0 : DataW Unit) (a : Option Addr) (cap : Nat) (ss : List ByteArray) (w : World) (hb : b < w.heap.size) (hss : SS w a ss) (hna : ∀ ad, a = some ad → 0 < ss.length → ad.block ≠ b ∧ ad.block < w.heap.size)
    (hn : ss.length ≤ 1500) (hks : ks.length ≤ 1500) (hm : ∀ s ∈ ss, s.size ≤ 1099511627776) (hM : w.ownsMap Try.prog 9 (plainElem Try.prog 3) b ks.length D0) (hK : KeyD ks D0) :
    Calls Try.prog 28 #[.map (some b), .slice a ss.length cap] w fun e w' => NumPost w b ks ss e w' := by
  obtain ⟨i0, hi, hz0, hz1, hz2⟩ := info_parts Try.infoInt
  go_enter Try.func28, Try.ntmps28
  go_wp2
  go_loopw [5, 12] (fun v i wr => ∃ (k : Nat) (kr : List ByteArray) (D : DataW Unit) (xs : List Nat), k ≤ ss.length ∧ i = .int .i64 k ∧ NKeep (ks <+: kr) ∧ kr.length ≤ ks.length + k ∧ NKeep (Numbered kr (ss.take k) xs) ∧ wr.ownsMap Try.prog 9 (plainElem Try.prog 3) b kr.length D ∧ NKeep (KeyD kr D) ∧ wr.ownsRow w.heap.size 3 1 v k (intC xs) ∧ w.grownBy wr (some b)) (fun _ i _ => ss.length - (intOf i).toNat)
  case atStart => exact ⟨0, ks, D0, [], Nat.zero_le _, rfl, ⟨List.prefix_refl _⟩, Nat.le_refl _, ⟨⟨rfl, fun i h => by simp at h⟩⟩, hM, ⟨hK⟩, World.ownsRow_nil _ _ _ _, ⟨rfl, rfl, rfl, Nat.le_refl _, fun _ _ _ => rfl⟩⟩
  case round =>
    obtain ⟨k, kr, D, xs, hk, rfl, HP, hkl, HN, hown, HKD, hrow, hg⟩ := hrel
    by_cases hlt : k < ss.length
    · obtain ⟨b', off, rfl, hc⟩ := hss.at hlt
      obtain ⟨hbb, hbl⟩ := hna _ rfl (by omega)
      have hck : wr.cell? ⟨b', off + k, none⟩ = some (.string ss[k]) := (hg.cell_far ⟨b', off + k, none⟩ hbl (by simpa using hbb)).trans (hc k hlt)
      have hsz := hm ss[k] (List.getElem_mem hlt)
      have hgs := hg.size
      have hrb := owns_base hrow
      clear hc
      have hxl : xs.length = k := by have := HN.out.1; simp at this; omega
      have hap : ∀ (x : Nat) (wz : World) (vz : Value), wz.ownsRow w.heap.size 3 1 vz (k + 1) (intC xs ++ [.int .i64 (x : Int)]) → wz.ownsRow w.heap.size 3 1 vz (k + 1) (intC (xs ++ [x])) := fun x wz vz h => by
        rw [show intC (xs ++ [x]) = intC xs ++ [.int .i64 (x : Int)] by simp [intC]]; exact h
      by_cases hh : Maps.has D (kl ss[k]) = true
      · obtain ⟨x, hx1, hx2⟩ := HKD.out.yes _ hh
        have HX : NKeep (kr[x]? = some ss[k]) := ⟨hx1⟩
        have hhb : Maps.has D (.string ss[k].data.toList) = true := hh
        have hcx : ∀ c : Int, D.atKey (.string ss[k].data.toList) (.lit (.int .i64 0)) = .lit (.int .i64 c) → c = (x : Int) := fun c hc => by
          have := hx2.symm.trans hc
          simpa using this.symm
        clear hx1 hh hx2
        go_wp2_with (first | (at_lookup; refine wpList_lookup_own_ok_int _ rfl _ _ 52 rfl 9 3 .i64 nKeyed Try.underlying52 Try.underlying3 (nzeroInt _) b kr.length D rfl hown _ _ rfl (nkey_str ss[k] hsz) ?_; intro c hat hwc; obtain rfl := hcx c hat; rw [hhb])
                               | (at_builtin; refine wpList_append_own _ rfl _ _ 48 rfl w.heap.size 3 i0 _ 1 8 Try.underlying48 hi hz0 hz1 hz2 rfl (by decide) _ _ _ rfl (hrow.alloc _) ⟨wr.heap.size, 0, none⟩ 1 1 [.int .i64 (x : Int)] rfl rfl (cell_one_new _ _ _) (by simp [Value.oneCell']) (by unfold maxLen; omega) (by omega) (by simp; omega) ?_; intro v4 w4 ho4 hg4 _))
        go_roundw
        case rel =>
          refine ⟨k + 1, kr, D, xs ++ [x], by omega, by go_num, HP, by omega, ⟨HN.out.snoc hlt HX.out⟩, ?_, HKD, hap x _ _ ho4, ?_⟩
          · exact (hown.alloc _).kept hg4 (fun e => by have := hrb _ e.symm; omega)
          · exact grown_then (grown_then hg (World.grownBy_alloc wr _ none) (fun g e => by cases e)) hg4 (fun g e => .inr (hrb g e))
        case measure => simp [intOf]; omega
      · have hh : Maps.has D (kl ss[k]) = false := by simpa using hh
        have hhb : Maps.has D (.string ss[k].data.toList) = false := hh
        have hsize := HKD.out.size
        have HD : NKeep (KeyD (kr ++ [ss[k]]) (D.put (kl ss[k]) (.lit (.int .i64 kr.length)))) := ⟨HKD.out.add (hown.tidy nKeyed) hown.isMap hh⟩
        go_wp2_with (first | (at_lookup; refine wpList_lookup_own_ok_int _ rfl _ _ 52 rfl 9 3 .i64 nKeyed Try.underlying52 Try.underlying3 (nzeroInt _) b kr.length D rfl hown _ _ rfl (nkey_str ss[k] hsz) ?_; intro c hat hwc; rw [hhb])
                               | (at_len; refine wpList_len_own _ rfl _ 52 rfl 9 3 Try.underlying52 _ b kr.length D rfl hown ?_; rw [hsize])
                               | (at_mapUpdate; refine wpList_mapUpdate_own _ rfl _ _ _ 52 rfl 9 3 nKeyed Try.underlying52 _ b kr.length D rfl hown (by unfold maxLen; omega) _ _ _ rfl rfl (nkey_str ss[k] hsz) _ [] (plainElem_int Try.underlying3 (WalkArith.wf_i64 (by omega))) ?_; intro w2 hown2 hgrow2; have hrow2 := hrow.kept hgrow2 (.inr (fun e => by have := hrb _ e; omega)); have hs2 := hgrow2.size)
                               | (at_builtin; refine wpList_append_own _ rfl _ _ 48 rfl w.heap.size 3 i0 _ 1 8 Try.underlying48 hi hz0 hz1 hz2 rfl (by decide) _ _ _ rfl (hrow2.alloc _) ⟨w2.heap.size, 0, none⟩ 1 1 [.int .i64 (kr.length : Int)] rfl rfl (cell_one_new _ _ _) (by simp [Value.oneCell']) (by unfold maxLen; omega) (by omega) (by simp; omega) ?_; intro v4 w4 ho4 hg4 _))
        go_roundw
        case rel =>
          refine ⟨k + 1, kr ++ [ss[k]], _, xs ++ [kr.length], by omega, by go_num, ⟨HP.out.trans (List.prefix_append _ _)⟩, by simp; omega, ⟨(HN.out.mono (List.prefix_append _ _)).snoc hlt (by simp)⟩, ?_, HD, hap _ _ _ ho4, ?_⟩
          · rw [List.length_append]
            exact (hown2.alloc _).kept hg4 (fun e => by have := hrb _ e.symm; omega)
          · exact grown_then (grown_then (grown_then hg hgrow2 (fun g e => .inl e)) (World.grownBy_alloc w2 _ none) (fun g e => by cases e)) hg4 (fun g e => .inr (hrb g e))
        case measure => simp [intOf]; omega
    · obtain rfl : k = ss.length := by omega
      obtain ⟨ad, cp, rfl⟩ := owns_slice hrow
      go_wp2
      go_ret
      refine ⟨kr, D, xs, ad, cp, rfl, HP.out, hkl, ?_, hown, HKD.out, hrow, hg⟩
      have := HN.out
      rwa [List.take_length] at this
end Go.Proofs.Ytobgfogafkeieaa
