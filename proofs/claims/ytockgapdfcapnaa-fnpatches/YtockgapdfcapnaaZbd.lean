/-
  ApR, CopyT, PatS, ApS, UndoP, JoinP, PjP, RegX, Pick, DrP, DrawTx: laid as one text.
-/
import Derived.Test.YtockgapdfcapnaaZbb
import Derived.Test.YtockgapdfcapnaaZbc
import Derived.Test.YtockgapdfcapnaaEntL
import Derived.Test.YtockgapdfcapnaaLay
import Derived.Laws.AppendOwnNone
import Derived.Test.YtockgapdfcapnaaSpecPath
import Derived.Test.YtockgapdfcapnaaLaterQ
import Derived.Deep.RegionWith
import Derived.Test.YtockgapdfcapnaaAtS
import Derived.Test.YtockgapdfcapnaaSpecTree
import Derived.Deep.CutRange
import Derived.Test.YtockgapdfcapnaaChOut
import Derived.Test.YtockgapdfcapnaaPatP
import Derived.Test.YtockgapdfcapnaaMrgP
import Derived.Test.YtockgapdfcapnaaZba
import Derived.Test.YtockgapdfcapnaaAtP
import Derived.Test.YtockgapdfcapnaaDiffS
import Derived.Test.YtockgapdfcapnaaRows
import Derived.WalkKit
import Derived.WalkSpells
import Derived.WalkLawsBesides
import Derived.Deep.Light
import Derived.Deep.QuietTactic
import Derived.BigQuiet
import Derived.Test.YtockgapdfcapnaaBase
namespace Go.Proofs.Ytockgapdfcapnaa
open Go.RowKit

def yTab (P C K : Value) (tb b1 o : Nat) (s : ByteArray) (f : Fl) : Nat → Option Value
  | 0 => some P
  | 1 => some (.pointer (some ⟨tb, 0, none⟩))
  | 2 => some C
  | 3 => some K
  | 4 => some (.pointer (some ⟨b1, o, none⟩))
  | 5 => some (.pointer (some ⟨b1, o, none⟩))
  | 6 => some (.string s)
  | 7 => some (.pointer (some ⟨tb, 0, none⟩))
  | 8 => some C
  | 9 => some K
  | 10 => some (.pointer (some ⟨b1, o, none⟩))
  | 11 => some (.pointer (some ⟨b1, o + 4, none⟩))
  | 12 => some (.agg #[.bool f.there, .string f.text, .bool f.runs])
  | _ => none
def yDs : List Nat := [50, 51, 52, 53, 54, 55, 56, 57, 58, 59, 60, 61, 62, 63, 1000]
theorem yNd : yDs.Nodup := by decide

structure YV (T0 : Array Value) (X : World) (P C K : Value) (tb b1 o : Nat) (us : List En) (s : ByteArray) (f : Fl) (E : World → Prop) (L : Array Bool) (a : Act) (w : World) : Prop where
  sl : Sl2 T0 yDs (yTab P C K tb b1 o s f) L a
  w0 : L.getD 13 false = false → w = X.drew
  w1 : L.getD 13 false = true → L.getD 14 false = false → ∃ ad cap vs, a.eval (.tmp 63) = .agg #[.slice ad vs.length cap] ∧ LayRel us s f vs ∧ EL X.heap.size w ad vs ∧ Below X.heap.size X w ∧ vs.length ≤ us.length + 1
  w3 : L.getD 14 false = true → E w

theorem YV.step {T0 : Array Value} {X : World} {P C K : Value} {tb b1 o : Nat} {us : List En} {s : ByteArray} {f : Fl} {E : World → Prop} {L : Array Bool} {a : Act} {w : World} (h : YV T0 X P C K tb b1 o us s f E L a w) {i : Nat} {u : Value} (hT : T0.size = 69) (hi : i < 13) (ht : yTab P C K tb b1 o s f i = some u) :
    YV T0 X P C K tb b1 o us s f E (L.setIfInBounds i true) (a.put (some (50 + i)) u) w := by
  have hlen : i < yDs.length := by show i < 15; omega
  have hds : yDs[i] = 50 + i := by
    match i, hi with
    | 0, _ | 1, _ | 2, _ | 3, _ | 4, _ | 5, _ | 6, _ | 7, _ | 8, _ | 9, _ | 10, _ | 11, _ | 12, _ => rfl
  have hsl := h.sl.put yNd hlen (by rw [hds, hT]; omega) (v := u) (fun u' hu => by rw [ht] at hu; cases hu; rfl)
  rw [hds] at hsl
  have ev : ∀ k, k ≠ 50 + i → (a.put (some (50 + i)) u).eval (.tmp k) = a.eval (.tmp k) := fun k hk => Act.eval_put (fun d hd' => by cases hd'; intro e'; injection e' with e'; exact hk e')
  refine ⟨hsl, fun h1 => ?_, fun h1 h2 => ?_, fun h1 => ?_⟩
  · rw [getD_set_ne false (by omega)] at h1; exact h.w0 h1
  · rw [getD_set_ne false (by omega)] at h1; rw [getD_set_ne false (by omega)] at h2
    obtain ⟨ad, cap, vs, e1, e2⟩ := h.w1 h1 h2
    exact ⟨ad, cap, vs, by rw [ev 63 (by omega)]; exact e1, e2⟩
  · rw [getD_set_ne false (by omega)] at h1; exact h.w3 h1
theorem YV.call {T0 : Array Value} {X : World} {P C K : Value} {tb b1 o : Nat} {us : List En} {s : ByteArray} {f : Fl} {E : World → Prop} {L : Array Bool} {a : Act} {w w' : World} (h : YV T0 X P C K tb b1 o us s f E L a w) (hT : T0.size = 69) (hL : L.getD 13 true = false) (h14 : L.getD 14 false = false) {ad : Option Addr} {cap : Nat} {vs : List En}
    (e2 : LayRel us s f vs) (e3 : EL X.heap.size w' ad vs) (e4 : Below X.heap.size X w') (e5 : vs.length ≤ us.length + 1) :
    YV T0 X P C K tb b1 o us s f E (L.setIfInBounds 13 true) (a.put (some 63) (.agg #[.slice ad vs.length cap])) w' := by
  have g13 : (L.setIfInBounds 13 true).getD 13 false = true := by
    have h1 := getD_false hL
    have h2 : 13 < L.size := by simpa using (List.getElem?_eq_some_iff.1 h1).1
    rw [Array.getD_eq_getD_getElem?, Array.getElem?_setIfInBounds_self_of_lt h2]
    rfl
  refine ⟨h.sl.put (i := 13) yNd (by decide) (show 63 < _ by rw [hT]; omega) (fun u hu => by cases hu), fun h1 => ?_, fun _ _ => ⟨ad, cap, vs, ?_, e2, e3, e4, e5⟩, fun h1 => ?_⟩
  · rw [g13] at h1; cases h1
  · show ((a.tmps.setIfInBounds 63 _).getD 63 undef) = _
    rw [Array.getD_eq_getD_getElem?, Array.getElem?_setIfInBounds_self_of_lt (by rw [h.sl.sz, hT]; omega)]
    rfl
  · rw [getD_set_ne false (by omega), h14] at h1; cases h1
theorem YV.last {T0 : Array Value} {X : World} {P C K : Value} {tb b1 o : Nat} {us : List En} {s : ByteArray} {f : Fl} {E : World → Prop} {L : Array Bool} {a : Act} {w w' : World} (h : YV T0 X P C K tb b1 o us s f E L a w) (h13 : L.getD 13 false = true) (hL : L.getD 14 true = false) (hE : E w') :
    YV T0 X P C K tb b1 o us s f E (L.setIfInBounds 14 true) a w' := by
  have g14 : (L.setIfInBounds 14 true).getD 14 false = true := by
    have h1 := getD_false hL
    have h2 : 14 < L.size := by simpa using (List.getElem?_eq_some_iff.1 h1).1
    rw [Array.getD_eq_getD_getElem?, Array.getElem?_setIfInBounds_self_of_lt h2]
    rfl
  refine ⟨h.sl.skip rfl, fun h1 => ?_, fun _ h2 => ?_, fun _ => hE⟩
  · rw [getD_set_ne false (by omega), h13] at h1; cases h1
  · rw [g14] at h2; cases h2
end Go.Proofs.Ytockgapdfcapnaa

namespace Go.Proofs.Ytockgapdfcapnaa
open Go.RowKit

theorem frozen_blk {w w' : World} {g j : Nat} (h : w'.heap[g]? = w.heap[g]?) (hf : w.frozen? ⟨g, j, none⟩ = false) : w'.frozen? ⟨g, j, none⟩ = false := by
  unfold World.frozen? at hf ⊢
  simp only at hf ⊢
  rw [h]; exact hf
theorem ecells_len (us : List En) : (ecells us).length = us.length * 3 := by
  induction us with
  | nil => rfl
  | cons e us ih =>
    have hs : ecells (e :: us) = .string e.path :: .string e.text :: .bool e.runs :: ecells us := by simp [ecells, ecell]
    rw [hs]
    simp [ih]
    omega
theorem es_news {w : World} {b off : Nat} {ts : List En} (h : ∀ i (h : i < ts.length), w.cell? ⟨b, off + i * 3, none⟩ = some (.string ts[i].path) ∧ w.cell? ⟨b, off + i * 3 + 1, none⟩ = some (.string ts[i].text) ∧ w.cell? ⟨b, off + i * 3 + 2, none⟩ = some (.bool ts[i].runs)) :
    ∀ j u, (ecells ts)[j]? = some u → w.cell? ((⟨b, off, none⟩ : Addr).add j) = some u := fun j u hu => by
  have hl := (List.getElem?_eq_some_iff.1 hu).1
  rw [ecells_len] at hl
  have hi : j / 3 < ts.length := by omega
  obtain ⟨h0, h1, h2⟩ := h _ hi
  obtain ⟨e0, e1, e2⟩ := ecells_at ts _ hi
  rw [Go.WideShapes.add_plain]
  have hr : j % 3 = 0 ∨ j % 3 = 1 ∨ j % 3 = 2 := by omega
  rcases hr with hr | hr | hr
  · rw [show j / 3 * 3 = j by omega] at h0 e0
    rw [h0, ← e0, hu]
  · rw [show off + j / 3 * 3 + 1 = off + j by omega] at h1
    rw [show j / 3 * 3 + 1 = j by omega] at e1
    rw [h1, ← e1, hu]
  · rw [show off + j / 3 * 3 + 2 = off + j by omega] at h2
    rw [show j / 3 * 3 + 2 = j by omega] at e2
    rw [h2, ← e2, hu]
theorem ecells_one (us : List En) : ∀ u ∈ ecells us, u.oneCell' = true := fun u hu => by
  obtain ⟨e, _, h⟩ := List.mem_flatMap.1 hu
  exact one_3 e u h
theorem own_none (w : World) (B : Nat) (hB : B ≤ w.heap.size) : (w.alloc (.cells #[] 72)).ownsRow B 72 3 (.slice (some ⟨w.heap.size, 0, none⟩) 0 0) 0 (ecells []) :=
  ⟨by simp [ecells], .inr ⟨w.heap.size, 0, #[], rfl, hB, heap_alloc_new w _, Nat.le_refl _, by unfold maxLen; omega, rfl, by simp [ecells]⟩⟩

set_option maxRecDepth 20000 in
set_option maxHeartbeats 2000000 in
theorem l5Copy_any (b : Option Addr) (cb : Nat) (bs : List En) (w : World) (hbs : ES w b bs) (hn : bs.length ≤ 1048576) (hb : (∃ ad, b = some ad) ∨ (b = none ∧ cb = 0)) :
    Calls Try.prog 63 #[.agg #[.slice b bs.length cb]] w fun e w' => TreeQ bs w.heap.size e w' ∧ Below w.heap.size w w' := by
  obtain ⟨i0, hi, hz0, hz1, hzb⟩ := info_parts Try.infoEntry
  have hal : Below w.heap.size w (((w.alloc (.cells #[.slice b bs.length cb] 32)).alloc (.cells #[.slice none 0 0] 32)).alloc (.cells #[] 72)) := (((Below.refl _ _).alloc (Nat.le_refl _) _).alloc (by simp) _).alloc (by simp; omega) _
  have k0 : (((w.alloc (.cells #[.slice b bs.length cb] 32)).alloc (.cells #[.slice none 0 0] 32)).alloc (.cells #[] 72)).cell? ⟨w.heap.size + 1, 0, none⟩ = some (.slice none 0 0) := by simp [go_sem]
  have kf : (((w.alloc (.cells #[.slice b bs.length cb] 32)).alloc (.cells #[.slice none 0 0] 32)).alloc (.cells #[] 72)).frozen? ⟨w.heap.size + 1, 0, none⟩ = false := by simp [go_sem]
  have m0 : (((w.alloc (.cells #[.slice b bs.length cb] 32)).alloc (.cells #[.slice none 0 0] 32)).alloc (.cells #[] 72)).cell? ⟨w.heap.size, 0, none⟩ = some (.slice b bs.length cb) := by simp [go_sem]
  have hown0 : (((w.alloc (.cells #[.slice b bs.length cb] 32)).alloc (.cells #[.slice none 0 0] 32)).alloc (.cells #[] 72)).ownsRow (w.heap.size + 2) 72 3 (.slice (some ⟨w.heap.size + 1 + 1, 0, none⟩) 0 0) 0 (ecells []) := by simpa using own_none ((w.alloc (.cells #[.slice b bs.length cb] 32)).alloc (.cells #[.slice none 0 0] 32)) (w.heap.size + 2) (by simp)
  have hsz : w.heap.size + 3 ≤ (((w.alloc (.cells #[.slice b bs.length cb] 32)).alloc (.cells #[.slice none 0 0] 32)).alloc (.cells #[] 72)).heap.size := by simp
  rcases hb with ⟨ad, rfl⟩ | ⟨rfl, rfl⟩
  · have hnews : ∃ ad', ∀ n c, (Value.slice (some ad) bs.length c = .slice (some ad) n c → True) ∧ ad' = ad ∧ ∀ j u, (ecells bs)[j]? = some u → (((w.alloc (.cells #[.slice (some ad) bs.length cb] 32)).alloc (.cells #[.slice none 0 0] 32)).alloc (.cells #[] 72)).cell? (ad.add j) = some u := by
      refine ⟨ad, fun _ _ => ⟨fun _ => trivial, rfl, ?_⟩⟩
      rcases hbs with rfl | ⟨bb, off, h, hc⟩
      · intro j u hu; simp [ecells] at hu
      · cases h
        exact es_news (fun i hi => ⟨cell_later hal (hc i hi).1, cell_later hal (hc i hi).2.1, cell_later hal (hc i hi).2.2⟩)
    obtain ⟨_, h3⟩ := hnews
    obtain ⟨_, _, hnw⟩ := h3 0 0
    clear h3
    have hone := ecells_one bs
    have hlen := ecells_len bs
    go_enter Try.func63, Try.ntmps63
    go_wp2_with (first | (at_builtin; refine wpList_append_own _ rfl _ _ 30 rfl (w.heap.size + 2) 72 i0 _ 3 40 Try.underlying30 hi hz0 hz1 hzb rfl (by decide) (.slice (some ⟨w.heap.size + 1 + 1, 0, none⟩) 0 0) 0 (ecells []) rfl hown0 ad bs.length cb (ecells bs) rfl hlen hnw hone (by unfold maxLen; omega) (by omega) (by omega) ?_; intro v2 w2 hown2 hgrow2 _; have k2 := hgrow2.cell (a := ⟨w.heap.size + 1, 0, none⟩) k0 (by simp [Value.ownBlock]); have kf2 : w2.frozen? ⟨w.heap.size + 1, 0, none⟩ = false := frozen_blk (hgrow2.block (w.heap.size + 1) (by simp) (by simp [Value.ownBlock])) kf; obtain ⟨ad2, cp2, rfl⟩ := owns_slice hown2))
    have hb2 := hal.grown hgrow2 hal.size (fun j hj => by cases hj; simp; omega)
    replace hown2 : w2.ownsRow (w.heap.size + 2) 72 3 (.slice ad2 bs.length cp2) bs.length (ecells bs) := by simpa [ecells] using hown2
    have hel := el_of_row hown2
    have hel2 : EL w.heap.size (w2.setCell ⟨w.heap.size + 1, 0, none⟩ (.slice ad2 bs.length cp2)) ad2 bs := (hel.grown (row := some (w.heap.size + 1)) (grown_set0 w2 (w.heap.size + 1) 0 (.slice ad2 bs.length cp2)) (fun j _ hj _ e => by cases e; omega)).mono (by omega)
    refine bodyPost_ret (v := .agg #[.slice ad2 bs.length cp2]) ?_ rfl ⟨⟨ad2, cp2, rfl, hel2⟩, hb2.setCell (p := ⟨w.heap.size + 1, 0, none⟩) (by simp) _⟩
    go_light
    simp [results, Try.results63, go_sem, k2]
  · obtain rfl : bs = [] := by
      rcases hbs with h | ⟨bb, off, h, _⟩
      · exact h
      · cases h
    go_enter Try.func63, Try.ntmps63
    go_wp2_with (first | (at_builtin; refine wpList_append_own_none rfl _ _ 30 rfl (w.heap.size + 2) 72 i0 3 Try.underlying30 hi _ _ _ rfl hown0 rfl ?_))
    refine bodyPost_ret (v := .agg #[.slice (some ⟨w.heap.size + 1 + 1, 0, none⟩) ([] : List En).length 0]) ?_ rfl ⟨⟨_, _, rfl, EL.nil _ _ _⟩, (((Below.refl _ _).alloc (Nat.le_refl _) _).alloc (by simp) _).alloc (by simp; omega) _⟩
    go_light
    simp [results, Try.results63, go_sem]
end Go.Proofs.Ytockgapdfcapnaa

namespace Go.Proofs.Ytockgapdfcapnaa
open Go.RowKit

/-- What stands in front of a change is less, or there is nothing. -/
def prevOk (cs : List Ch) (k : Nat) : Prop := ∀ j, j + 1 = k → ∀ (hj : j < cs.length) (hk : k < cs.length), Op.bytesLess cs[j].path.toList cs[k].path.toList = true

theorem same_iff (f g : Fl) : sameF f g = true ↔ f.there = g.there ∧ f.text.toList = g.text.toList ∧ f.runs = g.runs := by
  simp [sameF, and_assoc]

set_option maxRecDepth 100000 in
set_option maxHeartbeats 4000000 in
theorem specPatch_any (a : Option Addr) (cap : Nat) (cs : List Ch) (w : World) (hcs : CS w a cs) (hn : cs.length ≤ 1048576) :
    Calls Try.prog 56 #[.agg #[.slice a cs.length cap]] w fun e w' => VpPost cs w e w' := by
  have hal : Below w.heap.size w (w.alloc (.cells #[.slice a cs.length cap] 37)) := (Below.refl _ _).alloc (Nat.le_refl _) _
  have m0 : (w.alloc (.cells #[.slice a cs.length cap] 37)).cell? ⟨w.heap.size, 0, none⟩ = some (.slice a cs.length cap) := by simp
  by_cases h200 : (200 : Int) < cs.length
  · go_enter Try.func56, Try.ntmps56
    go_wp2
    go_ret
    exact VpPost.no (fun h => by have := h.1; omega) hal
  go_enter Try.func56, Try.ntmps56
  go_wp2
  generalize w.alloc (.cells #[.slice a cs.length cap] 37) = w0 at *
  go_loopw [3] (fun i wr => ∃ k : Nat, i = .int .i64 k ∧ k ≤ cs.length ∧ Keep (∀ j, j < k → POk cs j) ∧ Below w0.heap.size w0 wr) (fun i _ => cs.length - (intOf i).toNat)
  case atStart => exact ⟨0, rfl, Nat.zero_le _, ⟨fun j hj => by omega⟩, Below.refl _ _⟩
  case round =>
    obtain ⟨k, rfl, hk, hok, hb0⟩ := hrel
    have hb := hal.trans (hb0.mono hal.size)
    have mr := cell_later hb0 m0
    by_cases hlt : k < cs.length
    · have hlt' : (k : Int) < cs.length := by omega
      obtain ⟨b, off, rfl, hc⟩ := (hcs.below hb).at hlt
      obtain ⟨c0, c1, c2, c3, c4, c5, c6⟩ := hc k hlt
      have HPREV : Keep (∀ j (hj : j < cs.length), wr.cell? ⟨b, off + j * 7, none⟩ = some (.string cs[j].path)) := ⟨fun j hj => (hc j hj).1⟩
      clear hc
      have hals : Below wr.heap.size wr (wr.alloc (.cells #[.string cs[k].path, .bool cs[k].old.there, .string cs[k].old.text, .bool cs[k].old.runs, .bool cs[k].new.there, .string cs[k].new.text, .bool cs[k].new.runs] 82)) := (Below.refl _ _).alloc (Nat.le_refl _) _
      have hx : ChAt (wr.alloc (.cells #[.string cs[k].path, .bool cs[k].old.there, .string cs[k].old.text, .bool cs[k].old.runs, .bool cs[k].new.there, .string cs[k].new.text, .bool cs[k].new.runs] 82)) wr.heap.size 0 cs[k] := by simp [ChAt]
      have m2 := cell_later hals mr
      have hbx := hb0.trans (hals.mono hb0.size)
      have HP2 : Keep (∀ j (hj : j < cs.length), (wr.alloc (.cells #[.string cs[k].path, .bool cs[k].old.there, .string cs[k].old.text, .bool cs[k].old.runs, .bool cs[k].new.there, .string cs[k].new.text, .bool cs[k].new.runs] 82)).cell? ⟨b, off + j * 7, none⟩ = some (.string cs[j].path)) := ⟨fun j hj => cell_later hals (HPREV.out j hj)⟩
      go_upto_region 7 with fail
      go_cut [59] (fun v wx => ∃ bl : Bool, v = .bool bl ∧ (bl = false ↔ POk cs k) ∧ Below w0.heap.size w0 wx)
      case first =>
        generalize wr.alloc (.cells #[.string cs[k].path, .bool cs[k].old.there, .string cs[k].old.text, .bool cs[k].old.runs, .bool cs[k].new.there, .string cs[k].new.text, .bool cs[k].new.runs] 82) = w2 at *
        obtain ⟨xp, hxp⟩ : ∃ xp, cs[k].path = xp := ⟨_, rfl⟩
        obtain ⟨ot, hot⟩ : ∃ x, cs[k].old.there = x := ⟨_, rfl⟩
        obtain ⟨ox, hox⟩ : ∃ x, cs[k].old.text = x := ⟨_, rfl⟩
        obtain ⟨orr, hor⟩ : ∃ x, cs[k].old.runs = x := ⟨_, rfl⟩
        obtain ⟨nt, hnt⟩ : ∃ x, cs[k].new.there = x := ⟨_, rfl⟩
        obtain ⟨nx, hnx⟩ : ∃ x, cs[k].new.text = x := ⟨_, rfl⟩
        obtain ⟨nr, hnr⟩ : ∃ x, cs[k].new.runs = x := ⟨_, rfl⟩
        obtain ⟨y0, y1, y2, y3, y4, y5, y6⟩ := hx
        simp only [Nat.zero_add] at y0 y1 y2 y3 y4 y5 y6
        rw [hxp] at y0
        rw [hot] at y1
        rw [hox] at y2
        rw [hor] at y3
        rw [hnt] at y4
        rw [hnx] at y5
        rw [hnr] at y6
        have z0 : ∀ x : Later w2, x.world.cell? ⟨wr.heap.size, 0, none⟩ = some (.string xp) := fun x => cell_later x.kept y0
        have z1 : ∀ x : Later w2, x.world.cell? ⟨wr.heap.size, 1, none⟩ = some (.bool ot) := fun x => cell_later x.kept y1
        have z2 : ∀ x : Later w2, x.world.cell? ⟨wr.heap.size, 2, none⟩ = some (.string ox) := fun x => cell_later x.kept y2
        have z3 : ∀ x : Later w2, x.world.cell? ⟨wr.heap.size, 3, none⟩ = some (.bool orr) := fun x => cell_later x.kept y3
        have z4 : ∀ x : Later w2, x.world.cell? ⟨wr.heap.size, 4, none⟩ = some (.bool nt) := fun x => cell_later x.kept y4
        have z5 : ∀ x : Later w2, x.world.cell? ⟨wr.heap.size, 5, none⟩ = some (.string nx) := fun x => cell_later x.kept y5
        have z6 : ∀ x : Later w2, x.world.cell? ⟨wr.heap.size, 6, none⟩ = some (.bool nr) := fun x => cell_later x.kept y6
        have zT : ∀ x : Later w2, x.world.cell? ⟨w.heap.size, 0, none⟩ = some (.slice (some ⟨b, off, none⟩) cs.length cap) := fun x => cell_later x.kept m2
        have HBX : Keep (Below w0.heap.size w0 w2) := ⟨hbx⟩
        have HCH : Keep (chOk cs[k] = (pathOk pathB xp && flOk ⟨ot, ox, orr⟩ && flOk ⟨nt, nx, nr⟩ && !sameF ⟨ot, ox, orr⟩ ⟨nt, nx, nr⟩)) := ⟨by rw [← hxp, ← hot, ← hox, ← hor, ← hnt, ← hnx, ← hnr]; rfl⟩
        have HXP : Keep (cs[k].path = xp) := ⟨hxp⟩
        have HC1 : ∀ x : Later w2, Calls Try.prog 46 #[.string xp] x.world fun e w'' => e = .returned (.bool (pathOk pathB xp)) ∧ ∃ y : Later w2, w'' = y.world := fun x => Later.call x (specPath_any _ _)
        have HC2 : ∀ x : Later w2, Calls Try.prog 78 #[.agg #[.bool ot, .string ox, .bool orr]] x.world fun e w'' => e = .returned (.bool (flOk ⟨ot, ox, orr⟩)) ∧ ∃ y : Later w2, w'' = y.world := fun x => Later.call x (l6FileOk_any ⟨ot, ox, orr⟩ _)
        have HC3 : ∀ x : Later w2, Calls Try.prog 78 #[.agg #[.bool nt, .string nx, .bool nr]] x.world fun e w'' => e = .returned (.bool (flOk ⟨nt, nx, nr⟩)) ∧ ∃ y : Later w2, w'' = y.world := fun x => Later.call x (l6FileOk_any ⟨nt, nx, nr⟩ _)
        clear hxp hot hox hor hnt hnx hnr y0 y1 y2 y3 y4 y5 y6 c0 c1 c2 c3 c4 c5 c6 m2 m0 mr hbx hals hal hb hb0 hcs
        cases hp : pathOk pathB xp with
        | false =>
          have HNO : Keep (¬ POk cs k) := ⟨fun ⟨_, h, _⟩ => by rw [HCH.out, hp] at h; simp at h⟩
          rw [hp] at HC1
          replace HC1 := Keep.mk HC1
          replace HC2 := Keep.mk HC2
          replace HC3 := Keep.mk HC3
          (haveI := later_any; refine wp_region_later (by kernel_rfl) (by kernel_rfl) ?_; (repeat (go_big_quiet_step (first | (go_at_call 46; exact HC1.out _) | (go_at_call_of 78 ([Value.agg #[Value.bool ot, Value.string ox, Value.bool orr]] : List Value); exact HC2.out _) | (go_at_call_of 78 ([Value.agg #[Value.bool nt, Value.string nx, Value.bool nr]] : List Value); exact HC3.out _)))); refine wpQuiet_nil ?_; intro _ hwq; obtain ⟨xq, hwq2⟩ := hwq; subst hwq2)
          go_wp2_with fail
          go_meet
          case rel => exact ⟨true, rfl, ⟨fun h => (by cases h), fun h => absurd h HNO.out⟩, HBX.out.trans (xq.kept.mono HBX.out.size)⟩
        | true =>
          rw [hp] at HC1
          replace HC1 := Keep.mk HC1
          cases ho : flOk ⟨ot, ox, orr⟩ with
          | false =>
            have HNO : Keep (¬ POk cs k) := ⟨fun ⟨_, h, _⟩ => by rw [HCH.out, hp, ho] at h; simp at h⟩
            rw [ho] at HC2
            replace HC2 := Keep.mk HC2
            replace HC3 := Keep.mk HC3
            (haveI := later_any; refine wp_region_later (by kernel_rfl) (by kernel_rfl) ?_; (repeat (go_big_quiet_step (first | (go_at_call 46; exact HC1.out _) | (go_at_call_of 78 ([Value.agg #[Value.bool ot, Value.string ox, Value.bool orr]] : List Value); exact HC2.out _) | (go_at_call_of 78 ([Value.agg #[Value.bool nt, Value.string nx, Value.bool nr]] : List Value); exact HC3.out _)))); refine wpQuiet_nil ?_; intro _ hwq; obtain ⟨xq, hwq2⟩ := hwq; subst hwq2)
            go_wp2_with fail
            go_meet
            case rel => exact ⟨true, rfl, ⟨fun h => (by cases h), fun h => absurd h HNO.out⟩, HBX.out.trans (xq.kept.mono HBX.out.size)⟩
          | true =>
            rw [ho] at HC2
            replace HC2 := Keep.mk HC2
            cases hw : flOk ⟨nt, nx, nr⟩ with
            | false =>
              have HNO : Keep (¬ POk cs k) := ⟨fun ⟨_, h, _⟩ => by rw [HCH.out, hp, ho, hw] at h; simp at h⟩
              rw [hw] at HC3
              replace HC3 := Keep.mk HC3
              (haveI := later_any; refine wp_region_later (by kernel_rfl) (by kernel_rfl) ?_; (repeat (go_big_quiet_step (first | (go_at_call 46; exact HC1.out _) | (go_at_call_of 78 ([Value.agg #[Value.bool ot, Value.string ox, Value.bool orr]] : List Value); exact HC2.out _) | (go_at_call_of 78 ([Value.agg #[Value.bool nt, Value.string nx, Value.bool nr]] : List Value); exact HC3.out _)))); refine wpQuiet_nil ?_; intro _ hwq; obtain ⟨xq, hwq2⟩ := hwq; subst hwq2)
              go_wp2_with fail
              go_meet
              case rel => exact ⟨true, rfl, ⟨fun h => (by cases h), fun h => absurd h HNO.out⟩, HBX.out.trans (xq.kept.mono HBX.out.size)⟩
            | true =>
              rw [hw] at HC3
              replace HC3 := Keep.mk HC3
              cases hsm : sameF ⟨ot, ox, orr⟩ ⟨nt, nx, nr⟩ with
              | true =>
                have HNO : Keep (¬ POk cs k) := ⟨fun ⟨_, h, _⟩ => by rw [HCH.out, hsm] at h; simp at h⟩
                obtain ⟨h1, h2, h3⟩ := (same_iff _ _).1 hsm
                simp only at h1 h2 h3
                clear hsm
                have h2' : ox = nx := by rw [Lib.toList_data, Lib.toList_data] at h2; exact WideShapes.bytes_inj h2
                clear h2
                subst h1 h2' h3
                (haveI := later_any; refine wp_region_later (by kernel_rfl) (by kernel_rfl) ?_; (repeat (go_big_quiet_step (first | (go_at_call 46; exact HC1.out _) | (go_at_call_of 78 ([Value.agg #[Value.bool ot, Value.string ox, Value.bool orr]] : List Value); exact HC2.out _) | (go_at_call_of 78 ([Value.agg #[Value.bool nt, Value.string nx, Value.bool nr]] : List Value); exact HC3.out _)))); refine wpQuiet_nil ?_; intro _ hwq; obtain ⟨xq, hwq2⟩ := hwq; subst hwq2)
                go_wp2_with fail
                go_meet
                case rel => exact ⟨true, rfl, ⟨fun h => (by cases h), fun h => absurd h HNO.out⟩, HBX.out.trans (xq.kept.mono HBX.out.size)⟩
              | false =>
                have HOK : Keep (chOk cs[k] = true) := ⟨by rw [HCH.out, hp, ho, hw, hsm]; rfl⟩
                have hne : ¬ (ot = nt ∧ ox.toList = nx.toList ∧ orr = nr) := fun h => by
                  have := (same_iff ⟨ot, ox, orr⟩ ⟨nt, nx, nr⟩).2 h
                  rw [hsm] at this
                  cases this
                clear hsm HCH
                by_cases hk0 : k = 0
                · have hkd : decide (0 < k) = false := by simp [hk0]
                  have HYES : Keep (POk cs k) := ⟨⟨hlt, HOK.out, fun j hj => by omega⟩⟩
                  clear hk0
                  by_cases h1 : ot = nt
                  · by_cases h2 : ox.toList = nx.toList
                    · have h3 : ¬ orr = nr := fun h => hne ⟨h1, h2, h⟩
                      have h2' : ox = nx := by rw [Lib.toList_data, Lib.toList_data] at h2; exact WideShapes.bytes_inj h2
                      clear hne h2
                      subst h1 h2'
                      (haveI := later_any; refine wp_region_later (by kernel_rfl) (by kernel_rfl) ?_; (repeat (go_big_quiet_step (first | (go_at_call 46; exact HC1.out _) | (go_at_call_of 78 ([Value.agg #[Value.bool ot, Value.string ox, Value.bool orr]] : List Value); exact HC2.out _) | (go_at_call_of 78 ([Value.agg #[Value.bool ot, Value.string ox, Value.bool nr]] : List Value); exact HC3.out _)))); refine wpQuiet_nil ?_; intro _ hwq; obtain ⟨xq, hwq2⟩ := hwq; subst hwq2)
                      go_wp2_with fail
                      go_meet
                      case rel => exact ⟨false, rfl, ⟨fun _ => HYES.out, fun _ => rfl⟩, HBX.out.trans (xq.kept.mono HBX.out.size)⟩
                    · clear hne
                      subst h1
                      (haveI := later_any; refine wp_region_later (by kernel_rfl) (by kernel_rfl) ?_; (repeat (go_big_quiet_step (first | (go_at_call 46; exact HC1.out _) | (go_at_call_of 78 ([Value.agg #[Value.bool ot, Value.string ox, Value.bool orr]] : List Value); exact HC2.out _) | (go_at_call_of 78 ([Value.agg #[Value.bool ot, Value.string nx, Value.bool nr]] : List Value); exact HC3.out _)))); refine wpQuiet_nil ?_; intro _ hwq; obtain ⟨xq, hwq2⟩ := hwq; subst hwq2)
                      go_wp2_with fail
                      go_meet
                      case rel => exact ⟨false, rfl, ⟨fun _ => HYES.out, fun _ => rfl⟩, HBX.out.trans (xq.kept.mono HBX.out.size)⟩
                  · clear hne
                    (haveI := later_any; refine wp_region_later (by kernel_rfl) (by kernel_rfl) ?_; (repeat (go_big_quiet_step (first | (go_at_call 46; exact HC1.out _) | (go_at_call_of 78 ([Value.agg #[Value.bool ot, Value.string ox, Value.bool orr]] : List Value); exact HC2.out _) | (go_at_call_of 78 ([Value.agg #[Value.bool nt, Value.string nx, Value.bool nr]] : List Value); exact HC3.out _)))); refine wpQuiet_nil ?_; intro _ hwq; obtain ⟨xq, hwq2⟩ := hwq; subst hwq2)
                    go_wp2_with fail
                    go_meet
                    case rel => exact ⟨false, rfl, ⟨fun _ => HYES.out, fun _ => rfl⟩, HBX.out.trans (xq.kept.mono HBX.out.size)⟩
                · obtain ⟨j, rfl⟩ : ∃ j, k = j + 1 := ⟨k - 1, by omega⟩
                  have hpv : ∀ x : Later w2, x.world.cell? ⟨b, off + j * 7, none⟩ = some (.string cs[j].path) := fun x => cell_later x.kept (HP2.out j (by omega))
                  have hk0' : (0 : Int) < ((j + 1 : Nat) : Int) := by omega
                  have hkd : decide (0 < j + 1) = true := by simp
                  have htot := less_total cs[j].path.toList xp.toList
                  have HIFF : Keep (POk cs (j + 1) ↔ Op.bytesLess cs[j].path.toList xp.toList = true) := ⟨by
                    rw [← HXP.out]
                    constructor
                    · rintro ⟨_, _, h⟩; exact h j rfl (by omega)
                    · intro h
                      refine ⟨hlt, HOK.out, fun i hi hil => ?_⟩
                      obtain rfl : i = j := by omega
                      exact h⟩
                  obtain ⟨pp, hpp⟩ : ∃ pp, cs[j].path = pp := ⟨_, rfl⟩
                  rw [hpp] at hpv htot
                  replace HIFF : Keep (POk cs (j + 1) ↔ Op.bytesLess pp.toList xp.toList = true) := ⟨by rw [← hpp]; exact HIFF.out⟩
                  clear hpp HXP HP2 HPREV HOK hok
                  cases hl : Op.bytesLess pp.toList xp.toList with
                  | true =>
                    have hll : (Op.bytesLess xp.toList pp.toList || xp.toList == pp.toList) = false := by rw [← htot, hl]; rfl
                    have HYES : Keep (POk cs (j + 1)) := ⟨HIFF.out.2 hl⟩
                    clear htot HIFF
                    by_cases h1 : ot = nt
                    · by_cases h2 : ox.toList = nx.toList
                      · have h3 : ¬ orr = nr := fun h => hne ⟨h1, h2, h⟩
                        have h2' : ox = nx := by rw [Lib.toList_data, Lib.toList_data] at h2; exact WideShapes.bytes_inj h2
                        clear hne h2
                        subst h1 h2'
                        (haveI := later_any; refine wp_region_later (by kernel_rfl) (by kernel_rfl) ?_; (repeat (go_big_quiet_step (first | (go_at_call 46; exact HC1.out _) | (go_at_call_of 78 ([Value.agg #[Value.bool ot, Value.string ox, Value.bool orr]] : List Value); exact HC2.out _) | (go_at_call_of 78 ([Value.agg #[Value.bool ot, Value.string ox, Value.bool nr]] : List Value); exact HC3.out _)))); refine wpQuiet_nil ?_; intro _ hwq; obtain ⟨xq, hwq2⟩ := hwq; subst hwq2)
                        go_wp2_with fail
                        go_meet
                        case rel => exact ⟨false, rfl, ⟨fun _ => HYES.out, fun _ => rfl⟩, HBX.out.trans (xq.kept.mono HBX.out.size)⟩
                      · clear hne
                        subst h1
                        (haveI := later_any; refine wp_region_later (by kernel_rfl) (by kernel_rfl) ?_; (repeat (go_big_quiet_step (first | (go_at_call 46; exact HC1.out _) | (go_at_call_of 78 ([Value.agg #[Value.bool ot, Value.string ox, Value.bool orr]] : List Value); exact HC2.out _) | (go_at_call_of 78 ([Value.agg #[Value.bool ot, Value.string nx, Value.bool nr]] : List Value); exact HC3.out _)))); refine wpQuiet_nil ?_; intro _ hwq; obtain ⟨xq, hwq2⟩ := hwq; subst hwq2)
                        go_wp2_with fail
                        go_meet
                        case rel => exact ⟨false, rfl, ⟨fun _ => HYES.out, fun _ => rfl⟩, HBX.out.trans (xq.kept.mono HBX.out.size)⟩
                    · clear hne
                      (haveI := later_any; refine wp_region_later (by kernel_rfl) (by kernel_rfl) ?_; (repeat (go_big_quiet_step (first | (go_at_call 46; exact HC1.out _) | (go_at_call_of 78 ([Value.agg #[Value.bool ot, Value.string ox, Value.bool orr]] : List Value); exact HC2.out _) | (go_at_call_of 78 ([Value.agg #[Value.bool nt, Value.string nx, Value.bool nr]] : List Value); exact HC3.out _)))); refine wpQuiet_nil ?_; intro _ hwq; obtain ⟨xq, hwq2⟩ := hwq; subst hwq2)
                      go_wp2_with fail
                      go_meet
                      case rel => exact ⟨false, rfl, ⟨fun _ => HYES.out, fun _ => rfl⟩, HBX.out.trans (xq.kept.mono HBX.out.size)⟩
                  | false =>
                    have hll : (Op.bytesLess xp.toList pp.toList || xp.toList == pp.toList) = true := by rw [← htot, hl]; rfl
                    have HNO : Keep (¬ POk cs (j + 1)) := ⟨fun h => by have := HIFF.out.1 h; rw [hl] at this; cases this⟩
                    clear htot HIFF
                    by_cases h1 : ot = nt
                    · by_cases h2 : ox.toList = nx.toList
                      · have h3 : ¬ orr = nr := fun h => hne ⟨h1, h2, h⟩
                        have h2' : ox = nx := by rw [Lib.toList_data, Lib.toList_data] at h2; exact WideShapes.bytes_inj h2
                        clear hne h2
                        subst h1 h2'
                        (haveI := later_any; refine wp_region_later (by kernel_rfl) (by kernel_rfl) ?_; (repeat (go_big_quiet_step (first | (go_at_call 46; exact HC1.out _) | (go_at_call_of 78 ([Value.agg #[Value.bool ot, Value.string ox, Value.bool orr]] : List Value); exact HC2.out _) | (go_at_call_of 78 ([Value.agg #[Value.bool ot, Value.string ox, Value.bool nr]] : List Value); exact HC3.out _)))); refine wpQuiet_nil ?_; intro _ hwq; obtain ⟨xq, hwq2⟩ := hwq; subst hwq2)
                        go_wp2_with fail
                        go_meet
                        case rel => exact ⟨true, rfl, ⟨fun h => (by cases h), fun h => absurd h HNO.out⟩, HBX.out.trans (xq.kept.mono HBX.out.size)⟩
                      · clear hne
                        subst h1
                        (haveI := later_any; refine wp_region_later (by kernel_rfl) (by kernel_rfl) ?_; (repeat (go_big_quiet_step (first | (go_at_call 46; exact HC1.out _) | (go_at_call_of 78 ([Value.agg #[Value.bool ot, Value.string ox, Value.bool orr]] : List Value); exact HC2.out _) | (go_at_call_of 78 ([Value.agg #[Value.bool ot, Value.string nx, Value.bool nr]] : List Value); exact HC3.out _)))); refine wpQuiet_nil ?_; intro _ hwq; obtain ⟨xq, hwq2⟩ := hwq; subst hwq2)
                        go_wp2_with fail
                        go_meet
                        case rel => exact ⟨true, rfl, ⟨fun h => (by cases h), fun h => absurd h HNO.out⟩, HBX.out.trans (xq.kept.mono HBX.out.size)⟩
                    · clear hne
                      (haveI := later_any; refine wp_region_later (by kernel_rfl) (by kernel_rfl) ?_; (repeat (go_big_quiet_step (first | (go_at_call 46; exact HC1.out _) | (go_at_call_of 78 ([Value.agg #[Value.bool ot, Value.string ox, Value.bool orr]] : List Value); exact HC2.out _) | (go_at_call_of 78 ([Value.agg #[Value.bool nt, Value.string nx, Value.bool nr]] : List Value); exact HC3.out _)))); refine wpQuiet_nil ?_; intro _ hwq; obtain ⟨xq, hwq2⟩ := hwq; subst hwq2)
                      go_wp2_with fail
                      go_meet
                      case rel => exact ⟨true, rfl, ⟨fun h => (by cases h), fun h => absurd h HNO.out⟩, HBX.out.trans (xq.kept.mono HBX.out.size)⟩
      case rest =>
        obtain ⟨bl, rfl, hbl, hb3⟩ := hcut
        have hbw3 := hal.trans (hb3.mono hal.size)
        cases bl with
        | true =>
          have hbad : ¬ ValidP cs := fun hv => by have := hbl.2 (hv.2 k hlt); cases this
          go_wp2
          go_ret
          exact VpPost.no hbad hbw3
        | false =>
          have HP : Keep (∀ j, j < k + 1 → POk cs j) := ⟨fun j hj => by
            by_cases e : j = k
            · subst e; exact hbl.1 rfl
            · exact hok.out j (by omega)⟩
          clear hbl
          go_wp2
          go_roundw
          case rel => exact ⟨k + 1, by congr 1, hlt, HP, hb3⟩
          case measure => simp only [intOf]; omega
    · obtain rfl : k = cs.length := by omega
      go_wp2
      go_ret
      exact ⟨true, rfl, ⟨fun _ => ⟨by omega, hok.out⟩, fun _ => rfl⟩, hb⟩
end Go.Proofs.Ytockgapdfcapnaa

namespace Go.Proofs.Ytockgapdfcapnaa
open Go.RowKit

def ApplyRel (ts : List En) (cs : List Ch) (us : List En) (c : Int) : Prop :=
  (¬ (ValidTs ts ∧ ValidP cs) ∧ us = [] ∧ c = 1) ∨ (ValidTs ts ∧ ValidP cs ∧
    (((∃ x ∈ cs, sameF (atL ts x.path) x.old = false) ∧ us = [] ∧ c = 2) ∨
     ((∀ x ∈ cs, sameF (atL ts x.path) x.old = true) ∧ ∃ vs, AppRel ts cs vs ∧ ((¬ ValidTs vs ∧ us = [] ∧ c = 3) ∨ (ValidTs vs ∧ us = vs ∧ c = 0)))))
theorem apply_one {ts : List En} {cs : List Ch} {us us' : List En} {c c' : Int} (h : ApplyRel ts cs us c) (h' : ApplyRel ts cs us' c') : us = us' ∧ c = c' := by
  rcases h with ⟨h1, rfl, rfl⟩ | ⟨h1, h2, h⟩
  · rcases h' with ⟨_, rfl, rfl⟩ | ⟨h3, h4, _⟩
    · exact ⟨rfl, rfl⟩
    · exact absurd ⟨h3, h4⟩ h1
  · rcases h' with ⟨h3, _⟩ | ⟨_, _, h'⟩
    · exact absurd ⟨h1, h2⟩ h3
    · rcases h with ⟨⟨x, hx, hs⟩, rfl, rfl⟩ | ⟨ha, vs, hv, h⟩
      · rcases h' with ⟨_, rfl, rfl⟩ | ⟨ha, _⟩
        · exact ⟨rfl, rfl⟩
        · rw [ha x hx] at hs; cases hs
      · rcases h' with ⟨⟨x, hx, hs⟩, _⟩ | ⟨_, vs', hv', h'⟩
        · rw [ha x hx] at hs; cases hs
        · obtain rfl := hv.one hv'
          rcases h with ⟨h5, rfl, rfl⟩ | ⟨h5, rfl, rfl⟩
          · rcases h' with ⟨_, rfl, rfl⟩ | ⟨h6, _⟩
            · exact ⟨rfl, rfl⟩
            · exact absurd h6 h5
          · rcases h' with ⟨h6, _⟩ | ⟨_, rfl, rfl⟩
            · exact absurd h5 h6
            · exact ⟨rfl, rfl⟩
theorem EL.box {B ob : Nat} {w : World} {ad : Option Addr} {us : List En} {v : Value} (h : EL B w ad us) (hne : us = [] ∨ blk ad ≠ some ob) : EL B (w.setCell ⟨ob, 0, none⟩ v) ad us := by
  rcases hne with h' | h'
  · subst h'; exact .inl rfl
  · exact h.grown (row := some ob) (grown_set0 w ob 0 v) (fun g hg _ _ e => h' (by rw [hg, e]))
theorem EL.apart {B ob : Nat} {w : World} {ad : Option Addr} {us : List En} (h : EL B w ad us) (hb : ob < B ∨ w.heap.size ≤ ob) : us = [] ∨ blk ad ≠ some ob := by
  rcases h with h | ⟨g, rfl, h1, h2, _⟩
  · exact .inl h
  · refine .inr (fun e => ?_)
    have e2 : g = ob := by simpa [blk] using e
    omega

def ApplyPost (ts : List En) (cs : List Ch) (w : World) (e : Ending) (w' : World) : Prop :=
  ∃ us c, ApplyRel ts cs us c ∧ (∃ ad cap, e = .returned (TreeV ad us.length cap c) ∧ EL w.heap.size w' ad us) ∧ Below w.heap.size w w'

theorem ap_asc {cs : List Ch} (h : ValidP cs) : AscK Ch.path cs := by
  have key : ∀ i, i < cs.length → ∀ j, j < i → ∀ (hi : i < cs.length) (hj : j < cs.length), Op.bytesLess cs[j].path.toList cs[i].path.toList = true := by
    intro i
    induction i with
    | zero => intro _ j hj; omega
    | succ i ih =>
      intro hi j hj hi' hj'
      obtain ⟨_, _, h1⟩ := h.2 (i + 1) hi
      have h2 := h1 i rfl (by omega)
      by_cases e : j = i
      · subst e; exact h2
      · exact less_trans (ih (by omega) j (by omega) (by omega) hj') h2
  exact List.pairwise_iff_getElem.2 fun i j hi hj hij => key j hj i hij hj hi

set_option maxRecDepth 100000 in
set_option maxHeartbeats 8000000 in
theorem specApply_any (a b : Option Addr) (ca cb : Nat) (ts : List En) (cs : List Ch) (w : World) (hts : ES w a ts) (hcs : CS w b cs) (hn : ts.length ≤ 1048576) (hnb : cs.length ≤ 1048576) (hca : (∃ ad, a = some ad) ∨ (a = none ∧ ca = 0)) :
    Calls Try.prog 54 #[.agg #[.slice a ts.length ca], .agg #[.slice b cs.length cb]] w fun e w' => ApplyPost ts cs w e w' := by
  have hal : Below w.heap.size w (((w.alloc (.cells #[.slice a ts.length ca] 32)).alloc (.cells #[.slice b cs.length cb] 37)).alloc (.cells #[.slice none 0 0] 32)) := (((Below.refl _ _).alloc (Nat.le_refl _) _).alloc (by simp) _).alloc (by simp; omega) _
  have m0 : (((w.alloc (.cells #[.slice a ts.length ca] 32)).alloc (.cells #[.slice b cs.length cb] 37)).alloc (.cells #[.slice none 0 0] 32)).cell? ⟨w.heap.size, 0, none⟩ = some (.slice a ts.length ca) := by simp [go_sem]
  have m1 : (((w.alloc (.cells #[.slice a ts.length ca] 32)).alloc (.cells #[.slice b cs.length cb] 37)).alloc (.cells #[.slice none 0 0] 32)).cell? ⟨w.heap.size + 1, 0, none⟩ = some (.slice b cs.length cb) := by simp [go_sem]
  have k0 : (((w.alloc (.cells #[.slice a ts.length ca] 32)).alloc (.cells #[.slice b cs.length cb] 37)).alloc (.cells #[.slice none 0 0] 32)).cell? ⟨w.heap.size + 1 + 1, 0, none⟩ = some (.slice none 0 0) := by simp [go_sem]
  have kf : (((w.alloc (.cells #[.slice a ts.length ca] 32)).alloc (.cells #[.slice b cs.length cb] 37)).alloc (.cells #[.slice none 0 0] 32)).frozen? ⟨w.heap.size + 1 + 1, 0, none⟩ = false := by simp [go_sem]
  have os0 : w.heap.size + 1 + 1 < (((w.alloc (.cells #[.slice a ts.length ca] 32)).alloc (.cells #[.slice b cs.length cb] 37)).alloc (.cells #[.slice none 0 0] 32)).heap.size := by simp [go_sem]
  go_enter Try.func54, Try.ntmps54
  go_upto_region 1 with fail
  generalize ((w.alloc (.cells #[.slice a ts.length ca] 32)).alloc (.cells #[.slice b cs.length cb] 37)).alloc (.cells #[.slice none 0 0] 32) = W at *
  obtain ⟨g, hg⟩ : ∃ g, g = w.heap.size + 1 + 1 := ⟨_, rfl⟩
  obtain ⟨tb, htb⟩ : ∃ tb, tb = w.heap.size + 1 := ⟨_, rfl⟩
  obtain ⟨ta, hta⟩ : ∃ ta, ta = w.heap.size := ⟨_, rfl⟩
  rw [← hg] at k0 kf os0 ⊢
  rw [← htb] at m1 ⊢
  rw [← hta] at m0 ⊢
  have HS : Keep (ta = w.heap.size ∧ tb = w.heap.size + 1 ∧ g = w.heap.size + 2) := ⟨by omega⟩
  clear hg htb hta
  go_cut [16] (fun v wx => ∃ nb : Bool, v = .bool nb ∧ Keep (nb = false ↔ ValidTs ts ∧ ValidP cs) ∧ Below W.heap.size W wx)
  case first =>
    go_wp2_with fail
    refine (specTree_any a ca ts W (hts.below hal) hn).mono ?_
    rintro e w1 ⟨va, rfl, hva, hb1⟩
    have m1' := cell_later hb1 m1
    cases va with
    | false =>
      have HV : Keep ((true = false) ↔ ValidTs ts ∧ ValidP cs) := ⟨⟨fun h => (by cases h), fun h => (by have := hva.2 h.1; cases this)⟩⟩
      clear hva
      go_wp2_with fail
      go_meet
      case rel => exact ⟨true, rfl, HV, hb1⟩
    | true =>
      have HV : Keep (ValidTs ts) := ⟨hva.1 rfl⟩
      clear hva
      go_wp2_with fail
      refine (specPatch_any b cb cs w1 ((hcs.below hal).below hb1) hnb).mono ?_
      rintro e w2 ⟨vb, rfl, hvb, hb2⟩
      have HV2 : Keep ((!vb) = false ↔ ValidTs ts ∧ ValidP cs) := ⟨⟨fun h => ⟨HV.out, hvb.1 (by simpa using h)⟩, fun h => by rw [hvb.2 h.2]; rfl⟩⟩
      clear hvb
      go_wp2_with fail
      go_meet
      case rel => exact ⟨_, rfl, HV2, hb1.trans (hb2.mono hb1.size)⟩
  case rest =>
    obtain ⟨nb, rfl, HV, hb1⟩ := hcut
    replace m0 := cell_later hb1 m0
    replace m1 := cell_later hb1 m1
    replace k0 := cell_later hb1 k0
    replace kf : wc.frozen? ⟨g, 0, none⟩ = false := (hb1.frozen (p := ⟨g, 0, none⟩) os0).trans kf
    have os1 : g < wc.heap.size := Nat.lt_of_lt_of_le os0 hb1.size
    have hbw := hal.trans (hb1.mono hal.size)
    clear hb1 hal os0
    cases nb with
    | true =>
      have hnv : ¬ (ValidTs ts ∧ ValidP cs) := fun h => by have := HV.out.2 h; cases this
      go_wp2
      refine bodyPost_ret (v := TreeV none ([] : List En).length 0 1) ?_ rfl ⟨[], 1, .inl ⟨hnv, rfl, rfl⟩, ⟨none, 0, rfl, EL.nil _ _ _⟩, hbw.setCell (p := ⟨g, 0, none⟩) (by have := HS.out; show _ ≤ g; omega) _⟩
      go_light
      simp [results, Try.results54, go_sem, TreeV, k0]
    | false =>
      have hv := HV.out.1 rfl
      have HS1 : Keep (g < wc.heap.size) := ⟨os1⟩
      clear os1
      go_wp2
      go_loopw [6] (fun i wr => ∃ k : Nat, i = .int .i64 k ∧ k ≤ cs.length ∧ Below wc.heap.size wc wr ∧ Keep (∀ x ∈ cs.take k, sameF (atL ts x.path) x.old = true)) (fun i _ => cs.length - (intOf i).toNat)
      case atStart => exact ⟨0, rfl, Nat.zero_le _, Below.refl _ _, ⟨fun x hx => by simp at hx⟩⟩
      case round =>
        obtain ⟨k, rfl, hk, hbk, HSM⟩ := hrel
        have t0 := cell_later hbk m0
        have t1 := cell_later hbk m1
        have hbx := hbw.trans (hbk.mono hbw.size)
        by_cases hlt : k < cs.length
        · have hlt' : (k : Int) < cs.length := by omega
          obtain ⟨b1, o1, rfl, hc1⟩ := (hcs.below hbx).at hlt
          obtain ⟨x0, x1, x2, x3, x4, x5, x6⟩ := hc1 k hlt
          have ct0 : ∀ z : Later wr, z.world.cell? ⟨ta, 0, none⟩ = some (.slice a ts.length ca) := fun z => cell_later z.kept t0
          have ct1 : ∀ z : Later wr, z.world.cell? ⟨tb, 0, none⟩ = some (.slice (some ⟨b1, o1, none⟩) cs.length cb) := fun z => cell_later z.kept t1
          have cx0 : ∀ z : Later wr, z.world.cell? ⟨b1, o1 + k * 7, none⟩ = some (.string cs[k].path) := fun z => cell_later z.kept x0
          have cx1 : ∀ z : Later wr, z.world.cell? ⟨b1, o1 + k * 7 + 1, none⟩ = some (.bool cs[k].old.there) := fun z => cell_later z.kept x1
          have cx2 : ∀ z : Later wr, z.world.cell? ⟨b1, o1 + k * 7 + 2, none⟩ = some (.string cs[k].old.text) := fun z => cell_later z.kept x2
          have cx3 : ∀ z : Later wr, z.world.cell? ⟨b1, o1 + k * 7 + 3, none⟩ = some (.bool cs[k].old.runs) := fun z => cell_later z.kept x3
          have kr := cell_later hbk k0
          have kfr : wr.frozen? ⟨g, 0, none⟩ = false := (hbk.frozen (p := ⟨g, 0, none⟩) HS1.out).trans kf
          have HG : Keep (g < wr.heap.size) := ⟨Nat.lt_of_lt_of_le HS1.out hbk.size⟩
          obtain ⟨f1, hf1⟩ : ∃ f1, f1 = atL ts cs[k].path := ⟨_, rfl⟩
          have HA1 : Keep (∀ z : Later wr, Calls Try.prog 45 #[.agg #[.slice a ts.length ca], .string cs[k].path] z.world fun e w'' => e = .returned (.agg #[.bool f1.there, .string f1.text, .bool f1.runs]) ∧ ∃ q : Later wr, w'' = q.world) := ⟨fun z => by rw [hf1]; exact Later.call z (l6At_any a ca ts cs[k].path z.world ((hts.below hbx).below z.kept) hn)⟩
          have HT : Keep (cs.take (k + 1) = cs.take k ++ [cs[k]]) := ⟨List.take_succ_eq_append_getElem hlt⟩
          clear hc1 x0 x1 x2 x3 x4 x5 x6
          cases hsm : sameF f1 cs[k].old with
          | true =>
            have HN2 : Keep (∀ x ∈ cs.take (k + 1), sameF (atL ts x.path) x.old = true) := ⟨fun x hx => by
              rw [HT.out] at hx
              rcases List.mem_append.1 hx with h' | h'
              · exact HSM.out x h'
              · rw [List.mem_singleton.1 h', ← hf1]; exact hsm⟩
            obtain ⟨⟨h1, h2⟩, h3⟩ : (f1.there = cs[k].old.there ∧ f1.text.toList = cs[k].old.text.toList) ∧ f1.runs = cs[k].old.runs := by simpa [sameF] using hsm
            have h4 : f1.text = cs[k].old.text := WideShapes.bytes_inj (by rw [← Lib.toList_data, ← Lib.toList_data]; exact h2)
            rw [← h1] at cx1
            rw [← h4] at cx2
            rw [← h3] at cx3
            clear hsm h1 h2 h3 h4 hf1
            go_upto_region 6 with fail
            (haveI := later_any; refine wp_region_later (by kernel_rfl) (by kernel_rfl) ?_; (repeat (go_big_quiet_step (first | (go_at_call 45; exact HA1.out _)))); refine wpQuiet_nil ?_; intro _ hwq; obtain ⟨xq, hwq2⟩ := hwq; subst hwq2)
            have hbq := hbk.trans (xq.kept.mono hbk.size)
            clear ct0 ct1 cx0 cx1 cx2 cx3 HA1 t0 t1 hbk hbx kr kfr
            go_wp2
            go_roundw
            case rel => exact ⟨k + 1, by congr 1, hlt, hbq, HN2⟩
            case measure => simp only [intOf]; omega
          | false =>
            have HBad : Keep (∀ X, Below wr.heap.size wr X → ApplyPost ts cs w (.returned (TreeV none ([] : List En).length 0 2)) (X.setCell ⟨g, 0, none⟩ (.slice none 0 0))) := ⟨fun X hX => ⟨[], 2, .inr ⟨hv.1, hv.2, .inl ⟨⟨cs[k], List.getElem_mem hlt, by rw [← hf1]; exact hsm⟩, rfl, rfl⟩⟩, ⟨none, 0, rfl, EL.nil _ _ _⟩, (hbx.trans (hX.mono hbx.size)).setCell (p := ⟨g, 0, none⟩) (by have := HS.out; show _ ≤ g; omega) _⟩⟩
            clear hf1
            by_cases h1 : f1.there = cs[k].old.there
            · by_cases h2 : f1.text.toList = cs[k].old.text.toList
              · by_cases h3 : f1.runs = cs[k].old.runs
                · exfalso
                  rw [Bool.eq_false_iff] at hsm
                  exact hsm (by simp [sameF, h1, h2, h3])
                · clear hsm
                  go_upto_region 6 with fail
                  (haveI := later_any; refine wp_region_later (by kernel_rfl) (by kernel_rfl) ?_; (repeat (go_big_quiet_step (first | (go_at_call 45; exact HA1.out _)))); refine wpQuiet_nil ?_; intro _ hwq; obtain ⟨xq, hwq2⟩ := hwq; subst hwq2)
                  have kq := cell_later xq.kept kr
                  have kfq : xq.world.frozen? ⟨g, 0, none⟩ = false := (xq.kept.frozen (p := ⟨g, 0, none⟩) HG.out).trans kfr
                  have HB : Keep (ApplyPost ts cs w (.returned (TreeV none ([] : List En).length 0 2)) (xq.world.setCell ⟨g, 0, none⟩ (.slice none 0 0))) := ⟨HBad.out xq.world xq.kept⟩
                  go_wp2
                  refine bodyPost_ret (v := TreeV none ([] : List En).length 0 2) ?_ rfl HB.out
                  go_light
                  simp [results, Try.results54, go_sem, TreeV, kq]
              · clear hsm
                go_upto_region 6 with fail
                (haveI := later_any; refine wp_region_later (by kernel_rfl) (by kernel_rfl) ?_; (repeat (go_big_quiet_step (first | (go_at_call 45; exact HA1.out _)))); refine wpQuiet_nil ?_; intro _ hwq; obtain ⟨xq, hwq2⟩ := hwq; subst hwq2)
                have kq := cell_later xq.kept kr
                have kfq : xq.world.frozen? ⟨g, 0, none⟩ = false := (xq.kept.frozen (p := ⟨g, 0, none⟩) HG.out).trans kfr
                have HB : Keep (ApplyPost ts cs w (.returned (TreeV none ([] : List En).length 0 2)) (xq.world.setCell ⟨g, 0, none⟩ (.slice none 0 0))) := ⟨HBad.out xq.world xq.kept⟩
                go_wp2
                refine bodyPost_ret (v := TreeV none ([] : List En).length 0 2) ?_ rfl HB.out
                go_light
                simp [results, Try.results54, go_sem, TreeV, kq]
            · clear hsm
              go_upto_region 6 with fail
              (haveI := later_any; refine wp_region_later (by kernel_rfl) (by kernel_rfl) ?_; (repeat (go_big_quiet_step (first | (go_at_call 45; exact HA1.out _)))); refine wpQuiet_nil ?_; intro _ hwq; obtain ⟨xq, hwq2⟩ := hwq; subst hwq2)
              have kq := cell_later xq.kept kr
              have kfq : xq.world.frozen? ⟨g, 0, none⟩ = false := (xq.kept.frozen (p := ⟨g, 0, none⟩) HG.out).trans kfr
              have HB : Keep (ApplyPost ts cs w (.returned (TreeV none ([] : List En).length 0 2)) (xq.world.setCell ⟨g, 0, none⟩ (.slice none 0 0))) := ⟨HBad.out xq.world xq.kept⟩
              go_wp2
              refine bodyPost_ret (v := TreeV none ([] : List En).length 0 2) ?_ rfl HB.out
              go_light
              simp [results, Try.results54, go_sem, TreeV, kq]
        · obtain rfl : k = cs.length := by omega
          rw [List.take_length] at HSM
          have kr := cell_later hbk k0
          have kfr : wr.frozen? ⟨g, 0, none⟩ = false := (hbk.frozen (p := ⟨g, 0, none⟩) HS1.out).trans kf
          have HG : Keep (g < wr.heap.size) := ⟨Nat.lt_of_lt_of_le HS1.out hbk.size⟩
          have hcp := l5Copy_any a ca ts wr (hts.below hbx) hn hca
          go_wp2_with fail
          refine hcp.mono ?_
          rintro e w2 ⟨⟨ad2, cap2, rfl, hel2⟩, hb2⟩
          have hb3 : Below w2.heap.size w2 (w2.alloc (.cells #[.slice ad2 ts.length cap2] 32)) := (Below.refl _ _).alloc (Nat.le_refl _) _
          have o0 : (w2.alloc (.cells #[.slice ad2 ts.length cap2] 32)).cell? ⟨w2.heap.size, 0, none⟩ = some (.slice ad2 ts.length cap2) := by simp
          have of0 : (w2.alloc (.cells #[.slice ad2 ts.length cap2] 32)).frozen? ⟨w2.heap.size, 0, none⟩ = false := by simp
          have os0 : w2.heap.size < (w2.alloc (.cells #[.slice ad2 ts.length cap2] 32)).heap.size := by simp
          have hap := hel2.apart (ob := w2.heap.size) (.inr (Nat.le_refl _))
          obtain ⟨B0, hB0⟩ : ∃ B0, B0 = wr.heap.size := ⟨_, rfl⟩
          have hel3 : EL B0 (w2.alloc (.cells #[.slice ad2 ts.length cap2] 32)) ad2 ts := by rw [hB0]; exact hel2.below hb3
          have HB0 : Keep (g < B0 ∧ w.heap.size ≤ B0 ∧ B0 ≤ w2.heap.size) := ⟨by have := HG.out; have := hbx.size; have := hb2.size; omega⟩
          clear hB0
          have hbx2 := hbx.trans (hb2.mono hbx.size)
          have m1q := cell_later hb2 t1
          have k0q := cell_later hb2 kr
          have kfq : w2.frozen? ⟨g, 0, none⟩ = false := (hb2.frozen (p := ⟨g, 0, none⟩) HG.out).trans kfr
          have HG2 : Keep (g < w2.heap.size ∧ w.heap.size ≤ g) := ⟨⟨Nat.lt_of_lt_of_le HG.out hb2.size, by have := HS.out; omega⟩⟩
          have hA0 : AppRel ts (cs.take 0) ts := AppRel.start (valid_asc hv.1)
          have ht100 := hv.1.1
          have hc200 := hv.2.1
          have hCK := ap_asc hv.2
          clear hel2 hb2 hcp kr kfr HG t0 t1 hbk hbx
          go_wp2
          generalize w2.alloc (.cells #[.slice ad2 ts.length cap2] 32) = W2 at *
          obtain ⟨ob, hob⟩ : ∃ ob, ob = w2.heap.size := ⟨_, rfl⟩
          rw [← hob] at o0 of0 os0 hap ⊢
          have HOB : Keep (ob = w2.heap.size ∧ ob < W2.heap.size) := ⟨⟨hob, os0⟩⟩
          clear hob os0
          go_loopw [8] (fun i wq => ∃ (k : Nat) (ad : Option Addr) (cp : Nat) (us : List En), i = .int .i64 k ∧ k ≤ cs.length ∧ wq.cell? ⟨ob, 0, none⟩ = some (.slice ad us.length cp) ∧ wq.frozen? ⟨ob, 0, none⟩ = false ∧ EL B0 wq ad us ∧ (us = [] ∨ blk ad ≠ some ob) ∧ Below w2.heap.size w2 wq ∧ AppRel ts (cs.take k) us ∧ us.length ≤ ts.length + k ∧ ob < wq.heap.size) (fun i _ => cs.length - (intOf i).toNat)
          case atStart => exact ⟨0, ad2, cap2, ts, rfl, Nat.zero_le _, o0, of0, hel3, hap, hb3, hA0, Nat.le_refl _, HOB.out.2⟩
          case round =>
            clear o0 of0 hap hel3 hb3 hA0
            obtain ⟨k, ad, cp, us, rfl, hk, o0, of0, hel, hap, hbq, hAR, hul, hobq⟩ := hrel
            have t1 := cell_later hbq m1q
            have hbx3 := hbx2.trans (hbq.mono hbx2.size)
            by_cases hlt : k < cs.length
            · have hlt' : (k : Int) < cs.length := by omega
              obtain ⟨b1, o1, rfl, hc1⟩ := (hcs.below hbx3).at hlt
              obtain ⟨x0, _, _, _, x4, x5, x6⟩ := hc1 k hlt
              have hly := l6Lay_any ad cp us cs[k].path cs[k].new wr.drew (hel.es.below ((Below.refl _ _).drew)) (by omega) hAR.asc
              have HE : Keep (∀ (ad3 : Option Addr) (cp3 : Nat) (vs : List En) (X : World), LayRel us cs[k].path cs[k].new vs → EL wr.heap.size X ad3 vs → Below wr.heap.size wr X → vs.length ≤ us.length + 1 → (X.setCell ⟨ob, 0, none⟩ (.slice ad3 vs.length cp3)).cell? ⟨ob, 0, none⟩ = some (.slice ad3 vs.length cp3) ∧ (X.setCell ⟨ob, 0, none⟩ (.slice ad3 vs.length cp3)).frozen? ⟨ob, 0, none⟩ = false ∧ EL B0 (X.setCell ⟨ob, 0, none⟩ (.slice ad3 vs.length cp3)) ad3 vs ∧ (vs = [] ∨ blk ad3 ≠ some ob) ∧ Below w2.heap.size w2 (X.setCell ⟨ob, 0, none⟩ (.slice ad3 vs.length cp3)) ∧ AppRel ts (cs.take (k + 1)) vs ∧ vs.length ≤ ts.length + (k + 1) ∧ ob < (X.setCell ⟨ob, 0, none⟩ (.slice ad3 vs.length cp3)).heap.size) := ⟨fun ad3 cp3 vs X h1 h2 h3 h4 => by
                have hap3 := h2.apart (ob := ob) (.inl hobq)
                refine ⟨World.cell?_setCell_same _ _ _ (cell_later h3 o0), (World.frozen?_setCell _ _ _ _).trans ((h3.frozen (p := ⟨ob, 0, none⟩) hobq).trans of0), (h2.box hap3).mono (Nat.le_trans HB0.out.2.2 hbq.size), hap3, (hbq.trans (h3.mono hbq.size)).setCell (p := ⟨ob, 0, none⟩) (by have := HOB.out; show _ ≤ ob; omega) _, hAR.step hlt hCK h1, by omega, by have := h3.size; simp; omega⟩⟩
              go_upto_region 12 with fail
              refine (wpIn_wide (n := 0)).1 ?_
              refine wpIn_region_inv0 (by kernel_rfl) (by kernel_rfl) (fun T0 => YV T0 wr (.agg #[.slice ad us.length cp]) (.slice (some ⟨b1, o1, none⟩) cs.length cb) (.int .i64 k) tb b1 (o1 + k * 7) us cs[k].path cs[k].new (fun X => ∃ (ad3 : Option Addr) (cp3 : Nat) (vs : List En), X.cell? ⟨ob, 0, none⟩ = some (.slice ad3 vs.length cp3) ∧ X.frozen? ⟨ob, 0, none⟩ = false ∧ EL B0 X ad3 vs ∧ (vs = [] ∨ blk ad3 ≠ some ob) ∧ Below w2.heap.size w2 X ∧ AppRel ts (cs.take (k + 1)) vs ∧ vs.length ≤ ts.length + (k + 1) ∧ ob < X.heap.size)) ?_ ?_ ?_
              · exact ⟨Sl2.start _, fun _ => rfl, (fun h => by rw [getD_repl] at h; cases h), (fun h => by rw [getD_repl] at h; cases h)⟩
              · intro L a2 w9 hinv hall
                obtain ⟨ad3, cp3, vs, y1, y2, y3, y4, y5, y6, y7, y8⟩ := hinv.w3 (hall 14 (by decide))
                have HX : Keep _ := ⟨hinv.sl.act⟩
                clear hinv hall HE hly x0 x4 x5 x6 t1 o0 of0
                rw [HX.out]
                simp only [updL, yDs, List.contains_cons, List.contains_nil, Nat.reduceAdd, Nat.reduceBEq, Bool.or_false, cond_false, cond_true, Bool.or_true]
                go_wp2
                go_roundw
                case rel => exact ⟨k + 1, ad3, cp3, vs, by congr 1, hlt, y1, y2, y3, y4, y5, y6, y7, y8⟩
                case measure => simp only [intOf]; omega
              · intro L a2 w9 i o hinv hcl hL ho hdep
                have hi15 : i < 15 := (Array.getElem?_eq_some_iff.1 ho).1
                unfold wpOpIn
                rw [ho]
                have q13 : i < 13 → L.getD 13 false = false := fun hi => by
                  cases hb : L.getD 13 false with
                  | false => rfl
                  | true =>
                    exfalso
                    have d0 := hcl 13 _ rfl hb ⟨0, .data⟩ (by simp) rfl
                    have d6 := hcl 13 _ rfl hb ⟨6, .data⟩ (by simp) rfl
                    have d12 := hcl 13 _ rfl hb ⟨12, .data⟩ (by simp) rfl
                    have d5 := hcl 6 _ rfl d6 ⟨5, .data⟩ (by simp) rfl
                    have d4 := hcl 5 _ rfl d5 ⟨4, .data⟩ (by simp) rfl
                    have d3 := hcl 4 _ rfl d4 ⟨3, .data⟩ (by simp) rfl
                    have d2 := hcl 4 _ rfl d4 ⟨2, .data⟩ (by simp) rfl
                    have d1 := hcl 2 _ rfl d2 ⟨1, .data⟩ (by simp) rfl
                    have d11 := hcl 12 _ rfl d12 ⟨11, .data⟩ (by simp) rfl
                    have d10 := hcl 11 _ rfl d11 ⟨10, .data⟩ (by simp) rfl
                    have d9 := hcl 10 _ rfl d10 ⟨9, .data⟩ (by simp) rfl
                    have d8 := hcl 10 _ rfl d10 ⟨8, .data⟩ (by simp) rfl
                    have d7 := hcl 8 _ rfl d8 ⟨7, .data⟩ (by simp) rfl
                    have hf := getD_ft hL
                    match i, hi, hf with
                    | 0, _, hf => rw [d0] at hf; cases hf
                    | 1, _, hf => rw [d1] at hf; cases hf
                    | 2, _, hf => rw [d2] at hf; cases hf
                    | 3, _, hf => rw [d3] at hf; cases hf
                    | 4, _, hf => rw [d4] at hf; cases hf
                    | 5, _, hf => rw [d5] at hf; cases hf
                    | 6, _, hf => rw [d6] at hf; cases hf
                    | 7, _, hf => rw [d7] at hf; cases hf
                    | 8, _, hf => rw [d8] at hf; cases hf
                    | 9, _, hf => rw [d9] at hf; cases hf
                    | 10, _, hf => rw [d10] at hf; cases hf
                    | 11, _, hf => rw [d11] at hf; cases hf
                    | 12, _, hf => rw [d12] at hf; cases hf
                have q14 : L.getD 13 true = false → L.getD 14 false = false := fun h9 => by
                  cases hb : L.getD 14 false with
                  | false => rfl
                  | true => exfalso; have h := hcl 14 _ rfl hb ⟨13, .data⟩ (by simp) rfl; rw [getD_ft h9] at h; cases h
                clear hcl
                match i, hi15, hL, ho, hdep, q13 with
                | 0, _, hL, ho, hdep, q13 =>
                  injection ho with ho; subst ho
                  dsimp only
                  rw [if_pos (by rfl)]
                  refine ⟨fun f _ => trivial, ?_⟩
                  obtain rfl := hinv.w0 (q13 (by omega))
                  have e7 : a2.tmps[7]?.getD undef = .pointer (some ⟨ob, 0, none⟩) := hinv.sl.old (by decide)
                  go_simp
                  exact hinv.step (i := 0) rfl (by omega) rfl
                | 1, _, hL, ho, hdep, q13 =>
                  injection ho with ho; subst ho
                  dsimp only
                  rw [if_pos (by rfl)]
                  refine ⟨fun f _ => trivial, ?_⟩
                  obtain rfl := hinv.w0 (q13 (by omega))
                  have e3 : a2.tmps[3]?.getD undef = .pointer (some ⟨tb, 0, none⟩) := hinv.sl.old (by decide)
                  go_simp
                  exact hinv.step (i := 1) rfl (by omega) rfl
                | 2, _, hL, ho, hdep, q13 =>
                  injection ho with ho; subst ho
                  dsimp only
                  rw [if_pos (by rfl)]
                  refine ⟨fun f _ => trivial, ?_⟩
                  obtain rfl := hinv.w0 (q13 (by omega))
                  have e51 : a2.tmps[51]?.getD undef = .pointer (some ⟨tb, 0, none⟩) := hinv.sl.new (i := 1) (by decide) rfl (hdep ⟨1, .data⟩ (by simp) rfl)
                  go_simp
                  exact hinv.step (i := 2) rfl (by omega) rfl
                | 3, _, hL, ho, hdep, q13 =>
                  injection ho with ho; subst ho
                  dsimp only
                  rw [if_pos (by rfl)]
                  refine ⟨fun f _ => trivial, ?_⟩
                  obtain rfl := hinv.w0 (q13 (by omega))
                  have e8 : a2.tmps[8]?.getD undef = .int .i64 k := hinv.sl.old (by decide)
                  go_simp
                  exact hinv.step (i := 3) rfl (by omega) rfl
                | 4, _, hL, ho, hdep, q13 =>
                  injection ho with ho; subst ho
                  dsimp only
                  rw [if_pos (by rfl)]
                  refine ⟨fun f _ => trivial, ?_⟩
                  obtain rfl := hinv.w0 (q13 (by omega))
                  have e52 : a2.tmps[52]?.getD undef = .slice (some ⟨b1, o1, none⟩) cs.length cb := hinv.sl.new (i := 2) (by decide) rfl (hdep ⟨2, .data⟩ (by simp) rfl)
                  have e53 : a2.tmps[53]?.getD undef = .int .i64 k := hinv.sl.new (i := 3) (by decide) rfl (hdep ⟨3, .data⟩ (by simp) rfl)
                  go_simp
                  exact hinv.step (i := 4) rfl (by omega) rfl
                | 5, _, hL, ho, hdep, q13 =>
                  injection ho with ho; subst ho
                  dsimp only
                  rw [if_pos (by rfl)]
                  refine ⟨fun f _ => trivial, ?_⟩
                  obtain rfl := hinv.w0 (q13 (by omega))
                  have e54 : a2.tmps[54]?.getD undef = .pointer (some ⟨b1, o1 + k * 7, none⟩) := hinv.sl.new (i := 4) (by decide) rfl (hdep ⟨4, .data⟩ (by simp) rfl)
                  go_simp
                  exact hinv.step (i := 5) rfl (by omega) rfl
                | 6, _, hL, ho, hdep, q13 =>
                  injection ho with ho; subst ho
                  dsimp only
                  rw [if_pos (by rfl)]
                  refine ⟨fun f _ => trivial, ?_⟩
                  obtain rfl := hinv.w0 (q13 (by omega))
                  have e55 : a2.tmps[55]?.getD undef = .pointer (some ⟨b1, o1 + k * 7, none⟩) := hinv.sl.new (i := 5) (by decide) rfl (hdep ⟨5, .data⟩ (by simp) rfl)
                  go_simp
                  exact hinv.step (i := 6) rfl (by omega) rfl
                | 7, _, hL, ho, hdep, q13 =>
                  injection ho with ho; subst ho
                  dsimp only
                  rw [if_pos (by rfl)]
                  refine ⟨fun f _ => trivial, ?_⟩
                  obtain rfl := hinv.w0 (q13 (by omega))
                  have e3 : a2.tmps[3]?.getD undef = .pointer (some ⟨tb, 0, none⟩) := hinv.sl.old (by decide)
                  go_simp
                  exact hinv.step (i := 7) rfl (by omega) rfl
                | 8, _, hL, ho, hdep, q13 =>
                  injection ho with ho; subst ho
                  dsimp only
                  rw [if_pos (by rfl)]
                  refine ⟨fun f _ => trivial, ?_⟩
                  obtain rfl := hinv.w0 (q13 (by omega))
                  have e57 : a2.tmps[57]?.getD undef = .pointer (some ⟨tb, 0, none⟩) := hinv.sl.new (i := 7) (by decide) rfl (hdep ⟨7, .data⟩ (by simp) rfl)
                  go_simp
                  exact hinv.step (i := 8) rfl (by omega) rfl
                | 9, _, hL, ho, hdep, q13 =>
                  injection ho with ho; subst ho
                  dsimp only
                  rw [if_pos (by rfl)]
                  refine ⟨fun f _ => trivial, ?_⟩
                  obtain rfl := hinv.w0 (q13 (by omega))
                  have e8 : a2.tmps[8]?.getD undef = .int .i64 k := hinv.sl.old (by decide)
                  go_simp
                  exact hinv.step (i := 9) rfl (by omega) rfl
                | 10, _, hL, ho, hdep, q13 =>
                  injection ho with ho; subst ho
                  dsimp only
                  rw [if_pos (by rfl)]
                  refine ⟨fun f _ => trivial, ?_⟩
                  obtain rfl := hinv.w0 (q13 (by omega))
                  have e58 : a2.tmps[58]?.getD undef = .slice (some ⟨b1, o1, none⟩) cs.length cb := hinv.sl.new (i := 8) (by decide) rfl (hdep ⟨8, .data⟩ (by simp) rfl)
                  have e59 : a2.tmps[59]?.getD undef = .int .i64 k := hinv.sl.new (i := 9) (by decide) rfl (hdep ⟨9, .data⟩ (by simp) rfl)
                  go_simp
                  exact hinv.step (i := 10) rfl (by omega) rfl
                | 11, _, hL, ho, hdep, q13 =>
                  injection ho with ho; subst ho
                  dsimp only
                  rw [if_pos (by rfl)]
                  refine ⟨fun f _ => trivial, ?_⟩
                  obtain rfl := hinv.w0 (q13 (by omega))
                  have e60 : a2.tmps[60]?.getD undef = .pointer (some ⟨b1, o1 + k * 7, none⟩) := hinv.sl.new (i := 10) (by decide) rfl (hdep ⟨10, .data⟩ (by simp) rfl)
                  go_simp
                  exact hinv.step (i := 11) rfl (by omega) rfl
                | 12, _, hL, ho, hdep, q13 =>
                  injection ho with ho; subst ho
                  dsimp only
                  rw [if_pos (by rfl)]
                  refine ⟨fun f _ => trivial, ?_⟩
                  obtain rfl := hinv.w0 (q13 (by omega))
                  have e61 : a2.tmps[61]?.getD undef = .pointer (some ⟨b1, o1 + k * 7 + 4, none⟩) := hinv.sl.new (i := 11) (by decide) rfl (hdep ⟨11, .data⟩ (by simp) rfl)
                  go_simp
                  exact hinv.step (i := 12) rfl (by omega) rfl
                | 13, _, hL, ho, hdep, q13 =>
                  injection ho with ho; subst ho
                  dsimp only
                  rw [if_pos (by rfl)]
                  refine ⟨fun f _ => trivial, ?_⟩
                  obtain rfl := hinv.w0 (getD_ft hL)
                  have e50 : a2.tmps[50]?.getD undef = .agg #[.slice ad us.length cp] := hinv.sl.new (i := 0) (by decide) rfl (hdep ⟨0, .data⟩ (by simp) rfl)
                  have e56 : a2.tmps[56]?.getD undef = .string cs[k].path := hinv.sl.new (i := 6) (by decide) rfl (hdep ⟨6, .data⟩ (by simp) rfl)
                  have e62 : a2.tmps[62]?.getD undef = .agg #[.bool cs[k].new.there, .string cs[k].new.text, .bool cs[k].new.runs] := hinv.sl.new (i := 12) (by decide) rfl (hdep ⟨12, .data⟩ (by simp) rfl)
                  go_simp
                  refine ⟨rfl, CallsIn.mono (callsIn_wide.2 hly) ?_⟩
                  rintro e w' ⟨ad3, cp3, vs, rfl, h1, h2, h3, h4⟩
                  exact hinv.call rfl hL (q14 hL) h1 h2 ((Below.refl wr.heap.size wr).drew.trans (h3.mono (Nat.le_refl _))) h4
                | 14, _, hL, ho, hdep, q13 =>
                  injection ho with ho; subst ho
                  dsimp only
                  rw [if_pos (by rfl)]
                  refine ⟨fun f _ => trivial, ?_⟩
                  obtain ⟨ad3, cp3, vs, ex, h1, h2, h3, h4⟩ := hinv.w1 (hdep ⟨13, .data⟩ (by simp) rfl) (getD_ft hL)
                  have e63 := evalD2 ex
                  have e7 : a2.tmps[7]?.getD undef = .pointer (some ⟨ob, 0, none⟩) := hinv.sl.old (by decide)
                  have oc := cell_later h3 o0
                  have ofc : w9.frozen? ⟨ob, 0, none⟩ = false := (h3.frozen (p := ⟨ob, 0, none⟩) hobq).trans of0
                  go_simp
                  exact hinv.last (hdep ⟨13, .data⟩ (by simp) rfl) hL ⟨ad3, cp3, vs, HE.out ad3 cp3 vs w9 h1 h2 h3 h4⟩
            · obtain rfl : k = cs.length := by omega
              rw [List.take_length] at hAR
              have r2 := cell_later hbq k0q
              have rf2 : wr.frozen? ⟨g, 0, none⟩ = false := (hbq.frozen (p := ⟨g, 0, none⟩) HG2.out.1).trans kfq
              have hgl : g < wr.heap.size := Nat.lt_of_lt_of_le HG2.out.1 hbq.size
              have hst := specTree_any ad cp us wr hel.es (by omega)
              go_wp2_with fail
              refine hst.mono ?_
              rintro e w5 ⟨vb, rfl, hvb, hb5⟩
              have HVB : Keep (vb = true ↔ ValidTs us) := ⟨hvb⟩
              replace r2 := cell_later hb5 r2
              replace o0 := cell_later hb5 o0
              replace rf2 : w5.frozen? ⟨g, 0, none⟩ = false := (hb5.frozen (p := ⟨g, 0, none⟩) hgl).trans rf2
              have hbx5 := hbx3.trans (hb5.mono hbx3.size)
              have hap5 := hel.apart (ob := g) (.inl HB0.out.1)
              have hel5 := hel.below hb5
              cases vb with
              | false =>
                have hnv : ¬ ValidTs us := fun h => by have := HVB.out.2 h; cases this
                have HB : Keep (ApplyPost ts cs w (.returned (TreeV none ([] : List En).length 0 3)) (w5.setCell ⟨g, 0, none⟩ (.slice none 0 0))) := ⟨⟨[], 3, .inr ⟨hv.1, hv.2, .inr ⟨HSM.out, us, hAR, .inl ⟨hnv, rfl, rfl⟩⟩⟩, ⟨none, 0, rfl, EL.nil _ _ _⟩, hbx5.setCell (p := ⟨g, 0, none⟩) HG2.out.2 _⟩⟩
                clear hst hvb hel hel5 hAR hap hap5
                go_wp2
                refine bodyPost_ret (v := TreeV none ([] : List En).length 0 3) ?_ rfl HB.out
                go_light
                simp [results, Try.results54, go_sem, TreeV, r2]
              | true =>
                have hvv := HVB.out.1 rfl
                have HB : Keep (ApplyPost ts cs w (.returned (TreeV ad us.length cp 0)) (w5.setCell ⟨g, 0, none⟩ (.slice ad us.length cp))) := ⟨⟨us, 0, .inr ⟨hv.1, hv.2, .inr ⟨HSM.out, us, hAR, .inr ⟨hvv, rfl, rfl⟩⟩⟩, ⟨ad, cp, rfl, (hel5.box hap5).mono HB0.out.2.1⟩, hbx5.setCell (p := ⟨g, 0, none⟩) HG2.out.2 _⟩⟩
                clear hst hvb hel hel5 hAR hap hap5
                go_wp2
                refine bodyPost_ret (v := TreeV ad us.length cp 0) ?_ rfl HB.out
                go_light
                simp [results, Try.results54, go_sem, TreeV, r2]
end Go.Proofs.Ytockgapdfcapnaa

namespace Go.Proofs.Ytockgapdfcapnaa
open Go.RowKit

def UndoRel (cs us : List Ch) : Prop := (ValidP cs ∧ us = cs.map flipC) ∨ (¬ ValidP cs ∧ us = [])
theorem undo_one {cs us us' : List Ch} (h : UndoRel cs us) (h' : UndoRel cs us') : us' = us := by
  rcases h with ⟨h, rfl⟩ | ⟨h, rfl⟩ <;> rcases h' with ⟨h', rfl⟩ | ⟨h', rfl⟩ <;> first | rfl | exact absurd h h' | exact absurd h' h
theorem undo_few {cs us : List Ch} (h : UndoRel cs us) : us.length ≤ cs.length := by
  rcases h with ⟨_, rfl⟩ | ⟨_, rfl⟩ <;> simp
def UndoPost (cs : List Ch) (w : World) (e : Ending) (w' : World) : Prop :=
  ∃ us, UndoRel cs us ∧ (∃ ad cap, e = .returned (.agg #[.slice ad us.length cap]) ∧ CL w.heap.size w' ad us) ∧ Below w.heap.size w w'
theorem flips_take {cs : List Ch} {k : Nat} (hk : k < cs.length) : (cs.take (k + 1)).map flipC = (cs.take k).map flipC ++ [flipC cs[k]] := by
  rw [List.take_succ_eq_append_getElem hk, List.map_append]; rfl

end Go.Proofs.Ytockgapdfcapnaa

namespace Go.Proofs.Ytockgapdfcapnaa
open Go.RowKit

def addG (l : List ByteArray) (ps : List ByteArray) : List ByteArray := ps.foldl nameL l
theorem addG_take {l ps : List ByteArray} {j : Nat} (hj : j < ps.length) : addG l (ps.take (j + 1)) = nameL (addG l (ps.take j)) ps[j] := by
  unfold addG
  rw [List.take_succ_eq_append_getElem hj, List.foldl_append]
  rfl
theorem addG_len (l ps : List ByteArray) : ∀ j, j ≤ ps.length → (addG l (ps.take j)).length ≤ l.length + j
  | 0, _ => by simp [addG]
  | j + 1, hj => by
    have h := addG_len l ps j (by omega)
    rw [addG_take (by omega)]
    have := nameL_len (addG l (ps.take j)) ps[j]
    omega
theorem addG_asc {l : List ByteArray} (hl : AscN l) (ps : List ByteArray) : AscN (addG l ps) ∧ ∀ y, y ∈ addG l ps ↔ y ∈ l ∨ y ∈ ps := by
  have key : ∀ j, j ≤ ps.length → AscN (addG l (ps.take j)) ∧ ∀ y, y ∈ addG l (ps.take j) ↔ y ∈ l ∨ y ∈ ps.take j := by
    intro j
    induction j with
    | zero => intro _; exact ⟨by simpa [addG] using hl, fun y => by simp [addG]⟩
    | succ j ih =>
      intro hj
      obtain ⟨h1, h2⟩ := ih (by omega)
      rw [addG_take (by omega)]
      have h3 := nameL_asc (s := ps[j]) h1
      refine ⟨h3.1, fun y => ?_⟩
      rw [h3.2, h2, List.take_succ_eq_append_getElem (by omega), List.mem_append, List.mem_singleton, or_assoc]
  have := key ps.length (Nat.le_refl _)
  rwa [List.take_length] at this

def joinNs (p q : List Ch) : List ByteArray := addG (addG [] (p.map Ch.path)) (q.map Ch.path)
def outJ2 (n : ByteArray) : Option Ch → Option Ch → List Ch
  | none, y => [y.getD noCh]
  | some x, none => [x]
  | some x, some y => if sameF x.old y.new = true then [] else [⟨n, x.old, y.new⟩]
def clJ2 : Option Ch → Option Ch → Bool
  | some x, some y => !sameF x.new y.old
  | _, _ => false
def outJ (p q : List Ch) (n : ByteArray) : List Ch := outJ2 n (fnd Ch.path p n) (fnd Ch.path q n)
def clJ (p q : List Ch) (n : ByteArray) : Bool := clJ2 (fnd Ch.path p n) (fnd Ch.path q n)
theorem outJ2_len (n : ByteArray) (x y : Option Ch) : (outJ2 n x y).length ≤ 1 := by
  unfold outJ2
  split
  · simp
  · simp
  · split <;> simp
def joinN (p q : List Ch) (ns : List ByteArray) : List Ch := ns.flatMap (outJ p q)
theorem joinN_take {p q : List Ch} {ns : List ByteArray} {k : Nat} (hk : k < ns.length) : joinN p q (ns.take (k + 1)) = joinN p q (ns.take k) ++ outJ p q ns[k] := by
  unfold joinN
  rw [List.take_succ_eq_append_getElem hk, List.flatMap_append]
  simp
theorem outJ_len (p q : List Ch) (n : ByteArray) : (outJ p q n).length ≤ 1 := outJ2_len _ _ _
theorem joinN_len (p q : List Ch) : ∀ ns : List ByteArray, (joinN p q ns).length ≤ ns.length
  | [] => Nat.le_refl _
  | n :: ns => by
    have h := joinN_len p q ns
    have h1 := outJ_len p q n
    unfold joinN at h ⊢
    rw [List.flatMap_cons, List.length_append, List.length_cons]
    omega
theorem joinNs_len (p q : List Ch) : (joinNs p q).length ≤ p.length + q.length := by
  have h1 := addG_len [] (p.map Ch.path) (p.map Ch.path).length (Nat.le_refl _)
  have h2 := addG_len (addG [] (p.map Ch.path)) (q.map Ch.path) (q.map Ch.path).length (Nat.le_refl _)
  rw [List.take_length] at h1 h2
  simp only [List.length_map, List.length_nil] at h1 h2
  unfold joinNs
  omega
theorem joinNs_mem (p q : List Ch) : AscN (joinNs p q) ∧ ∀ n, n ∈ joinNs p q ↔ (∃ x ∈ p, Ch.path x = n) ∨ ∃ y ∈ q, Ch.path y = n := by
  have h1 := addG_asc (l := []) List.Pairwise.nil (p.map Ch.path)
  have h2 := addG_asc h1.1 (q.map Ch.path)
  refine ⟨h2.1, fun n => ?_⟩
  unfold joinNs
  rw [h2.2, h1.2]
  simp

def JoinRel (p q cs : List Ch) (ok : Bool) : Prop :=
  (¬ (ValidP p ∧ ValidP q) ∧ cs = [] ∧ ok = false) ∨ (ValidP p ∧ ValidP q ∧
    (((∃ n ∈ joinNs p q, clJ p q n = true) ∧ cs = [] ∧ ok = false) ∨
     ((∀ n ∈ joinNs p q, clJ p q n = false) ∧ ((200 < (joinN p q (joinNs p q)).length ∧ cs = [] ∧ ok = false) ∨ ((joinN p q (joinNs p q)).length ≤ 200 ∧ cs = joinN p q (joinNs p q) ∧ ok = true)))))
def JoinPost (p q : List Ch) (w : World) (e : Ending) (w' : World) : Prop :=
  ∃ cs ok, JoinRel p q cs ok ∧ (∃ ad cap, e = .returned (.tuple #[.agg #[.slice ad cs.length cap], .bool ok]) ∧ CL w.heap.size w' ad cs) ∧ Below w.heap.size w w'
theorem join_one {p q us vs : List Ch} {c d : Bool} (h : JoinRel p q us c) (h' : JoinRel p q vs d) : us = vs ∧ c = d := by
  rcases h with ⟨h1, rfl, rfl⟩ | ⟨h1, h2, h⟩
  · rcases h' with ⟨_, rfl, rfl⟩ | ⟨h3, h4, _⟩
    · exact ⟨rfl, rfl⟩
    · exact absurd ⟨h3, h4⟩ h1
  · rcases h' with ⟨h3, _⟩ | ⟨_, _, h'⟩
    · exact absurd ⟨h1, h2⟩ h3
    · rcases h with ⟨⟨n, hn, hc⟩, rfl, rfl⟩ | ⟨hn, h⟩
      · rcases h' with ⟨_, rfl, rfl⟩ | ⟨hn', _⟩
        · exact ⟨rfl, rfl⟩
        · rw [hn' n hn] at hc; cases hc
      · rcases h' with ⟨⟨n, hn', hc⟩, _⟩ | ⟨_, h'⟩
        · rw [hn n hn'] at hc; cases hc
        · rcases h with ⟨h5, rfl, rfl⟩ | ⟨h5, rfl, rfl⟩
          · rcases h' with ⟨_, rfl, rfl⟩ | ⟨h6, _⟩
            · exact ⟨rfl, rfl⟩
            · omega
          · rcases h' with ⟨h6, _⟩ | ⟨_, rfl, rfl⟩
            · omega
            · exact ⟨rfl, rfl⟩
theorem join_few {p q us : List Ch} {c : Bool} (h : JoinRel p q us c) : us.length ≤ 200 := by
  rcases h with ⟨_, rfl, _⟩ | ⟨_, _, ⟨_, rfl, _⟩ | ⟨_, ⟨_, rfl, _⟩ | ⟨h, rfl, _⟩⟩⟩
  · simp
  · simp
  · simp
  · exact h
end Go.Proofs.Ytockgapdfcapnaa

namespace Go.Proofs.Ytockgapdfcapnaa
open Go.RowKit

/-- The paths at which two trees are not alike, of a list. -/
def diffNs (ts us : List En) (ns : List ByteArray) : List ByteArray := ns.filter fun p => !sameF (atL ts p) (atL us p)
theorem diffN_eq (ts us : List En) : ∀ ns : List ByteArray, diffN ts us ns = (diffNs ts us ns).map (diffC ts us)
  | [] => rfl
  | p :: ns => by
    have ih := diffN_eq ts us ns
    unfold diffN diffNs at ih ⊢
    rw [List.flatMap_cons, List.filter_cons, ih]
    cases sameF (atL ts p) (atL us p) <;> simp
theorem diffNs_unique {ts us : List En} {ns ms : List ByteArray} (h1 : AscN ns) (h2 : AscN ms) (h : ∀ p, sameF (atL ts p) (atL us p) = false → (p ∈ ns ↔ p ∈ ms)) : diffN ts us ns = diffN ts us ms := by
  rw [diffN_eq, diffN_eq]
  congr 1
  refine ascN_unique (List.Pairwise.filter _ h1) (List.Pairwise.filter _ h2) fun p => ?_
  unfold diffNs
  simp only [List.mem_filter, Bool.not_eq_true']
  exact ⟨fun ⟨h3, h4⟩ => ⟨(h p h4).1 h3, h4⟩, fun ⟨h3, h4⟩ => ⟨(h p h4).2 h3, h4⟩⟩
theorem paths_mem (ts us : List En) : AscN (pathsL [ts, us]) ∧ ∀ p, p ∈ pathsL [ts, us] ↔ (∃ e ∈ ts, e.path = p) ∨ ∃ e ∈ us, e.path = p := by
  have h1 := addP_asc (l := []) List.Pairwise.nil ts
  have h2 := addP_asc h1.1 us
  refine ⟨h2.1, fun p => ?_⟩
  show p ∈ addP (addP [] ts) us ↔ _
  rw [h2.2, h1.2]
  simp
theorem paths_differ {ts us : List En} {p : ByteArray} (h : sameF (atL ts p) (atL us p) = false) : (∃ e ∈ ts, e.path = p) ∨ ∃ e ∈ us, e.path = p := by
  rcases at_cases ts p with ⟨h1, _⟩ | ⟨e, h1, h2, _⟩
  · rcases at_cases us p with ⟨h3, _⟩ | ⟨e, h3, h4, _⟩
    · rw [h1, h3, sameF_iff.2 rfl] at h; cases h
    · exact .inr ⟨e, h3, h4⟩
  · exact .inl ⟨e, h1, h2⟩
theorem diff_mem {ts us : List En} (c : Ch) : c ∈ diffL ts us ↔ ∃ p, sameF (atL ts p) (atL us p) = false ∧ c = diffC ts us p := by
  unfold diffL
  rw [diffN_eq]
  unfold diffNs
  simp only [List.mem_map, List.mem_filter, Bool.not_eq_true']
  constructor
  · rintro ⟨p, ⟨_, h⟩, rfl⟩; exact ⟨p, h, rfl⟩
  · rintro ⟨p, h, rfl⟩; exact ⟨p, ⟨((paths_mem ts us).2 p).2 (paths_differ h), h⟩, rfl⟩
theorem diff_asc (ts us : List En) : AscK Ch.path (diffL ts us) := by
  unfold diffL
  rw [diffN_eq]
  exact List.Pairwise.map _ (fun _ _ h => h) (List.Pairwise.filter _ (paths_mem ts us).1)
theorem diff_len {ts us : List En} (h1 : ts.length ≤ 100) (h2 : us.length ≤ 100) : (diffL ts us).length ≤ 200 := by
  have h3 := diffN_len ts us (pathsL [ts, us])
  have h4 := addP_len [] ts ts.length (Nat.le_refl _)
  have h5 := addP_len (addP [] ts) us us.length (Nat.le_refl _)
  rw [List.take_length] at h4 h5
  have h6 : pathsL [ts, us] = addP (addP [] ts) us := rfl
  unfold diffL
  rw [h6] at h3 ⊢
  simp only [List.length_nil] at h4
  omega
theorem validP_mk {cs : List Ch} (h1 : cs.length ≤ 200) (h2 : ∀ c ∈ cs, chOk c = true) (h3 : AscK Ch.path cs) : ValidP cs :=
  ⟨h1, fun i hi => ⟨hi, h2 _ (List.getElem_mem hi), fun j hj hj' => List.pairwise_iff_getElem.1 h3 j i hj' hi (by omega)⟩⟩
theorem at_ok {ts : List En} (h : ValidTs ts) (p : ByteArray) : flOk (atL ts p) = true := by
  rcases at_cases ts p with ⟨h1, _⟩ | ⟨e, h1, _, h2⟩
  · rw [h1]
    have h2 : (⟨#[]⟩ : ByteArray).size ≤ 1500 := Nat.zero_le _
    simp [flOk, noFl, h2]
  · rw [h2]
    have h3 := valid_enF h h1
    simp only [enOk, Bool.and_eq_true, decide_eq_true_eq] at h3
    simp [flOk, h3.2]
theorem diff_valid {ts us : List En} (ht : ValidTs ts) (hu : ValidTs us) : ValidP (diffL ts us) := by
  refine validP_mk (diff_len ht.1 hu.1) (fun c hc => ?_) (diff_asc ts us)
  obtain ⟨p, h, rfl⟩ := (diff_mem c).1 hc
  have hp : pathOk pathB p = true := by
    rcases paths_differ h with ⟨e, he, rfl⟩ | ⟨e, he, rfl⟩
    · have h3 := valid_enF ht he
      simp only [enOk, Bool.and_eq_true] at h3
      exact h3.1
    · have h3 := valid_enF hu he
      simp only [enOk, Bool.and_eq_true] at h3
      exact h3.1
  simp only [chOk, diffC, Bool.and_eq_true, Bool.not_eq_true']
  exact ⟨⟨⟨hp, at_ok ht p⟩, at_ok hu p⟩, h⟩
theorem diff_app {ts us : List En} (ht : Asc ts) (hu : Asc us) : AppRel ts (diffL ts us) us := by
  refine ⟨hu, fun e => ?_⟩
  constructor
  · intro he
    have h1 := at_mem hu he
    cases hs : sameF (atL ts e.path) (atL us e.path) with
    | false => exact .inl ⟨diffC ts us e.path, (diff_mem _).2 ⟨_, hs, rfl⟩, by show (atL us e.path).there = true; rw [h1], by show e = ⟨e.path, (atL us e.path).text, (atL us e.path).runs⟩; rw [h1]⟩
    | true =>
      have h2 := sameF_iff.1 hs
      rw [h1] at h2
      have h3 := at_there (ts := ts) (p := e.path) (by rw [h2])
      rw [h2] at h3
      refine .inr ⟨h3, fun c hc e' => ?_⟩
      obtain ⟨p, h4, rfl⟩ := (diff_mem c).1 hc
      have e2 : p = e.path := e'
      rw [e2, hs] at h4
      cases h4
  · rintro (⟨c, hc, h1, rfl⟩ | ⟨h1, h2⟩)
    · obtain ⟨p, h4, rfl⟩ := (diff_mem c).1 hc
      exact at_there h1
    · have h3 := at_mem ht h1
      cases hs : sameF (atL ts e.path) (atL us e.path) with
      | false => exact absurd rfl (h2 _ ((diff_mem _).2 ⟨e.path, hs, rfl⟩))
      | true =>
        have h4 := sameF_iff.1 hs
        rw [h3] at h4
        have h5 := at_there (ts := us) (p := e.path) (by rw [← h4])
        rw [← h4] at h5
        exact h5
theorem diff_apply {ts us : List En} (ht : ValidTs ts) (hu : ValidTs us) : ApplyRel ts (diffL ts us) us 0 :=
  .inr ⟨ht, diff_valid ht hu, .inr ⟨fun x hx => by
    obtain ⟨p, _, rfl⟩ := (diff_mem x).1 hx
    exact sameF_iff.2 rfl, us, diff_app (valid_asc ht) (valid_asc hu), .inr ⟨hu, rfl, rfl⟩⟩⟩
theorem diff_self (ts : List En) : diffL ts ts = [] := by
  rw [List.eq_nil_iff_forall_not_mem]
  intro c hc
  obtain ⟨p, h, _⟩ := (diff_mem c).1 hc
  rw [sameF_iff.2 rfl] at h
  cases h
theorem flip_flip (cs : List Ch) : (cs.map flipC).map flipC = cs := by
  rw [List.map_map]
  conv => rhs; rw [← List.map_id cs]
  rfl
theorem diff_flip (ts us : List En) : (diffL ts us).map flipC = diffL us ts := by
  have h1 : diffN us ts (pathsL [us, ts]) = diffN us ts (pathsL [ts, us]) := diffNs_unique (paths_mem us ts).1 (paths_mem ts us).1 (fun p _ => by rw [(paths_mem us ts).2, (paths_mem ts us).2]; exact ⟨fun h => h.elim .inr .inl, fun h => h.elim .inr .inl⟩)
  unfold diffL
  rw [h1, diffN_eq, diffN_eq, List.map_map]
  have h2 : ∀ p, sameF (atL ts p) (atL us p) = sameF (atL us p) (atL ts p) := fun p => by
    rw [Bool.eq_iff_iff, sameF_iff, sameF_iff]
    exact ⟨fun h => h.symm, fun h => h.symm⟩
  unfold diffNs
  simp only [h2]
  rfl
theorem undo_diff {ts us : List En} (ht : ValidTs ts) (hu : ValidTs us) {cs : List Ch} (h : UndoRel (diffL ts us) cs) : cs = diffL us ts := by
  rcases h with ⟨_, rfl⟩ | ⟨h, _⟩
  · exact diff_flip ts us
  · exact absurd (diff_valid ht hu) h
theorem fnd_diff (ts us : List En) (n : ByteArray) : fnd Ch.path (diffL ts us) n = if sameF (atL ts n) (atL us n) = true then none else some (diffC ts us n) := by
  cases hf : fnd Ch.path (diffL ts us) n with
  | none =>
    split
    · rfl
    · rename_i h
      unfold fnd at hf
      rw [List.find?_eq_none] at hf
      exact absurd (eqb_iff.2 rfl) (hf _ ((diff_mem _).2 ⟨n, by simpa using h, rfl⟩))
  | some c =>
    obtain ⟨h1, h2⟩ := fnd_some hf
    obtain ⟨p, h3, rfl⟩ := (diff_mem c).1 h1
    have e2 : p = n := h2
    subst e2
    rw [h3]
    rfl
theorem join_diff {ts us vs : List En} : (∀ n, clJ (diffL ts us) (diffL us vs) n = false) ∧ joinN (diffL ts us) (diffL us vs) (joinNs (diffL ts us) (diffL us vs)) = diffL ts vs := by
  have hout : ∀ n ∈ joinNs (diffL ts us) (diffL us vs), outJ (diffL ts us) (diffL us vs) n = if sameF (atL ts n) (atL vs n) = true then [] else [diffC ts vs n] := by
    intro n hn
    unfold outJ
    rw [fnd_diff, fnd_diff]
    cases h1 : sameF (atL ts n) (atL us n) with
    | true =>
      have e1 := sameF_iff.1 h1
      cases h2 : sameF (atL us n) (atL vs n) with
      | true =>
        exfalso
        rcases ((joinNs_mem _ _).2 n).1 hn with ⟨c, hc, rfl⟩ | ⟨c, hc, rfl⟩
        · obtain ⟨p, h3, rfl⟩ := (diff_mem c).1 hc
          have h4 : sameF (atL ts p) (atL us p) = true := h1
          rw [h3] at h4; cases h4
        · obtain ⟨p, h3, rfl⟩ := (diff_mem c).1 hc
          have h4 : sameF (atL us p) (atL vs p) = true := h2
          rw [h3] at h4; cases h4
      | false =>
        rw [e1, h2]
        simp [outJ2, diffC, e1]
    | false =>
      cases h2 : sameF (atL us n) (atL vs n) with
      | true =>
        have e2 := sameF_iff.1 h2
        rw [← e2, h1]
        simp [outJ2, diffC, e2]
      | false =>
        simp only [Bool.false_eq_true, if_false, outJ2, diffC]
  refine ⟨fun n => ?_, ?_⟩
  · unfold clJ
    rw [fnd_diff, fnd_diff]
    split
    · rfl
    · split
      · rfl
      · show (!sameF (atL us n) (atL us n)) = false
        rw [sameF_iff.2 rfl]; rfl
  · have h1 : joinN (diffL ts us) (diffL us vs) (joinNs (diffL ts us) (diffL us vs)) = diffN ts vs (joinNs (diffL ts us) (diffL us vs)) := by
      unfold joinN diffN
      rw [List.flatMap_def, List.flatMap_def, List.map_congr_left hout]
    rw [h1]
    refine diffNs_unique (joinNs_mem _ _).1 (paths_mem ts vs).1 fun p hp => ?_
    constructor
    · exact fun _ => ((paths_mem ts vs).2 p).2 (paths_differ hp)
    · intro _
      rw [(joinNs_mem _ _).2]
      cases h1 : sameF (atL ts p) (atL us p) with
      | false => exact .inl ⟨diffC ts us p, (diff_mem _).2 ⟨p, h1, rfl⟩, rfl⟩
      | true =>
        refine .inr ⟨diffC us vs p, (diff_mem _).2 ⟨p, ?_, rfl⟩, rfl⟩
        rw [← sameF_iff.1 h1]
        exact hp
theorem join_diffs {ts us vs : List En} (ht : ValidTs ts) (hu : ValidTs us) (hv : ValidTs vs) : JoinRel (diffL ts us) (diffL us vs) (diffL ts vs) true :=
  .inr ⟨diff_valid ht hu, diff_valid hu hv, .inr ⟨fun n _ => join_diff.1 n, .inr ⟨by rw [join_diff.2]; exact diff_len ht.1 hv.1, join_diff.2.symm, rfl⟩⟩⟩
end Go.Proofs.Ytockgapdfcapnaa

namespace Go.Proofs.Ytockgapdfcapnaa
open Go.RowKit

theorem eval_put_same {a : Act} {d : Nat} {v : Value} (hd : d < a.tmps.size) : (a.put (some d) v).eval (.tmp d) = v := by
  show ((a.tmps.setIfInBounds d v).getD d undef) = v
  rw [Array.getD_eq_getD_getElem?, Array.getElem?_setIfInBounds_self_of_lt hd]
  rfl
theorem nodup_ne {ds : List Nat} (nd : ds.Nodup) {i j : Nat} (hi : i < ds.length) (hj : j < ds.length) (h : j ≠ i) : ds[j] ≠ ds[i] := fun e => by
  rcases Nat.lt_trichotomy j i with h1 | h1 | h1
  · exact List.pairwise_iff_getElem.1 nd j i hj hi h1 e
  · exact h h1
  · exact List.pairwise_iff_getElem.1 nd i j hi hj h1 e.symm
theorem getD_of_set {L : Array Bool} {i j : Nat} (h : (L.setIfInBounds i true).getD j false = true) (hne : j ≠ i) : L.getD j false = true := by
  rwa [getD_set_ne false (fun e => hne e.symm)] at h

structure EV0 (T0 : Array Value) (ds : List Nat) (tab : Nat → Option Value) (ex : Nat → Value → World → Prop) (W : World) (L : Array Bool) (a : Act) (w : World) : Prop where
  sl : Sl2 T0 ds tab L a
  wd : Below W.heap.size W w
  ex : ∀ i (h : i < ds.length), L.getD i false = true → ex i (a.eval (.tmp ds[i])) w
theorem EV0.step {T0 : Array Value} {ds : List Nat} {tab : Nat → Option Value} {ex : Nat → Value → World → Prop} {W : World} {L : Array Bool} {a : Act} {w w' : World} (h : EV0 T0 ds tab ex W L a w) (nd : ds.Nodup) (hst : ∀ i v w w', Below w.heap.size w w' → ex i v w → ex i v w') {i : Nat} {v : Value} (hi : i < ds.length) (hd : ds[i] < T0.size) (ht : ∀ u, tab i = some u → u = v) (he : ex i v w') (hb : Below w.heap.size w w') : EV0 T0 ds tab ex W (L.setIfInBounds i true) (a.put (some ds[i]) v) w' := by
  refine ⟨h.sl.put nd hi hd ht, h.wd.trans (hb.mono h.wd.size), fun j hj hL => ?_⟩
  by_cases e : j = i
  · subst e
    rw [eval_put_same (by rw [h.sl.sz]; exact hd)]
    exact he
  · rw [Act.eval_put (fun d hd' => by cases hd'; intro e'; injection e' with e'; exact nodup_ne nd hi hj e e')]
    exact hst j _ _ _ hb (h.ex j hj (getD_of_set hL e))

structure EVS (T0 : Array Value) (ds : List Nat) (tab : Nat → Option Value) (ex : Nat → Value → World → Prop) (W : World) (m : Nat) (E : World → Prop) (L : Array Bool) (a : Act) (w : World) : Prop where
  sl : Sl2 T0 ds tab L a
  wd : L.getD m false = false → Below W.heap.size W w
  ex : L.getD m false = false → ∀ i (h : i < ds.length), L.getD i false = true → ex i (a.eval (.tmp ds[i])) w
  fin : L.getD m false = true → E w
theorem EVS.step {T0 : Array Value} {ds : List Nat} {tab : Nat → Option Value} {ex : Nat → Value → World → Prop} {W : World} {m : Nat} {E : World → Prop} {L : Array Bool} {a : Act} {w w' : World} (h : EVS T0 ds tab ex W m E L a w) (nd : ds.Nodup) (hst : ∀ i v w w', Below w.heap.size w w' → ex i v w → ex i v w') {i : Nat} {v : Value} (hi : i < ds.length) (hd : ds[i] < T0.size) (hm : i ≠ m) (h0 : L.getD m false = false) (ht : ∀ u, tab i = some u → u = v) (he : ex i v w') (hb : Below w.heap.size w w') : EVS T0 ds tab ex W m E (L.setIfInBounds i true) (a.put (some ds[i]) v) w' := by
  have g : (L.setIfInBounds i true).getD m false = false := by rw [getD_set_ne false hm]; exact h0
  refine ⟨h.sl.put nd hi hd ht, fun _ => (h.wd h0).trans (hb.mono (h.wd h0).size), fun _ j hj hL => ?_, fun h1 => by rw [g] at h1; cases h1⟩
  by_cases e : j = i
  · subst e
    rw [eval_put_same (by rw [h.sl.sz]; exact hd)]
    exact he
  · rw [Act.eval_put (fun d hd' => by cases hd'; intro e'; injection e' with e'; exact nodup_ne nd hi hj e e')]
    exact hst j _ _ _ hb (h.ex h0 j hj (getD_of_set hL e))
theorem EVS.last {T0 : Array Value} {ds : List Nat} {tab : Nat → Option Value} {ex : Nat → Value → World → Prop} {W : World} {m : Nat} {E : World → Prop} {L : Array Bool} {a : Act} {w w' : World} (h : EVS T0 ds tab ex W m E L a w) (ht : tab m = none) (hL : L.getD m true = false) (hE : E w') : EVS T0 ds tab ex W m E (L.setIfInBounds m true) a w' := by
  have g : (L.setIfInBounds m true).getD m false = true := by
    have h1 := getD_false hL
    have h2 : m < L.size := by simpa using (List.getElem?_eq_some_iff.1 h1).1
    rw [Array.getD_eq_getD_getElem?, Array.getElem?_setIfInBounds_self_of_lt h2]
    rfl
  exact ⟨h.sl.skip ht, (fun h1 => by rw [g] at h1; cases h1), (fun h1 => by rw [g] at h1; cases h1), fun _ => hE⟩

/-- As EVS, with what stands of the world ('I') and how it goes on ('Rl') left open. -/
structure EVG (T0 : Array Value) (ds : List Nat) (tab : Nat → Option Value) (ex : Nat → Value → World → Prop) (I : Array Bool → World → Prop) (m : Nat) (E : World → Prop) (L : Array Bool) (a : Act) (w : World) : Prop where
  sl : Sl2 T0 ds tab L a
  wd : L.getD m false = false → I L w
  ex : L.getD m false = false → ∀ i (h : i < ds.length), L.getD i false = true → ex i (a.eval (.tmp ds[i])) w
  fin : L.getD m false = true → E w
theorem EVG.step {T0 : Array Value} {ds : List Nat} {tab : Nat → Option Value} {ex : Nat → Value → World → Prop} {I : Array Bool → World → Prop} {m : Nat} {E : World → Prop} {L : Array Bool} {a : Act} {w w' : World} (h : EVG T0 ds tab ex I m E L a w) (nd : ds.Nodup) (hst : ∀ i v, ex i v w → ex i v w') {i : Nat} {v : Value} (hi : i < ds.length) (hd : ds[i] < T0.size) (hm : i ≠ m) (h0 : L.getD m false = false) (ht : ∀ u, tab i = some u → u = v) (he : ex i v w') (hI : I (L.setIfInBounds i true) w') : EVG T0 ds tab ex I m E (L.setIfInBounds i true) (a.put (some ds[i]) v) w' := by
  have g : (L.setIfInBounds i true).getD m false = false := by rw [getD_set_ne false hm]; exact h0
  refine ⟨h.sl.put nd hi hd ht, fun _ => hI, fun _ j hj hL => ?_, fun h1 => by rw [g] at h1; cases h1⟩
  by_cases e : j = i
  · subst e
    rw [eval_put_same (by rw [h.sl.sz]; exact hd)]
    exact he
  · rw [Act.eval_put (fun d hd' => by cases hd'; intro e'; injection e' with e'; exact nodup_ne nd hi hj e e')]
    exact hst j _ (h.ex h0 j hj (getD_of_set hL e))
theorem EVG.last {T0 : Array Value} {ds : List Nat} {tab : Nat → Option Value} {ex : Nat → Value → World → Prop} {I : Array Bool → World → Prop} {m : Nat} {E : World → Prop} {L : Array Bool} {a : Act} {w w' : World} (h : EVG T0 ds tab ex I m E L a w) (ht : tab m = none) (hL : L.getD m true = false) (hE : E w') : EVG T0 ds tab ex I m E (L.setIfInBounds m true) a w' := by
  have g : (L.setIfInBounds m true).getD m false = true := by
    have h1 := getD_false hL
    have h2 : m < L.size := by simpa using (List.getElem?_eq_some_iff.1 h1).1
    rw [Array.getD_eq_getD_getElem?, Array.getElem?_setIfInBounds_self_of_lt h2]
    rfl
  exact ⟨h.sl.skip ht, (fun h1 => by rw [g] at h1; cases h1), (fun h1 => by rw [g] at h1; cases h1), fun _ => hE⟩
end Go.Proofs.Ytockgapdfcapnaa

namespace Go.Proofs.Ytockgapdfcapnaa
open Go.RowKit

/-- A reader at block g: bytes zs at a (in a block below g), place p. -/
structure Rd (w : World) (g : Nat) (a : Option Addr) (cap : Nat) (zs : List Int) (p : Nat) : Prop where
  bytes : zs = [] ∨ ∃ b off, a = some ⟨b, off, none⟩ ∧ b < g ∧ ∀ i (h : i < zs.length), w.cell? ⟨b, off + i, none⟩ = some (.int .u8 zs[i])
  len : zs.length ≤ 2000
  wf : ∀ z ∈ zs, 0 ≤ z ∧ z ≤ 255
  c0 : w.cell? ⟨g, 0, none⟩ = some (.slice a zs.length cap)
  c1 : w.cell? ⟨g, 1, none⟩ = some (.int .i64 p)
  f1 : w.frozen? ⟨g, 1, none⟩ = false

theorem Rd.lt {w : World} {g : Nat} {a : Option Addr} {cap : Nat} {zs : List Int} {p : Nat} (h : Rd w g a cap zs p) : g < w.heap.size := by
  have h1 := h.c1
  unfold World.cell? at h1
  cases hh : w.heap[g]? with
  | none => simp [hh] at h1
  | some o => exact (Array.getElem?_eq_some_iff.1 hh).1

theorem Rd.set {w : World} {g : Nat} {a : Option Addr} {cap : Nat} {zs : List Int} {p : Nat} (h : Rd w g a cap zs p) : Rd (w.setCell ⟨g, 1, none⟩ (.int .i64 (p + 1 : Nat))) g a cap zs (p + 1) := by
  refine ⟨?_, h.len, h.wf, ?_, World.cell?_setCell_same _ _ _ h.c1, ?_⟩
  · rcases h.bytes with h' | ⟨b, off, ha, hb, hc⟩
    · exact .inl h'
    · refine .inr ⟨b, off, ha, hb, fun i hi => ?_⟩
      rw [World.cell?_setCell_other _ _ _ _ (by simp <;> omega)]; exact hc i hi
  · rw [World.cell?_setCell_other _ _ _ _ (by simp)]; exact h.c0
  · rw [World.frozen?_setCell]; exact h.f1

theorem Rd.kept {w w' : World} {g : Nat} {a : Option Addr} {cap : Nat} {zs : List Int} {p : Nat} {row : Option Nat} (h : Rd w g a cap zs p) (hg : w.grownBy w' row) (hr : ∀ k, row = some k → g < k) : Rd w' g a cap zs p := by
  have hlt := h.lt
  have hbk : ∀ k, k ≤ g → w'.heap[k]? = w.heap[k]? := fun k hk => hg.block k (by omega) (fun e => by have := hr k e.symm; omega)
  refine ⟨?_, h.len, h.wf, ?_, ?_, ?_⟩
  · rcases h.bytes with h' | ⟨b, off, ha, hb, hc⟩
    · exact .inl h'
    · exact .inr ⟨b, off, ha, hb, fun i hi => by rw [World.cell?_of_block (w := w) (hbk b (by omega))]; exact hc i hi⟩
  · rw [World.cell?_of_block (w := w) (hbk g (by omega))]; exact h.c0
  · rw [World.cell?_of_block (w := w) (hbk g (by omega))]; exact h.c1
  · rw [World.frozen?_of_block (w := w) (hbk g (by omega))]; exact h.f1

theorem xor_lo (a b : Int) (ha : 0 ≤ a) (ha2 : a < 4611686018427387904) (hb : 0 ≤ b) (hb2 : b < 4611686018427387904) : 0 ≤ bits .xor .i64 a b := by
  obtain ⟨x, rfl⟩ := Int.eq_ofNat_of_zero_le ha
  obtain ⟨y, rfl⟩ := Int.eq_ofNat_of_zero_le hb
  have hx : x < 2 ^ 62 := by omega
  have hy : y < 2 ^ 62 := by omega
  have h1 : x % 2 ^ IntKind.i64.bits = x := Nat.mod_eq_of_lt (Nat.lt_of_lt_of_le hx (by decide))
  have h2 : y % 2 ^ IntKind.i64.bits = y := Nat.mod_eq_of_lt (Nat.lt_of_lt_of_le hy (by decide))
  have h3 : x ^^^ y < 2 ^ 62 := Nat.xor_lt_two_pow hx hy
  simp only [bits, BitVec.ofInt_natCast, BitVec.toNat_xor, BitVec.toNat_ofNat, h1, h2]
  rw [IntKind.wrap_i64]
  omega
theorem grown_set (w : World) (g : Nat) (o : Nat) (v : Value) : w.grownBy (w.setCell ⟨g, o, none⟩ v) (some g) :=
  ⟨rfl, rfl, rfl, by simp [World.setCell], fun k _ hk => Below.heap_setCell _ _ _ _ (by simpa using hk)⟩

theorem pk_drewN {w w' : World} {r : Option Nat} (h : w.grownBy w' r) (n : Nat) : w.grownBy (w'.drewN n) r := ⟨h.os, h.tape, h.output, h.size, h.block⟩

set_option maxHeartbeats 1000000 in
theorem pick_any (g : Nat) (a : Option Addr) (cap : Nat) (zs : List Int) (p : Nat) (m : Nat) (w : World) (h : Rd w g a cap zs p) (hm : 1 ≤ m) (hm2 : m ≤ 1000000) (hp : p ≤ 1000000000) :
    Calls Try.prog 25 #[.pointer (some ⟨g, 0, none⟩), .int .i64 m] w fun e w' => ∃ x : Nat, e = .returned (.int .i64 x) ∧ x < m ∧ w.grownBy w' (some g) ∧ Rd w' g a cap zs (p + 1) := by
  have hR := h.set
  obtain ⟨hby, hlen, hwf, c0, c1, f1⟩ := h
  have hmB : decide ((m : Int) < 1) = false := by simp; omega
  have c1' : (w.setCell ⟨g, 1, none⟩ (.int .i64 ((p : Int) + 1))).cell? ⟨g, 1, none⟩ = some (.int .i64 ((p : Int) + 1)) := World.cell?_setCell_same _ _ _ c1
  by_cases h0 : zs.length = 0
  · have h0B : ((zs.length : Int) == 0) = true := by simp [h0]
    clear c1' h0
    go_enter Try.func25, Try.ntmps25
    go_wp2
    go_ret
    exact ⟨0, rfl, by omega, grown_set _ _ _ _, hR⟩
  · have h0B : ((zs.length : Int) == 0) = false := by simpa using h0
    obtain ⟨b, off, rfl, hbg, hc⟩ : ∃ b off, a = some ⟨b, off, none⟩ ∧ b < g ∧ ∀ i (h : i < zs.length), w.cell? ⟨b, off + i, none⟩ = some (.int .u8 zs[i]) := by
      rcases hby with rfl | hby
      · simp at h0
      · exact hby
    have hcs : ∀ i (h : i < zs.length), (w.setCell ⟨g, 1, none⟩ (.int .i64 ((p : Int) + 1))).cell? ⟨b, off + i, none⟩ = some (.int .u8 zs[i]) := fun i hi => by
      rw [World.cell?_setCell_other _ _ _ _ (by simp <;> omega)]; exact hc i hi
    clear hby hc c1'
    by_cases hk : p < zs.length
    · have hck := hcs p hk
      have hz := hwf _ (List.getElem_mem hk)
      clear hcs
      go_enter Try.func25, Try.ntmps25
      go_wp2
      go_ret
      have hx := Int.emod_nonneg zs[p] (show (m : Int) ≠ 0 by omega)
      have hx2 := Int.emod_lt_of_pos zs[p] (show (0 : Int) < m by omega)
      refine ⟨(zs[p] % (m : Int)).toNat, ?_, by omega, grown_set _ _ _ _, hR⟩
      rw [Int.toNat_of_nonneg hx]
      rfl
    · have hk' : (zs.length : Int) ≤ p := by omega
      have hck1 := hcs (p % zs.length) (Nat.mod_lt _ (by omega))
      have hck2 := hcs ((p * 7 + 3) % zs.length) (Nat.mod_lt _ (by omega))
      have hz1 := hwf _ (List.getElem_mem (Nat.mod_lt p (by omega : 0 < zs.length)))
      have hz2 := hwf _ (List.getElem_mem (Nat.mod_lt (p * 7 + 3) (by omega : 0 < zs.length)))
      have i1 := Int.emod_nonneg (p : Int) (show (zs.length : Int) ≠ 0 by omega)
      have i1' := Int.emod_lt_of_pos (p : Int) (show (0 : Int) < zs.length by omega)
      have i2 := Int.emod_nonneg ((p : Int) * 7 + 3) (show (zs.length : Int) ≠ 0 by omega)
      have i2' := Int.emod_lt_of_pos ((p : Int) * 7 + 3) (show (0 : Int) < zs.length by omega)
      have hck1' : (w.setCell ⟨g, 1, none⟩ (.int .i64 ((p : Int) + 1))).cell? ⟨b, off + ((p : Int) % (zs.length : Int)).toNat, none⟩ = some (.int .u8 (zs[p % zs.length]'(Nat.mod_lt _ (by omega)))) := by
        rw [show ((p : Int) % (zs.length : Int)).toNat = p % zs.length by rw [← Int.natCast_emod, Int.toNat_natCast]]; exact hck1
      have hck2' : (w.setCell ⟨g, 1, none⟩ (.int .i64 ((p : Int) + 1))).cell? ⟨b, off + (((p : Int) * 7 + 3) % (zs.length : Int)).toNat, none⟩ = some (.int .u8 (zs[(p * 7 + 3) % zs.length]'(Nat.mod_lt _ (by omega)))) := by
        rw [show (((p : Int) * 7 + 3) % (zs.length : Int)).toNat = (p * 7 + 3) % zs.length from by rw [show ((p : Int) * 7 + 3) = ((p * 7 + 3 : Nat) : Int) from by omega, ← Int.natCast_emod, Int.toNat_natCast]]; exact hck2
      have q1 := Int.ediv_nonneg (show (0 : Int) ≤ p by omega) (show (0 : Int) ≤ zs.length by omega)
      have q2 : (p : Int) / zs.length ≤ 1000000000 := Int.le_trans (Int.ediv_le_self _ (by omega)) (by omega)
      generalize zs[p % zs.length]'(Nat.mod_lt _ (by omega)) = z1 at *
      generalize zs[(p * 7 + 3) % zs.length]'(Nat.mod_lt _ (by omega)) = z2 at *
      go_enter Try.func25, Try.ntmps25
      clear hcs
      go_wp2
      go_quiet (fail)
      go_wp2
      go_ret
      have hX : 0 ≤ z1 * 131 + z2 * 1117 + (p : Int) * 29 + (p : Int) / zs.length * 53 ∧ z1 * 131 + z2 * 1117 + (p : Int) * 29 + (p : Int) / zs.length * 53 < 4611686018427387904 := by omega
      generalize z1 * 131 + z2 * 1117 + (p : Int) * 29 + (p : Int) / zs.length * 53 = X at *
      have hr := xor_lo X (X / 64) hX.1 hX.2 (by omega) (by omega)
      generalize bits .xor .i64 X (X / 64) = Y at *
      have hx := Int.tmod_nonneg (m : Int) hr
      have hx2 := Int.tmod_lt_of_pos Y (show (0 : Int) < m by omega)
      refine ⟨(Y.tmod (m : Int)).toNat, ?_, by omega, pk_drewN (grown_set _ _ _ _) nq, ⟨hR.bytes, hR.len, hR.wf, hR.c0, hR.c1, hR.f1⟩⟩
      rw [Int.toNat_of_nonneg hx]
      rfl

/-- What a law is told of the code that came in. -/
structure Code0 (w : World) (a : Option Addr) (cap : Nat) (zs : List Int) : Prop where
  bytes : zs = [] ∨ ∃ b off, a = some ⟨b, off, none⟩ ∧ b < w.heap.size ∧ ∀ i (h : i < zs.length), w.cell? ⟨b, off + i, none⟩ = some (.int .u8 zs[i])
  len : zs.length ≤ cap
  cap : cap ≤ maxLen
  wf : ∀ z ∈ zs, 0 ≤ z ∧ z ≤ 255

set_option maxHeartbeats 1000000 in
theorem open_any (a : Option Addr) (cap : Nat) (zs : List Int) (w : World) (h : Code0 w a cap zs) :
    Calls Try.prog 24 #[.slice a zs.length cap] w fun e w' => e = .returned (.pointer (some ⟨w.heap.size, 0, none⟩)) ∧ Below w.heap.size w w' ∧ w'.heap.size = w.heap.size + 1 ∧ ∃ zs', Rd w' w.heap.size a cap zs' 0 := by
  have hl := h.len
  by_cases hbig : (2000 : Int) < zs.length
  · go_enter Try.func24, Try.ntmps24
    go_wp2
    go_ret
    have e2 : (zs.take 2000).length = 2000 := by simp; omega
    refine ⟨rfl, (Below.refl _ _).alloc (Nat.le_refl _) _, by simp, zs.take 2000, ?_, by omega, fun z hz => h.wf z (List.mem_of_mem_take hz), ?_, ?_, ?_⟩
    · rcases h.bytes with h' | ⟨b, off, ha, hb, hc⟩
      · left; rw [h']; rfl
      · refine .inr ⟨b, off, ha, hb, fun i hi => ?_⟩
        rw [List.getElem_take]
        exact cell_later ((Below.refl _ _).alloc (Nat.le_refl _) _) (hc i (by omega))
    · rw [e2]; simp
    · simp
    · simp
  · go_enter Try.func24, Try.ntmps24
    go_wp2
    go_ret
    refine ⟨rfl, (Below.refl _ _).alloc (Nat.le_refl _) _, by simp, zs, ?_, by omega, h.wf, ?_, ?_, ?_⟩
    · rcases h.bytes with h' | ⟨b, off, ha, hb, hc⟩
      · exact .inl h'
      · exact .inr ⟨b, off, ha, hb, fun i hi => cell_later ((Below.refl _ _).alloc (Nat.le_refl _) _) (hc i hi)⟩
    · simp
    · simp
    · simp

theorem pick_int (g : Nat) (a : Option Addr) (cap : Nat) (zs : List Int) (p : Nat) (m : Int) (w : World) (h : Rd w g a cap zs p) (hm : 1 ≤ m ∧ m ≤ 1000000) (hp : p ≤ 1000000000) :
    Calls Try.prog 25 #[.pointer (some ⟨g, 0, none⟩), .int .i64 m] w fun e w' => ∃ x : Int, e = .returned (.int .i64 x) ∧ 0 ≤ x ∧ x < m ∧ w.grownBy w' (some g) ∧ Rd w' g a cap zs (p + 1) := by
  obtain ⟨k, rfl⟩ := Int.eq_ofNat_of_zero_le (show 0 ≤ m by omega)
  refine (pick_any g a cap zs p k w h (by omega) (by omega) hp).mono ?_
  rintro e w' ⟨x, rfl, hx, hg, hR⟩
  exact ⟨x, rfl, by omega, by omega, hg, hR⟩
end Go.Proofs.Ytockgapdfcapnaa

namespace Go.Proofs.Ytockgapdfcapnaa
open Go.RowKit

/-- A reader that was gone on with, at most K picks. -/
structure Dr (g : Nat) (a : Option Addr) (cap : Nat) (zs : List Int) (w w' : World) (p K : Nat) : Prop where
  rd : ∃ p', p' ≤ p + K ∧ Rd w' g a cap zs p'
  grown : w.grownBy w' (some g)
theorem gr_trans {w w1 w2 : World} {row : Option Nat} (h : w.grownBy w1 row) (k : w1.grownBy w2 row) : w.grownBy w2 row :=
  ⟨k.os.trans h.os, k.tape.trans h.tape, k.output.trans h.output, Nat.le_trans h.size k.size, fun i hi hne => (k.block i (Nat.lt_of_lt_of_le hi h.size) hne).trans (h.block i hi hne)⟩
theorem gr_below {w w' : World} {row : Option Nat} (h : Below w.heap.size w w') : w.grownBy w' row := ⟨h.os, h.tape, h.output, h.size, fun k hk _ => h.block k hk⟩
theorem gr_refl (w : World) (row : Option Nat) : w.grownBy w row := ⟨rfl, rfl, rfl, Nat.le_refl _, fun _ _ _ => rfl⟩
theorem Rd.below {w w' : World} {g : Nat} {a : Option Addr} {cap : Nat} {zs : List Int} {p : Nat} (h : Rd w g a cap zs p) (hb : Below w.heap.size w w') : Rd w' g a cap zs p :=
  h.kept (row := none) (gr_below hb) (fun k hk => by cases hk)
theorem owns_rd {w w' : World} {g base : Nat} {e : TypeId} {size : Nat} {v : Value} {n : Nat} {xs : List Value} (h : w.ownsRow base e size v n xs) (hg : w.grownBy w' (some g)) (hb : g < base) : w'.ownsRow base e size v n xs := by
  refine ⟨h.1, ?_⟩
  rcases h.2 with h' | ⟨k, cap, cur, hv, h1, h2, h3⟩
  · exact .inl h'
  · refine .inr ⟨k, cap, cur, hv, h1, ?_, h3⟩
    rw [hg.block k (Array.getElem?_eq_some_iff.1 h2).1 (by simp; omega)]; exact h2
/-- A row that is the call's own is turned: for those ahead of the call nothing but the reader has. -/
theorem gr_own {w w1 w2 : World} {g : Nat} {row : Option Nat} (h : w.grownBy w1 (some g)) (k : w1.grownBy w2 row) (hr : ∀ j, row = some j → w.heap.size ≤ j) : w.grownBy w2 (some g) :=
  ⟨k.os.trans h.os, k.tape.trans h.tape, k.output.trans h.output, Nat.le_trans h.size k.size, fun i hi hne => (k.block i (Nat.lt_of_lt_of_le hi h.size) (fun e => by have := hr i e.symm; omega)).trans (h.block i hi hne)⟩
theorem gr_alloc {w w1 : World} {g : Nat} (o : Obj) (h : w.grownBy w1 (some g)) : w.grownBy (w1.alloc o) (some g) :=
  gr_trans h (gr_below ((Below.refl _ _).alloc (Nat.le_refl _) o))
theorem Rd.own {w w' : World} {g : Nat} {a : Option Addr} {cap : Nat} {zs : List Int} {p : Nat} {row : Option Nat} {B : Nat} (h : Rd w g a cap zs p) (hg : w.grownBy w' row) (hr : ∀ k, row = some k → B ≤ k) (hB : g < B) : Rd w' g a cap zs p :=
  h.kept hg (fun k hk => by have := hr k hk; omega)
end Go.Proofs.Ytockgapdfcapnaa

namespace Go.Proofs.Ytockgapdfcapnaa
open Go.RowKit

set_option maxRecDepth 20000 in
set_option maxHeartbeats 1000000 in
theorem many_any (s : ByteArray) (n : Nat) (w : World) (hs : s.size * n ≤ 1073741824) (hn : n ≤ 1073741824) (h1 : 1 ≤ s.size) (h2 : s.size ≤ 1073741824) :
    Calls Try.prog 38 #[.string s, .int .i64 n] w fun e w' => ∃ o : ByteArray, e = .returned (.string o) ∧ o.size = s.size * n ∧ w = w' := by
  go_enter Try.func38, Try.ntmps38
  go_wp2
  go_loop [0, 1, 5] (fun t q o => ∃ (t' : ByteArray) (q' : Nat) (o' : ByteArray), t = .string t' ∧ q = .int .i64 q' ∧ o = .string o' ∧ o'.size + t'.size * q' = s.size * n ∧ t'.size ≤ 2 * (s.size * n) + s.size ∧ q' ≤ n) (fun _ q _ => (intOf q).toNat)
  case atStart => exact ⟨s, n, ⟨#[]⟩, rfl, rfl, rfl, Nat.zero_add _, by omega, Nat.le_refl _⟩
  case round =>
    obtain ⟨t, q, o, rfl, rfl, rfl, he, ht, hqn⟩ := hrel
    by_cases hq : 0 < q
    · have hq' : (0 : Int) < q := by omega
      have hto : t.size ≤ t.size * q := Nat.le_mul_of_pos_right _ hq
      have hsum : t.size * q = t.size * (q % 2) + (t.size + t.size) * (q / 2) := by
        rw [← Nat.two_mul, Nat.mul_comm 2 t.size, Nat.mul_assoc, ← Nat.mul_add]
        congr 1
        omega
      have hc2 : ¬ 9223372036854775807 < t.size + t.size := by omega
      by_cases hm : q % 2 = 1
      · have hB : ((q : Int) % 2 == 1) = true := by simp; omega
        have hc1 : ¬ 9223372036854775807 < o.size + t.size := by omega
        have HE : Hid ((o ++ t).size + (t ++ t).size * (q / 2) = s.size * n) := by
          have : (o ++ t).size + (t ++ t).size * (q / 2) = s.size * n := by
            rw [ByteArray.size_append, ByteArray.size_append]
            rw [hm, Nat.mul_one] at hsum
            omega
          exact this
        have HT : Hid ((t ++ t).size ≤ 2 * (s.size * n) + s.size) := by
          have : (t ++ t).size ≤ 2 * (s.size * n) + s.size := by rw [ByteArray.size_append]; omega
          exact this
        clear he ht hsum hto hm
        go_wp2
        go_round
        case rel => exact ⟨t ++ t, q / 2, o ++ t, rfl, by go_num, rfl, HE.out, HT.out, by omega⟩
        case measure => simp [intOf]; omega
      · have hB : ((q : Int) % 2 == 1) = false := by simp; omega
        have HE : Hid (o.size + (t ++ t).size * (q / 2) = s.size * n) := by
          have : o.size + (t ++ t).size * (q / 2) = s.size * n := by
            rw [ByteArray.size_append]
            rw [show q % 2 = 0 by omega, Nat.mul_zero, Nat.zero_add] at hsum
            omega
          exact this
        have HT : Hid ((t ++ t).size ≤ 2 * (s.size * n) + s.size) := by
          have : (t ++ t).size ≤ 2 * (s.size * n) + s.size := by rw [ByteArray.size_append]; omega
          exact this
        clear he ht hsum hto hm
        go_wp2
        go_round
        case rel => exact ⟨t ++ t, q / 2, o, rfl, by go_num, rfl, HE.out, HT.out, by omega⟩
        case measure => simp [intOf]; omega
    · obtain rfl : q = 0 := by omega
      rw [Nat.mul_zero, Nat.add_zero] at he
      have HE : Hid (o.size = s.size * n) := he
      clear he
      go_wp2
      go_ret
      exact ⟨o, rfl, HE.out, rfl⟩

set_option maxRecDepth 20000 in
set_option maxHeartbeats 2000000 in
theorem text_any (g : Nat) (a : Option Addr) (cap : Nat) (zs : List Int) (p : Nat) (w : World) (h : Rd w g a cap zs p) (hp : p ≤ 100000000) :
    Calls Try.prog 62 #[.pointer (some ⟨g, 0, none⟩)] w fun e w' => ∃ s : ByteArray, e = .returned (.string s) ∧ s.size ≤ 20 ∧ Dr g a cap zs w w' p 10 := by
  go_enter Try.func62, Try.ntmps62
  go_wp2_with fail
  refine (pick_any g a cap zs p 9 w h (by omega) (by omega) (by omega)).mono ?_
  rintro e w1 ⟨x, rfl, hx, hg1, hR1⟩
  by_cases h0 : x = 0
  · have hB : ((x : Int) == 0) = true := by simp; omega
    clear h0
    go_wp2
    go_ret
    exact ⟨⟨#[]⟩, rfl, Nat.zero_le _, ⟨p + 1, by omega, hR1⟩, hg1⟩
  · have hB0 : ((x : Int) == 0) = false := by simp; omega
    by_cases h1 : x = 1
    · have hB : ((x : Int) == 1) = true := by simp; omega
      clear h0 h1
      go_wp2
      go_ret
      exact ⟨⟨#[255, 0]⟩, rfl, by show 2 ≤ 20; omega, ⟨p + 1, by omega, hR1⟩, hg1⟩
    · have hB1 : ((x : Int) == 1) = false := by simp; omega
      by_cases h2 : x = 2
      · have hB : ((x : Int) == 2) = true := by simp; omega
        clear h0 h1 h2
        go_wp2
        go_ret
        exact ⟨_, rfl, by show 10 ≤ 20; omega, ⟨p + 1, by omega, hR1⟩, hg1⟩
      · have hB2 : ((x : Int) == 2) = false := by simp; omega
        clear h0 h1 h2
        go_wp2_with fail
        refine (pick_any g a cap zs (p + 1) 7 w1 hR1 (by omega) (by omega) (by omega)).mono ?_
        rintro e w2 ⟨y, rfl, hy, hg2, hR2⟩
        have hg02 := gr_trans hg1 hg2
        go_wp2
        go_loopw [3, 4] (fun o q wr => ∃ (o' : ByteArray) (q' p' : Nat), o = .string o' ∧ q = .int .i64 q' ∧ q' ≤ 6 ∧ o'.size + 2 * q' ≤ 12 ∧ p' + q' ≤ p + 8 ∧ Rd wr g a cap zs p' ∧ w.grownBy wr (some g)) (fun _ q _ => (intOf q).toNat)
        case atStart => exact ⟨⟨#[]⟩, y, p + 1 + 1, rfl, rfl, by omega, by show 0 + 2 * y ≤ 12; omega, by omega, hR2, hg02⟩
        case round =>
          obtain ⟨o, q, p', rfl, rfl, hq6, ho, hpq, hR, hg⟩ := hrel
          by_cases hq : 0 < q
          · have hq' : (0 : Int) < q := by omega
            go_wp2_with fail
            refine (pick_any g a cap zs p' 4 wr hR (by omega) (by omega) (by omega)).mono ?_
            rintro e w3 ⟨z, rfl, hz, hg3, hR3⟩
            have hgx := gr_trans hg hg3
            have hc : ∀ k : Nat, k ≤ 10 → ¬ 9223372036854775807 < o.size + k := fun k hk => by omega
            have hc1 := hc 1 (by omega)
            have hc2 := hc 2 (by omega)
            clear hc
            rcases (show z = 0 ∨ z = 1 ∨ z = 2 ∨ z = 3 by omega) with rfl | rfl | rfl | rfl
            all_goals go_wp2
            all_goals
              refine ⟨⟨_, q - 1, p' + 1, rfl, by congr 1; omega, by omega, ?_, by omega, hR3, hgx⟩, by simp only [intOf]; omega⟩
              simp only [ByteArray.size_append, ByteArray.size_extract]
              have e1 : (⟨#[97, 98, 99, 100]⟩ : ByteArray).size = 4 := rfl
              have e2 : (⟨#[10]⟩ : ByteArray).size = 1 := rfl
              omega
          · obtain rfl : q = 0 := by omega
            go_wp2
            go_ret
            exact ⟨o, rfl, by omega, ⟨p', by omega, hR⟩, hg⟩
end Go.Proofs.Ytockgapdfcapnaa
