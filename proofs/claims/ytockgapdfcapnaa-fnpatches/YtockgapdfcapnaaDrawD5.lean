/-
  spec.l5Draw.
-/
import Derived.Test.YtockgapdfcapnaaZbf
import Derived.Deep.DeepCutAuto
import Derived.Deep.RegionWith
namespace Go.Proofs.Ytockgapdfcapnaa
open Go.RowKit

theorem put_asc {ts : List En} {e : En} {us : List En} (h : PutR ts e us 0) : Asc us ∧ us.length ≤ 100 ∧ us ≠ [] ∧ ∀ x ∈ us, x = e ∨ x ∈ ts := by
  rcases h with ⟨_, _, h⟩ | ⟨_, _, _, h⟩ | ⟨_, _, _, _, h⟩ | ⟨_, _, _, vs, h, ⟨_, _, h'⟩ | ⟨h1, rfl, _⟩⟩
  · cases h
  · cases h
  · cases h
  · cases h'
  · refine ⟨h.asc, h1, fun e0 => ?_, fun x hx => ?_⟩
    · have := (h.mem e).2 (.inl rfl)
      rw [e0] at this
      cases this
    · rcases (h.mem x).1 hx with h2 | h2
      · exact .inl h2
      · exact .inr h2.1

/-! The names that fill a tree up. -/
theorem conv_two (x y : Int) (w : World) : (convert 22 9 (.slice (some ⟨w.heap.size, 0, none⟩) 2 2)).run Try.prog (w.alloc (.cells #[.int .u8 x, .int .u8 y] 5)) = .ok (.string (strOfNums [x, y])) (w.alloc (.cells #[.int .u8 x, .int .u8 y] 5)) := by
  refine run_convert_bytes_arg _ 22 5 Try.underlying22 Try.underlying5 _ 0 2 2 [x, y] rfl ?_ 9 Try.underlying9
  intro i hi
  rcases (show i = 0 ∨ i = 1 by omega) with rfl | rfl
  · simp
  · simp
def zp (k : Nat) : ByteArray := ⟨#[122]⟩ ++ strOfNums [97 + (k : Int) / 26, 97 + (k : Int) % 26]
theorem zp_size (k : Nat) : (zp k).size = 3 := by
  unfold zp
  rw [ByteArray.size_append, strOfNums_size]
  rfl
theorem zp_inj {j k : Nat} (hj : j ≤ 200) (hk : k ≤ 200) (h : zp j = zp k) : j = k := by
  have h2 := congrArg (fun x : ByteArray => x.data.toList) h
  simp only [zp, ByteArray.data_append, Array.toList_append, strOfNums_data] at h2
  have h3 := List.append_cancel_left h2
  simp only [List.map_cons, List.map_nil, List.cons.injEq, and_true] at h3
  have e1 : ∀ n : Nat, (97 + (n : Int) / 26).toNat = 97 + n / 26 := fun n => by omega
  have e2 : ∀ n : Nat, (97 + (n : Int) % 26).toNat = 97 + n % 26 := fun n => by omega
  rw [e1, e1, e2, e2] at h3
  have h4 := congrArg UInt8.toNat h3.1
  have h5 := congrArg UInt8.toNat h3.2
  simp at h4 h5
  omega
theorem sub_len : ∀ {l F : List ByteArray}, l.Nodup → (∀ q ∈ l, q ∈ F) → l.length ≤ F.length
  | [], _, _, _ => Nat.zero_le _
  | x :: l, F, hn, hs => by
    obtain ⟨a, b, rfl⟩ := List.append_of_mem (hs x (by simp))
    have h1 := sub_len (l := l) (F := a ++ b) (List.nodup_cons.1 hn).2 (fun q hq => by
      have h2 := hs q (by simp [hq])
      rcases List.mem_append.1 h2 with h3 | h3
      · exact List.mem_append.2 (.inl h3)
      · rcases List.mem_cons.1 h3 with h4 | h4
        · subst h4; exact absurd hq (List.nodup_cons.1 hn).1
        · exact List.mem_append.2 (.inr h4))
    simp only [List.length_cons, List.length_append] at h1 ⊢
    omega
/-- The first of them are there. -/
def HasZ (k : Nat) (ts : List En) : Prop := ∀ j, j < k → ∃ e ∈ ts, e.path = zp j
theorem HasZ.count {k : Nat} {ts : List En} (h : HasZ k ts) (hk : k ≤ 200) : k ≤ ts.length := by
  have h1 := sub_len (l := (List.range k).map zp) (F := ts.map fun e => e.path) (by
    unfold List.Nodup
    rw [List.pairwise_map]
    refine List.Pairwise.imp_of_mem (fun {a b} ha hb hne e => ?_) List.nodup_range
    rw [List.mem_range] at ha hb
    exact hne (zp_inj (by omega) (by omega) e)) (fun q hq => by
      obtain ⟨j, hj, rfl⟩ := List.mem_map.1 hq
      obtain ⟨e, he, h2⟩ := h j (List.mem_range.1 hj)
      exact List.mem_map.2 ⟨e, he, h2⟩)
  simpa using h1
theorem HasZ.set {k : Nat} {ts us : List En} {en : En} (h : HasZ k ts) (he : en.path = zp k) (hs : SetRel ts en us) : HasZ (k + 1) us := fun j hj => by
  by_cases e : j = k
  · subst e; exact ⟨en, (hs.mem en).2 (.inl rfl), he⟩
  · obtain ⟨x, hx, hp⟩ := h j (by omega)
    by_cases e2 : x.path = en.path
    · exact ⟨en, (hs.mem en).2 (.inl rfl), e2.symm.trans hp⟩
    · exact ⟨x, (hs.mem x).2 (.inr ⟨hx, e2⟩), hp⟩

/-- A tree that was drawn. -/
def TreeD (P T N : Nat) (g : Nat) (a : Option Addr) (cap : Nat) (zs : List Int) (K p : Nat) (w : World) (e : Ending) (w' : World) : Prop :=
  ∃ ad cp ts, e = .returned (.agg #[.slice ad (List.length ts) cp]) ∧ EL w.heap.size w' ad ts ∧ ts.length ≤ N ∧ Asc ts ∧ Tiny P T ts ∧ NilOk ad cp ∧ Dr g a cap zs w w' p K

def TreeDC (P T N : Nat) (g : Nat) (a : Option Addr) (cap : Nat) (zs : List Int) (K p : Nat) (w : World) (e : Ending) (w' : World) : Prop :=
  ∃ ad cp ts, e = .returned (.agg #[.slice ad (List.length ts) cp]) ∧ EL w.heap.size w' ad ts ∧ ts.length ≤ N ∧ Asc ts ∧ Tiny P T ts ∧ NilOk ad cp ∧ Dr g a cap zs w w' p K ∧ ts.length ≤ cp
/-- Behind spec.Put in a region that draws, with the room. -/
def CutPC (g : Nat) (a : Option Addr) (cap : Nat) (zs : List Int) (w : World) (rs tb : Nat) (ad : Option Addr) (cp : Nat) (ts : List En) (P T p : Nat) (pv cc : Value) (W : World) : Prop :=
  ∃ us c ad' cp' nc p2 en, pv = .pointer (some ⟨nc, 0, none⟩) ∧ cc = .int .i64 c ∧ Tiny P T [en] ∧ PutR ts en us c ∧ EL (tb + 1) W ad' us ∧ W.cell? ⟨nc, 0, none⟩ = some (.slice ad' us.length cp') ∧ LD5 g a cap zs w rs tb ad cp ts p2 W ∧ p2 ≤ p ∧ us.length ≤ cp'
theorem cutPC_mk {g : Nat} {a : Option Addr} {cap : Nat} {zs : List Int} {w : World} {rs tb : Nat} {ad ad' : Option Addr} {cp cp' : Nat} {ts us : List En} {P T p p2 : Nat} {c : Int} {en : En} {B : Nat} {W : World} (hroom : us.length ≤ cp') (he : Tiny P T [en]) (hR : PutR ts en us c) (hel : EL B W ad' us) (hB : tb < B) (hl : LD5 g a cap zs w rs tb ad cp ts p2 W) (hp : p2 ≤ p) :
    CutPC g a cap zs w rs tb ad cp ts P T p (.pointer (some ⟨W.heap.size, 0, none⟩)) (.int .i64 c) (W.alloc (.cells #[.slice ad' us.length cp'] 32)) :=
  ⟨us, c, ad', cp', W.heap.size, p2, en, rfl, rfl, he, hR, (hel.below (below_oneD _ _)).mono hB, by simp, hl.al _, hp, hroom⟩
theorem cutPC_mk' {g : Nat} {a : Option Addr} {cap : Nat} {zs : List Int} {w : World} {rs tb : Nat} {ad ad' : Option Addr} {cp cp' : Nat} {ts us : List En} {P T p p2 : Nat} {c : Int} {en : En} {B nc : Nat} {W : World} (hroom : us.length ≤ cp') (he : Tiny P T [en]) (hR : PutR ts en us c) (hel : EL B W ad' us) (hB : tb < B) (hl : LD5 g a cap zs w rs tb ad cp ts p2 W) (hp : p2 ≤ p) {lo : Nat} (N : NC lo nc W) (hn : nc < B) (hlo : tb < lo) (hw : w.heap.size ≤ tb) (hap : ts = [] ∨ ∃ k, blk ad = some k ∧ k < lo) :
    CutPC g a cap zs w rs tb ad cp ts P T p (.pointer (some ⟨nc, 0, none⟩)) (.int .i64 c) (W.setCell ⟨nc, 0, none⟩ (.slice ad' us.length cp')) := by
  have hg : W.grownBy (W.setCell ⟨nc, 0, none⟩ (.slice ad' us.length cp')) (some nc) := grown_set W nc 0 _
  have o := hl.ord
  have lo := N.lo
  refine ⟨us, c, ad', cp', nc, p2, en, rfl, rfl, he, hR, (hel.grown hg (fun k _ hk _ e => by cases e; omega)).mono hB, World.cell?_setCell_same _ _ _ N.cell, ?_, hp, hroom⟩
  refine ⟨hl.rd.kept hg (fun k e => by cases e; omega), gr_own hl.gr hg (fun j e => by cases e; omega), ?_, (World.frozen?_setCell _ _ _ _).trans hl.rf, ?_, (World.frozen?_setCell _ _ _ _).trans hl.tf, ?_, o⟩
  · exact (World.cell?_of_block (Below.heap_setCell _ _ _ _ (by show rs ≠ nc; omega))).trans hl.rc
  · exact (World.cell?_of_block (Below.heap_setCell _ _ _ _ (by show tb ≠ nc; omega))).trans hl.tc
  · rcases hap with h | h
    · subst h; exact EL.nil _ _ _
    · obtain ⟨k0, h1, h2⟩ := h
      exact hl.el.grown hg (fun k hk _ _ e => by rw [h1] at hk; cases hk; cases e; omega)

set_option maxRecDepth 100000 in
set_option maxHeartbeats 8000000 in
theorem l5DrawC_any (g : Nat) (a : Option Addr) (cap : Nat) (zs : List Int) (p : Nat) (w : World) (h : Rd w g a cap zs p) (hp : p ≤ 10000000) :
    Calls Try.prog 31 #[.pointer (some ⟨g, 0, none⟩)] w (TreeDC 40 20 100 g a cap zs 200 p w) := by
  have hglt := h.lt
  have hal : Below w.heap.size w ((w.alloc (.cells #[.slice none 0 0] 32)).alloc (.cells #[.slice none 0 0] 32)) := ((Below.refl _ _).alloc (Nat.le_refl _) _).alloc (by simp) _
  have hL0 : LD5 g a cap zs w w.heap.size (w.heap.size + 1) none 0 [] p ((w.alloc (.cells #[.slice none 0 0] 32)).alloc (.cells #[.slice none 0 0] 32)) :=
    ⟨h.below hal, gr_below hal, by simp [go_sem], by simp [go_sem], by simp [go_sem], by simp [go_sem], EL.nil _ _ _, by omega⟩
  go_enter Try.func31, Try.ntmps31
  go_wp2_with fail
  refine (pick_any g a cap zs p 8 _ hL0.rd (by omega) (by omega) (by omega)).mono ?_
  rintro e w1 ⟨x, rfl, hx, hg1, hR1⟩
  have hL1 := hL0.step hg1 hR1
  clear hL0 hg1 hR1 hal
  obtain ⟨tb, htb⟩ : ∃ tb, tb = w.heap.size + 1 := ⟨_, rfl⟩
  obtain ⟨rs, hrs⟩ : ∃ rs, rs = w.heap.size := ⟨_, rfl⟩
  rw [← htb, ← hrs] at hL1
  rw [← htb]
  rw [← hrs]
  have HO : Keep (rs = w.heap.size ∧ tb = w.heap.size + 1) := ⟨⟨hrs, htb⟩⟩
  clear hrs htb
  go_wp2
  go_loopw [4] (fun q wr => ∃ (q' p' : Nat) (ad : Option Addr) (cp : Nat) (ts : List En), q = .int .i64 q' ∧ q' ≤ 7 ∧ p' + 20 * q' ≤ p + 141 ∧ LD5 g a cap zs w rs tb ad cp ts p' wr ∧ Keep (Asc ts ∧ Tiny 40 20 ts ∧ NilOk ad cp ∧ ts.length ≤ cp) ∧ ts.length ≤ 100) (fun q _ => (intOf q).toNat)
  case atStart => exact ⟨x, p + 1, none, 0, [], rfl, by omega, by omega, hL1, ⟨List.Pairwise.nil, fun e he => by simp at he, .inr ⟨rfl, rfl⟩, Nat.le_refl _⟩, Nat.zero_le _⟩
  case round =>
    clear hL1
    obtain ⟨q, p', ad, cp, ts, rfl, hq7, hpq, hL, HT, hn⟩ := hrel
    by_cases hq : 0 < q
    · have hq' : (0 : Int) < q := by omega
      obtain ⟨lo, hlo⟩ : ∃ lo, lo = wr.heap.size := ⟨_, rfl⟩
      have Q0 : QD lo g a cap zs w rs tb ad cp ts p' wr := ⟨hL, by omega⟩
      have htl : tb < lo := by rw [hlo]; exact hL.lt
      have hgl : g < lo := by have := hL.ord; omega
      have hw : w.heap.size ≤ tb := by have := HO.out; omega
      have hap : Keep (ts = [] ∨ ∃ k, blk ad = some k ∧ k < lo) := ⟨by
        rcases hL.el with h | ⟨k, rfl, _, hk, _⟩
        · exact .inl h
        · exact .inr ⟨k, rfl, by omega⟩⟩
      have HLO : Keep (lo = wr.heap.size) := ⟨hlo⟩
      have HL : Keep (LD5 g a cap zs w rs tb ad cp ts p' wr) := ⟨hL⟩
      clear hlo hL
      have hPth : ∀ (X : World) (p1 : Nat), QD lo g a cap zs w rs tb ad cp ts p1 X → p1 ≤ 100000000 → Calls Try.prog 61 #[.pointer (some ⟨g, 0, none⟩)] X fun e W' => ∃ s : ByteArray, e = .returned (.string s) ∧ s.size ≤ 40 ∧ X.grownBy W' (some g) ∧ ∃ p2, p2 ≤ p1 + 8 ∧ QD lo g a cap zs w rs tb ad cp ts p2 W' := fun X p1 hX hp1 =>
        (path_any g a cap zs p1 X hX.ld.rd hp1).mono (fun e W' ⟨s, he, hs, ⟨p2, hp2, hR2⟩, hg2⟩ => ⟨s, he, hs, hg2, p2, hp2, hX.step hg2 hR2⟩)
      have hTxt : ∀ (X : World) (p1 : Nat), QD lo g a cap zs w rs tb ad cp ts p1 X → p1 ≤ 100000000 → Calls Try.prog 62 #[.pointer (some ⟨g, 0, none⟩)] X fun e W' => ∃ s : ByteArray, e = .returned (.string s) ∧ s.size ≤ 20 ∧ X.grownBy W' (some g) ∧ ∃ p2, p2 ≤ p1 + 10 ∧ QD lo g a cap zs w rs tb ad cp ts p2 W' := fun X p1 hX hp1 =>
        (text_any g a cap zs p1 X hX.ld.rd hp1).mono (fun e W' ⟨s, he, hs, ⟨p2, hp2, hR2⟩, hg2⟩ => ⟨s, he, hs, hg2, p2, hp2, hX.step hg2 hR2⟩)
      have hPk4 : ∀ (X : World) (p1 : Nat), QD lo g a cap zs w rs tb ad cp ts p1 X → p1 ≤ 100000000 → Calls Try.prog 25 #[.pointer (some ⟨g, 0, none⟩), .int .i64 4] X fun e W' => ∃ x : Nat, e = .returned (.int .i64 x) ∧ X.grownBy W' (some g) ∧ ∃ p2, p2 ≤ p1 + 1 ∧ QD lo g a cap zs w rs tb ad cp ts p2 W' := fun X p1 hX hp1 =>
        (pick_any g a cap zs p1 4 X hX.ld.rd (by omega) (by omega) (by omega)).mono (fun e W' ⟨x, he, hx, hg2, hR2⟩ => ⟨x, he, hg2, p1 + 1, by omega, hX.step hg2 hR2⟩)
      have hPut : ∀ (X : World) (p1 : Nat) (en : En), QD lo g a cap zs w rs tb ad cp ts p1 X → Calls Try.prog 35 #[.agg #[.slice ad ts.length cp], .agg #[.string en.path, .string en.text, .bool en.runs]] X fun e W' => ∃ us c ad2 cp2, PutR ts en us c ∧ e = .returned (TreeV ad2 us.length cp2 c) ∧ EL X.heap.size W' ad2 us ∧ us.length ≤ cp2 ∧ X.grownBy W' (some g) ∧ QD lo g a cap zs w rs tb ad cp ts p1 W' := fun X p1 en hX =>
        (specPutC_any ad cp ts en X hX.ld.el.es (by omega)).mono (fun e W' ⟨us, c, hR, ⟨ad2, cp2, he, hel, hrm⟩, hb⟩ => ⟨us, c, ad2, cp2, hR, he, hel, hrm, gr_below hb, hX.step (gr_below hb) (hX.ld.rd.below hb)⟩)
      have c0 := HL.out.tc
      have c0a := fun o => (HL.out.al o).tc
      have q0 := Q0.drew
      go_upto_region 5 with fail
      go_cut [5, 6] (fun pv cc wx => CutPC g a cap zs w rs tb ad cp ts 40 20 (p' + 19) pv cc wx)
      case first =>
        rename_i K1 ha2 J1 K2 ha1 ha0
        clear ha2
        go_region_with (first | (go_at_call 61; refine (hPth _ p' ?_ (by omega)).mono ?_; (first | with_reducible exact q0 | with_reducible exact (Q0.al _).drew); rintro e wA ⟨sP, rfl, hsP, hgA, pA, hpA, QA⟩; (try (with_reducible have N := NC.newD (g := g) (lo := lo) Q0.sz hgA hgl)); have cA := QA.ld.tc; have cAa := fun o => (QA.al o).ld.tc) | (go_at_call 62; refine (hTxt _ pA ?_ (by omega)).mono ?_; (first | with_reducible exact QA | with_reducible exact QA.al _); rintro e wB ⟨sT, rfl, hsT, hgB, pB, hpB, QB⟩; (try (with_reducible have N := N.step hgB hgl)); (try (with_reducible have N := NC.newA (g := g) (lo := lo) QA.sz hgB hgl)); have cB := QB.ld.tc; have cBa := fun o => (QB.al o).ld.tc) | (go_at_call 25; refine (hPk4 _ pB ?_ (by omega)).mono ?_; (first | with_reducible exact QB | with_reducible exact QB.al _); rintro e wC ⟨xC, rfl, hgC, pC, hpC, QC⟩; obtain ⟨bC, hbC⟩ : ∃ bC, ((xC : Int) == 0) = bC := ⟨_, rfl⟩; (try (with_reducible have N := N.step hgC hgl)); (try (with_reducible have N := NC.newA (g := g) (lo := lo) QB.sz hgC hgl)); have cC := QC.ld.tc; have cCa := fun o => (QC.al o).ld.tc) | (go_at_call 35; refine (hPut _ pC ⟨sP, sT, _⟩ ?_).mono ?_; (first | with_reducible exact QC | with_reducible exact QC.al _); rintro e wD ⟨us, c, ad2, cp2, hR, rfl, hel, hroom, hgD, QE⟩; (try (have hnB := N.lt)); (try (with_reducible have N := N.step hgD hgl)); (try (with_reducible have N := NC.newA (g := g) (lo := lo) QC.sz hgD hgl)); (try (have n0 := N.cell; have nf := N.fz)); unfold TreeV))
        all_goals
          go_wp2_with fail
          go_meet
          case rel =>
            first
              | exact cutPC_mk hroom (fun e he => by rw [List.mem_singleton.1 he]; exact ⟨hsP, hsT⟩) hR hel (by first | exact QC.ld.lt | exact (QC.al _).ld.lt) QE.ld (by omega)
              | exact cutPC_mk' hroom (fun e he => by rw [List.mem_singleton.1 he]; exact ⟨hsP, hsT⟩) hR hel (by first | exact QC.ld.lt | exact (QC.al _).ld.lt) QE.ld (by omega) N (by first | exact hnB | simp) htl hw hap.out
      case rest =>
        obtain ⟨us, c, ad', cp', nc, p2, en, rfl, rfl, hTy, hR, hel, hnc, hL2, hp2, hroom⟩ := hcut
        clear hPth hTxt hPk4 hPut c0 c0a q0 Q0 HL
        by_cases hc : c = 0
        · have hB : (c == 0) = true := by simp [hc]
          rw [hc] at hR
          obtain ⟨ha1, ha2, ha3, ha4⟩ := put_asc hR
          have HT2 : Keep (Asc us ∧ Tiny 40 20 us ∧ NilOk ad' cp' ∧ us.length ≤ cp') := ⟨⟨ha1, fun x hx => by
            rcases ha4 x hx with rfl | h4
            · exact hTy x (by simp)
            · exact HT.out.2.1 x h4, NilOk.ne hel ha3, hroom⟩⟩
          have t1 := hL2.tc
          have t2 := hL2.tf
          have hL3 := hL2.put (cp' := cp') hel hw
          clear hR ha1 ha3 ha4 hel hL2 hc
          go_wp2
          go_roundw
          case rel => exact ⟨q - 1, p2, ad', cp', us, by congr 1; omega, by omega, by omega, hL3, HT2, ha2⟩
          case measure => simp only [intOf]; omega
        · have hB : (c == 0) = false := by simp [hc]
          clear hR hel hc
          go_wp2
          go_roundw
          case rel => exact ⟨q - 1, p2, ad, cp, ts, by congr 1; omega, by omega, by omega, hL2, HT, hn⟩
          case measure => simp only [intOf]; omega
    · obtain rfl : q = 0 := by omega
      have hw : w.heap.size ≤ tb := by have := HO.out; omega
      -- what is handed back
      have hend : ∀ (W : World) (ad : Option Addr) (cp : Nat) (ts : List En) (p2 : Nat), LD5 g a cap zs w rs tb ad cp ts p2 W → p2 ≤ p + 200 → EL w.heap.size (W.setCell ⟨rs, 0, none⟩ (.slice ad ts.length cp)) ad ts ∧ Dr g a cap zs w (W.setCell ⟨rs, 0, none⟩ (.slice ad ts.length cp)) p 200 := fun W ad cp ts p2 hL hp2 => by
        have hg : W.grownBy (W.setCell ⟨rs, 0, none⟩ (.slice ad ts.length cp)) (some rs) := grown_set W rs 0 _
        have o := hL.ord
        have ho := HO.out
        exact ⟨(hL.el.grown hg (fun k _ hk _ e => by cases e; omega)).mono (by omega), ⟨p2, hp2, hL.rd.kept hg (fun k e => by cases e; omega)⟩, gr_own hL.gr hg (fun j e => by cases e; omega)⟩
      go_wp2_with fail
      refine (pick_any g a cap zs p' 16 wr hL.rd (by omega) (by omega) (by omega)).mono ?_
      rintro e w2 ⟨y, rfl, hy, hg2, hR2⟩
      have hL2 := hL.step hg2 hR2
      clear hL hg2 hR2
      by_cases hy0 : y = 0
      · have hB : ((y : Int) == 0) = true := by simp; omega
        clear hy0
        go_wp2_with fail
        refine (pick_any g a cap zs (p' + 1) 3 w2 hL2.rd (by omega) (by omega) (by omega)).mono ?_
        rintro e w3 ⟨z, rfl, hz, hg3, hR3⟩
        have hL3 := hL2.step hg3 hR3
        clear hL2 hg3 hR3
        go_wp2
        go_loopw [8] (fun i wr => ∃ (k : Nat) (ad : Option Addr) (cp : Nat) (ts : List En), i = .int .i64 k ∧ Keep (HasZ k ts) ∧ k ≤ 100 ∧ LD5 g a cap zs w rs tb ad cp ts (p' + 1 + 1) wr ∧ Keep (Asc ts ∧ Tiny 40 20 ts ∧ NilOk ad cp ∧ ts.length ≤ cp) ∧ ts.length ≤ 100) (fun i _ => 101 - (intOf i).toNat)
        case atStart => exact ⟨0, ad, cp, ts, rfl, ⟨fun j hj => by omega⟩, Nat.zero_le _, hL3, HT, hn⟩
        case round =>
          clear hL3 HT hn
          obtain ⟨k, ad, cp, ts, rfl, HZ, hk, hL, HT, hn⟩ := hrel
          have t1 := hL.tc
          have t2 := hL.tf
          have hkl := HZ.out.count (by omega)
          by_cases hlt : (ts.length : Int) < 100 - z
          · have hk99 : k ≤ 99 := by omega
            have hcv := conv_two (97 + (k : Int) / 26) (97 + (k : Int) % 26) wr
            have hLa := hL.al (.cells #[.int .u8 (97 + (k : Int) / 26), .int .u8 (97 + (k : Int) % 26)] 5)
            have hset := l5SetC_any ad cp ts ⟨zp k, ⟨#[]⟩, false⟩ _ hLa.el.es (by omega) HT.out.1
            have hc3 : ¬ 9223372036854775807 < 1 + (strOfNums [97 + (k : Int) / 26, 97 + (k : Int) % 26]).size := by rw [strOfNums_size]; simp
            go_wp2_with fail
            refine hset.mono ?_
            rintro e w5 ⟨ad5, cap5, us5, rfl, hrel5, hel5, hb5, hlen5, hrm5⟩
            have hL5 := hLa.later hb5
            have t3 := hL5.tc
            have t4 := hL5.tf
            have hL6 := hL5.put (cp' := cap5) (hel5.mono hLa.lt) hw
            have HZ5 : Keep (HasZ (k + 1) us5) := ⟨HZ.out.set rfl hrel5⟩
            have HT5 : Keep (Asc us5 ∧ Tiny 40 20 us5 ∧ NilOk ad5 cap5 ∧ us5.length ≤ cap5) := ⟨⟨hrel5.asc, fun x hx => by
              rcases (hrel5.mem x).1 hx with rfl | ⟨h4, _⟩
              · exact ⟨by rw [zp_size]; omega, Nat.zero_le _⟩
              · exact HT.out.2.1 x h4, NilOk.ne hel5 (fun e0 => by
                have := (hrel5.mem _).2 (.inl rfl)
                rw [e0] at this
                cases this), hrm5⟩⟩
            clear hset hcv hLa hL hL5 t1 t2 hb5 hel5 hrel5 hc3
            go_wp2
            go_roundw
            case rel => exact ⟨k + 1, ad5, cap5, us5, by congr 1, HZ5, by omega, hL6, HT5, by omega⟩
            case measure => simp only [intOf]; omega
          · have t3 := hL.rc
            have t4 := hL.rf
            obtain ⟨he1, he2⟩ := hend wr ad cp ts (p' + 1 + 1) hL (by omega)
            clear hL
            go_wp2
            refine bodyPost_ret (v := .agg #[.slice ad ts.length cp]) ?_ rfl ⟨ad, cp, ts, rfl, he1, hn, HT.out.1, HT.out.2.1, HT.out.2.2.1, he2, HT.out.2.2.2⟩
            go_light
            simp [results, Try.results31, go_sem, t3]
      · have hB : ((y : Int) == 0) = false := by simp; omega
        clear hy0
        have t1 := hL2.tc
        have t2 := hL2.rf
        have t3 := hL2.rc
        obtain ⟨he1, he2⟩ := hend w2 ad cp ts (p' + 1) hL2 (by omega)
        go_wp2
        refine bodyPost_ret (v := .agg #[.slice ad ts.length cp]) ?_ rfl ⟨ad, cp, ts, rfl, he1, hn, HT.out.1, HT.out.2.1, HT.out.2.2.1, he2, HT.out.2.2.2⟩
        go_light
        simp [results, Try.results31, go_sem, t3]
theorem l5Draw_any (g : Nat) (a : Option Addr) (cap : Nat) (zs : List Int) (p : Nat) (w : World) (h : Rd w g a cap zs p) (hp : p ≤ 10000000) :
    Calls Try.prog 31 #[.pointer (some ⟨g, 0, none⟩)] w (TreeD 40 20 100 g a cap zs 200 p w) :=
  (l5DrawC_any g a cap zs p w h hp).mono (fun _ _ ⟨ad, cp, ts, h1, h2, h3, h4, h5, h6, h7, _⟩ => ⟨ad, cp, ts, h1, h2, h3, h4, h5, h6, h7⟩)
end Go.Proofs.Ytockgapdfcapnaa
