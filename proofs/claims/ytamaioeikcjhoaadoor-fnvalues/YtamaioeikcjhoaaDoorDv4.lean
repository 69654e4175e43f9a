/-
  Values that are drawn: spec.l2Big.
-/
import Derived.Test.YtamaioeikcjhoaaDoorDv3
import Derived.Test.YtamaioeikcjhoaaDoorDvS
namespace Go.Proofs.YtamaioeikcjhoaaDoor
open Go.RowKit

theorem AOk.take {N M : Nat} {ts : List At} (h : AOk N M ts) (k : Nat) : AOk (min k N) M (ts.take k) := by
  refine ⟨by rw [List.length_take]; have := h.1; omega, ?_, fun a ha => h.2.2 a (List.mem_of_mem_take ha)⟩
  have h2 := totalA_append (ts.take k) (ts.drop k)
  rw [List.take_append_drop] at h2
  have := h.2.1
  omega
theorem news_8 (w : World) (e f : At) (t : TypeId) (n : Nat) (hn : w.heap.size = n) : ∀ j u, (e.cells ++ f.cells)[j]? = some u → (w.alloc (.cells #[.int .i64 e.kind, .int .i64 e.n, .string e.text, .int .i64 e.kids, .int .i64 f.kind, .int .i64 f.n, .string f.text, .int .i64 f.kids] t)).cell? (Addr.add ⟨n, 0, none⟩ j) = some u := by
  intro j u hj
  subst hn
  rw [Go.WideShapes.add_plain, Nat.zero_add, World.cell?_alloc_new]
  match j, hj with
  | 0, hj => simpa [At.cells] using hj
  | 1, hj => simpa [At.cells] using hj
  | 2, hj => simpa [At.cells] using hj
  | 3, hj => simpa [At.cells] using hj
  | 4, hj => simpa [At.cells] using hj
  | 5, hj => simpa [At.cells] using hj
  | 6, hj => simpa [At.cells] using hj
  | 7, hj => simpa [At.cells] using hj

set_option maxRecDepth 20000 in
set_option maxHeartbeats 2000000 in
theorem big_any (more : Nat) (hm : more ≤ 1) (W : World) :
    Calls Tryd.prog 42 #[.int .i64 more] W fun e w' => VOwn W 1 70 102000 e w' := by
  obtain ⟨i0, hi, hz0, hz1, hzb⟩ := info_parts Tryd.infoAtom
  have hb1 : Below W.heap.size W (W.alloc (.cells #[.slice none 0 0] 24)) := (Below.refl _ _).alloc (Nat.le_refl _) _
  have hmany := many_any ⟨#[98]⟩ 1500 (W.alloc (.cells #[.slice none 0 0] 24)) (by show 1 * 1500 ≤ 1073741824; omega) (by omega) (by show 1 ≤ 1; omega) (by show 1 ≤ 1073741824; omega)
  go_enter Tryd.func42, Tryd.ntmps42
  go_wp2_with fail
  refine hmany.mono ?_
  rintro e wx ⟨o, rfl, hosz, rfl⟩
  clear hmany
  have ho : o.size = 1500 := by rw [hosz]; rfl
  have hwide := wide_any 66 o (by omega) (W.alloc (.cells #[.slice none 0 0] 24))
  rw [ho] at hwide
  clear hosz ho
  go_wp2_with fail
  refine hwide.mono ?_
  rintro e w1 ⟨gs, cs, ts, rfl, hown, hlen, hok, hb2⟩
  clear hwide
  have hl67 : ts.length = 67 := by have := hok.1; omega
  have hroom : 67 ≤ cs := by
    rcases hown.2 with ⟨h0, _⟩ | ⟨g', cap', cur, hv, _, _, h1, _⟩
    · cases h0
    · cases hv; omega
  have hgs : W.heap.size + 1 ≤ gs := by have := owns_base hown gs rfl; simpa using this
  have hgl : gs < w1.heap.size := own_lt hown rfl
  have hcut := row_cutA (k := 66) hown (by omega)
  have hr1 : w1.cell? ⟨W.heap.size, 0, none⟩ = some (.slice none 0 0) := cell_later hb2 (by simp)
  have hrf1 : w1.frozen? ⟨W.heap.size, 0, none⟩ = false := (hb2.frozen (p := ⟨W.heap.size, 0, none⟩) (by simp)).trans (by simp)
  have hbW : Below W.heap.size W w1 := hb1.trans (hb2.mono (by simp))
  have hWlt : W.heap.size < w1.heap.size := lt_of_cellR hr1
  have hV : VB W (w1.alloc (.cells #[.slice (some ⟨gs, 0, none⟩) 66 cs] 24)) W.heap.size w1.heap.size (.slice (some ⟨gs, 0, none⟩) 66 cs) (ts.take 66) := by
    have hA : Below w1.heap.size w1 (w1.alloc (.cells #[.slice (some ⟨gs, 0, none⟩) 66 cs] 24)) := (Below.refl _ _).alloc (Nat.le_refl _) _
    have hlo : W.heap.size ≤ (W.alloc (.cells #[.slice none 0 0] 24)).heap.size := by simp
    have hrow : (w1.alloc (.cells #[.slice (some ⟨gs, 0, none⟩) 66 cs] 24)).ownsRow W.heap.size 66 4 (.slice (some ⟨gs, 0, none⟩) 66 cs) 66 (acells (ts.take 66)) := owns_below (dk_low hcut hlo) hA
    have hnv : (Value.slice (some ⟨gs, 0, none⟩) 66 cs).ownBlock ≠ some w1.heap.size := fun e => by simp [Value.ownBlock] at e; omega
    have hnr : (Value.slice (some ⟨gs, 0, none⟩) 66 cs).ownBlock ≠ some W.heap.size := fun e => by simp [Value.ownBlock] at e; omega
    refine ⟨by simp, by simp, cell_later hA hr1, (hA.frozen (p := ⟨W.heap.size, 0, none⟩) hWlt).trans hrf1, ?_, hnv, hnr, by omega, hbW.alloc hbW.size _, hbW.size, Nat.le_refl _⟩
    rw [show (ts.take 66).length = 66 by rw [List.length_take]; omega]
    exact hrow
  have hok2 := RKeep.mk (hok.take 66)
  have hcl := cut_loA gs cs ts.length 66 (by omega) (by omega)
  have hct : ∀ w, (Instr.sliceAt 22 (.slice (some ⟨gs, 0, none⟩) ts.length cs) none (some (.int .i64 66)) none).run Tryd.prog w = .ok (.slice (some ⟨gs, 0, none⟩) 66 cs) w := hcl
  clear hok hcut hown hb2 hb1 hr1 hrf1 hcl hbW
  go_upto_region 4 with fail
  clear hct
  generalize w1.alloc (.cells #[.slice (some ⟨gs, 0, none⟩) 66 cs] 24) = wA at *
  generalize w1.heap.size = vb at *
  obtain ⟨k, hk⟩ : ∃ k : Nat, (100000 + (more : Int) - 99198 - 2) = (k : Int) + 3 := ⟨797 + more, by omega⟩
  rw [hk]
  have hkb : k ≤ 798 := by omega
  clear hk
  have hll : (ts.take 66).length = 66 := by rw [List.length_take]; omega
  obtain ⟨ys, hys⟩ : ∃ ys, ts.take 66 = ys := ⟨_, rfl⟩
  rw [hys] at hV hok2 hll
  clear hys hl67
  obtain ⟨rb, hrb⟩ : ∃ rb, W.heap.size = rb := ⟨_, rfl⟩
  have HR : RKeep (W.heap.size = rb) := ⟨hrb⟩
  have hV2 : VB W wA rb vb (.slice (some ⟨gs, 0, none⟩) 66 cs) ys := by rw [← hrb]; exact hV
  rw [hrb]
  clear hrb hV hgs hgl hWlt
  have hVd : ∀ o, VB W ((wA.alloc o).drew) rb vb (.slice (some ⟨gs, 0, none⟩) 66 cs) ys := fun o => hV2.below ((Below.refl _ _).alloc (Nat.le_refl _) _).drew
  have c := hV2.c
  have f := hV2.f
  have ca : ∀ o, (wA.alloc o).cell? ⟨vb, 0, none⟩ = some (.slice (some ⟨gs, 0, none⟩) 66 cs) := fun o => (hVd o).c
  have HM : RKeep (∀ w, Calls Tryd.prog 44 #[.string ⟨#[99]⟩, .int .i64 k] w fun e w' => ∃ o : ByteArray, e = .returned (.string o) ∧ o.size = k ∧ w = w') := ⟨fun w => (many_any ⟨#[99]⟩ k w (by show 1 * k ≤ 1073741824; omega) (by omega) (by show 1 ≤ 1; omega) (by show 1 ≤ 1073741824; omega)).mono fun e w' ⟨o, h1, h2, h3⟩ => ⟨o, h1, by rw [h2]; show 1 * k = k; omega, h3⟩⟩
  have hwk : IntKind.i64.wrap (k : Int) = k := by rw [IntKind.wrap_i64]; omega
  have hWA : W.heap.size ≤ wA.heap.size := hV2.bel.size
  go_region_law (first
    | (refine step_fn2V (by rfl) 44 _ _ _ _ (by rfl) (.string ⟨#[99]⟩) (.int .i64 k) (by rfl) (by rfl) (fun _ => by kernel_rfl) (HM.out _) ?_; rintro e wq ⟨o2, rfl, ho2, rfl⟩; refine ⟨_, rfl, ?_⟩)
    | (refine step_append_lies _ (by rfl) _ _ 22 (by rfl) W.heap.size 66 i0 _ 4 40 Tryd.underlying22 hi hz0 hz1 hzb rfl (by decide) (.slice (some ⟨gs, 0, none⟩) 66 cs) 66 (acells ys) (by rfl) (by have := (hVd (.cells #[.int .i64 3, .int .i64 0, .string o2, .int .i64 0, .int .i64 4, .int .i64 0, .string ⟨#[]⟩, .int .i64 67] 66)).row; rw [hll] at this; exact this) ⟨wA.heap.size, 0, none⟩ 2 2 ((textA o2).cells ++ (listA 67).cells) (by rfl) (by rfl) (by exact news_8 wA (textA o2) (listA 67) _ _ rfl) (by intro u hu; rcases List.mem_append.1 hu with h | h; exact one_4 _ u h; exact one_4 _ u h) (by omega) (by unfold maxLen; omega) (by omega) (by simp; omega) _ rfl ?_; intro g3 cap3 w3 hown3 hgrow3 hat3 hlt3; obtain ⟨hc3, hf3⟩ := (hVd (.cells #[.int .i64 3, .int .i64 0, .string o2, .int .i64 0, .int .i64 4, .int .i64 0, .string ⟨#[]⟩, .int .i64 67] 66)).mid hgrow3))
  all_goals
    have hF := (hVd (.cells #[.int .i64 3, .int .i64 0, .string o2, .int .i64 0, .int .i64 4, .int .i64 0, .string ⟨#[]⟩, .int .i64 67] 66)).app (n3 := 68) (us := [textA o2, listA 67]) hgrow3 (by simp [hll]) (by simpa [acells] using hown3) hat3
    have HK : RKeep (AOk 70 102000 (ys ++ [textA o2, listA 67])) := ⟨(hok2.out.append ((AOk.one (a := textA o2) okN).append (AOk.one (a := listA 67) okN))).mono (by omega) (by show 66 * 1500 + (o2.size + 0) ≤ 102000; omega)⟩
    clear hVd hV2 hown3 hgrow3 hat3 hlt3 hc3 hf3 ca c f HM hok2
    generalize w3.setCell ⟨vb, 0, none⟩ (.slice (some ⟨g3, 0, none⟩) 68 cap3) = w4 at *
    have c := hF.c
    have r := hF.r
    have rf := hF.rf
    have HP : RKeep (VOwn W 1 70 102000 (.returned (.agg #[.slice (some ⟨g3, 0, none⟩) 68 cap3])) (w4.setCell ⟨rb, 0, none⟩ (.slice (some ⟨g3, 0, none⟩) 68 cap3))) := ⟨hF.done (by simp [hll]) (by simp) HK.out⟩
    have k0 : (w4.setCell ⟨rb, 0, none⟩ (.slice (some ⟨g3, 0, none⟩) 68 cap3)).cell? ⟨rb, 0, none⟩ = some (.slice (some ⟨g3, 0, none⟩) 68 cap3) := World.cell?_setCell_same _ _ _ r
    clear hF HK
    go_wp2
    refine bodyPost_ret (v := .agg #[.slice (some ⟨g3, 0, none⟩) 68 cap3]) ?_ rfl HP.out
    go_light
    simp [results, Tryd.results42, go_sem, k0]
end Go.Proofs.YtamaioeikcjhoaaDoor
