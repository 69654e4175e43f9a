/-
  impl's write: lists and records.
-/
import Derived.Test.YtamaioeikcjhoaaDoorWrite
namespace Go.Proofs.YtamaioeikcjhoaaDoor
open Go.RowKit

theorem formL_take_le (ks : List T) (k : Nat) : (formL (ks.take k)).length ≤ (formL ks).length := by
  have := formL_append (ks.take k) (ks.drop k)
  rw [List.take_append_drop] at this
  rw [this, List.length_append]
  omega
theorem below_cell {B : Nat} {w w' : World} (h : Below B w w') {b o : Nat} {v : Value} (hb : b < B) (hc : w.cell? ⟨b, o, none⟩ = some v) : w'.cell? ⟨b, o, none⟩ = some v := (World.cell?_of_block (w := w) (h.block b hb)).trans hc

set_option maxRecDepth 20000 in
set_option maxHeartbeats 2000000 in
theorem write_list (ks : List T) (ih : ∀ t ∈ ks, WriteAt t) : WriteAt (.list ks) := by
  intro w ok v fv n base xs h hok hbase hown hn
  simp only [Rep.list] at h
  obtain ⟨ad, cap, rfl, h300, hr⟩ := h
  obtain ⟨i0, hi, hz0, hz1, hz2⟩ := info_parts Tryd.infoByte
  simp only [T.form_list, List.length_cons, List.length_append] at hn
  refine ⟨_, _, _, rfl, mw_list _, cw_list _, ?_⟩
  simp only [T.form_list]
  have hne : some w.heap.size ≠ fv.ownBlock := fun e => by have := own_lt hown e.symm; omega
  have hsl := shortL_le (n := ks.length) (by omega)
  have hn1 : n + 1 ≤ 1099511627776 := by omega
  have HN : Hid (n + ((shortL ks.length).length + (formL ks).length + 1) ≤ 1099511627776) := hn
  clear hn
  have HW : Hid (IntKind.u64.wrap (ks.length : Int) = (ks.length : Int)) := by
    have : IntKind.u64.wrap (ks.length : Int) = (ks.length : Int) := by rw [wrap_u]; omega
    exact this
  go_enter Tryd.func110, Tryd.ntmps110
  go_wp2_with fail
  go_region_held3 (fun w' => w'.cell? ⟨w.heap.size, 0, none⟩ = some (.slice ad ks.length cap)) (first | go_keep | (exact hgrow1.cell (by assumption) hne) | (exact hg2.1.cell (by assumption) (ne_lies hne hat1 (by show w.heap.size < w.heap.size + 2; omega))))
    ((first | (go_at_call 104; rw [HW.out]; refine (appendShort_any _ _ ks.length base _ _ hown1 (by omega) hn1 (by have := hgrow1.size; simp at this; omega)).mono ?_; rintro e w2 ⟨v2, rfl, hown2, hg2⟩) | (refine step_append_lies _ (by rfl) _ _ 30 (by rfl) base 5 i0 _ 1 1 Tryd.underlying30 hi hz0 hz1 hz2 rfl (by decide) fv n xs (by rfl) (by exact ((hown.alloc _).alloc _).drew) ⟨w.heap.size + 1, 0, none⟩ 1 1 [.int .u8 4] (by rfl) (by rfl) (by exact news_1 _ _ _ _ (by simp)) (by simp [Value.oneCell']) (by omega) (by unfold maxLen; omega) (by omega) (by simp; omega) (w.heap.size + 2) (by simp) ?_; intro g1 cap1 w1 hown1 hgrow1 hat1 hlt1)))
  have hb1 : Below base w w1 := (((Below.refl _ _).alloc hbase _).alloc (by simp; omega) _).drew.grown hgrow1 (by simp; omega) (owns_base hown)
  have hb2 : Below base w w2 := hb1.grown hg2.1 (Nat.le_trans hbase hb1.size) (owns_base hown1)
  have hown2' := own_end (b := 4) rfl hown2
  clear hown2 hown1 hgrow1 hat1 hlt1 hg2 hb1
  go_wp2
  go_loopw [1, 18] (fun fv' i wr => ∃ (k : Nat) (l : List UInt8), k ≤ ks.length ∧ i = .int .i64 k ∧ l = 4 :: (shortL ks.length ++ formL (ks.take k)) ∧ wr.ownsRow base 5 1 fv' (n + l.length) (xs ++ bc l) ∧ Below base w wr) (fun _ i _ => ks.length - (intOf i).toNat)
  case atStart =>
    refine ⟨0, _, Nat.zero_le _, rfl, rfl, ?_, hb2⟩
    simpa [formL] using hown2'
  case round =>
    obtain ⟨k, l, hk, rfl, hl, hownr, hb⟩ := hrel
    have HL : Hid (l = 4 :: (shortL ks.length ++ formL (ks.take k))) := hl
    clear hl
    by_cases hlt : k < ks.length
    · obtain ⟨b, rfl, hbk, hrl⟩ := hr.resolve_left (by omega)
      obtain ⟨u, hc, hu⟩ := hrl.get k hlt
      rw [Nat.zero_add] at hc
      have c := below_cell hb (hok b hbk) hc
      have hu' := Rep.mono (w' := wr) (ok' := ok) (fun b hb' => hb.block b (hok b hb')) (fun _ h => h) _ _ hu
      have HL' : Hid (4 :: (shortL ks.length ++ formL (ks.take (k + 1))) = l ++ ks[k].form) := by
        have : 4 :: (shortL ks.length ++ formL (ks.take (k + 1))) = l ++ ks[k].form := by rw [HL.out, formL_take ks k hlt]; simp
        exact this
      have hlen : n + l.length + ks[k].form.length ≤ 1099511627776 := by
        have e := congrArg List.length HL'.out
        have e2 := formL_take_le ks (k + 1)
        have e3 := HN.out
        simp only [List.length_cons, List.length_append] at e
        omega
      obtain ⟨TT, F, x, rfl, hme, hcf, hcall⟩ := ih ks[k] (List.getElem_mem hlt) wr ok u u1 (n + l.length) base (xs ++ bc l) hu' hok (Nat.le_trans hbase hb.size) hownr hlen
      generalize ks[k].form = fk at *
      clear hr hrl hu hu' ih hc
      go_wp2_with fail
      refine hcall.mono ?_
      rintro e w3 ⟨v3, rfl, hown3, hb3⟩
      clear hcall hme hcf
      go_wp2
      go_roundw
      case rel =>
        refine ⟨k + 1, l ++ fk, by omega, by go_num, HL'.out.symm, ?_, hb.trans hb3⟩
        rw [List.length_append, bc_append, ← List.append_assoc, ← Nat.add_assoc]
        exact hown3
      case measure => simp [intOf]; omega
    · obtain rfl : k = ks.length := by omega
      clear ih hr
      go_wp2
      go_ret
      refine ⟨_, rfl, ?_, hb⟩
      have e := HL.out
      rw [List.take_length] at e
      rw [← e]
      exact hownr

theorem formF_take_le (ns : List ByteArray) (vs : List T) (k : Nat) (hk : k ≤ vs.length) : (formF ns (vs.take k)).length ≤ (formF ns vs).length := by
  have step : ∀ d, k + d ≤ vs.length → (formF ns (vs.take k)).length ≤ (formF ns (vs.take (k + d))).length := by
    intro d
    induction d with
    | zero => intro _; exact Nat.le_refl _
    | succ d ihd =>
      intro h
      have e := formF_take ns vs (k + d) (by omega)
      have := ihd (by omega)
      rw [← Nat.add_assoc, e, List.length_append]
      omega
  have := step (vs.length - k) (by omega)
  rw [show k + (vs.length - k) = vs.length by omega, List.take_length] at this
  exact this

/-- The callee is the value's own, whatever the world. -/
theorem write_fun {t : T} (ih : WriteAt t) {w : World} {ok : Nat → Prop} {v fv : Value} {n base : Nat} {xs : List Value} (h : Rep w ok t v) (hok : ∀ b, ok b → b < base) (hbase : base ≤ w.heap.size) (hown : w.ownsRow base 5 1 fv n xs) (hn : n + t.form.length ≤ 1099511627776) :
    ∃ TT F x, v = .iface TT x ∧ (∀ w, (method 274 TT x "loop.example/kilntree/impl.write").run Tryd.prog w = .ok (F, x) w) ∧ (∀ fv w, (callFunc F #[x, fv]).run Tryd.prog w = .ok (.enter F #[x, fv]) w) ∧
      ∀ (w' : World) (fv' : Value) (n' : Nat) (xs' : List Value), Rep w' ok t v → base ≤ w'.heap.size → w'.ownsRow base 5 1 fv' n' xs' → n' + t.form.length ≤ 1099511627776 → Calls Tryd.prog F #[x, fv'] w' fun e w2 => WPost base w' n' xs' t.form e w2 := by
  obtain ⟨TT, F, x, rfl, hme, hcf, _⟩ := ih w ok v fv n base xs h hok hbase hown hn
  refine ⟨TT, F, x, rfl, hme, hcf, fun w' fv' n' xs' h' hb' ho' hn' => ?_⟩
  obtain ⟨TT', F', x', hv, hme', _, hcall⟩ := ih w' ok _ fv' n' base xs' h' hok hb' ho' hn'
  simp only [Value.iface.injEq] at hv
  obtain ⟨rfl, rfl⟩ := hv
  have e := (hme w).symm.trans (hme' w)
  simp at e
  subst e
  exact hcall

set_option maxRecDepth 20000 in
set_option maxHeartbeats 2000000 in
theorem write_rec (ns : List ByteArray) (ks : List T) (ih : ∀ t ∈ ks, WriteAt t) : WriteAt (.recd ns ks) := by
  intro w ok v fv n base xs h hok hbase hown hn
  simp only [Rep.recd] at h
  obtain ⟨ad, cap, rfl, _, h300, hr⟩ := h
  obtain ⟨i0, hi, hz0, hz1, hz2⟩ := info_parts Tryd.infoByte
  simp only [T.form_recd, List.length_cons, List.length_append] at hn
  refine ⟨_, _, _, rfl, mw_rec _, cw_rec _, ?_⟩
  simp only [T.form_recd]
  have hne : some w.heap.size ≠ fv.ownBlock := fun e => by have := own_lt hown e.symm; omega
  have hsl := shortL_le (n := ks.length) (by omega)
  have hn1 : n + 1 ≤ 1099511627776 := by omega
  have HN : Hid (n + ((shortL ks.length).length + (formF ns ks).length + 1) ≤ 1099511627776) := hn
  clear hn
  have HW : Hid (IntKind.u64.wrap (ks.length : Int) = (ks.length : Int)) := by
    have : IntKind.u64.wrap (ks.length : Int) = (ks.length : Int) := by rw [wrap_u]; omega
    exact this
  go_enter Tryd.func112, Tryd.ntmps112
  go_wp2_with fail
  go_region_held3 (fun w' => w'.cell? ⟨w.heap.size, 0, none⟩ = some (.slice ad ks.length cap)) (first | go_keep | (exact hgrow1.cell (by assumption) hne) | (exact hg2.1.cell (by assumption) (ne_lies hne hat1 (by show w.heap.size < w.heap.size + 2; omega))))
    ((first | (go_at_call 104; rw [HW.out]; refine (appendShort_any _ _ ks.length base _ _ hown1 (by omega) hn1 (by have := hgrow1.size; simp at this; omega)).mono ?_; rintro e w2 ⟨v2, rfl, hown2, hg2⟩) | (refine step_append_lies _ (by rfl) _ _ 30 (by rfl) base 5 i0 _ 1 1 Tryd.underlying30 hi hz0 hz1 hz2 rfl (by decide) fv n xs (by rfl) (by exact ((hown.alloc _).alloc _).drew) ⟨w.heap.size + 1, 0, none⟩ 1 1 [.int .u8 5] (by rfl) (by rfl) (by exact news_1 _ _ _ _ (by simp)) (by simp [Value.oneCell']) (by omega) (by unfold maxLen; omega) (by omega) (by simp; omega) (w.heap.size + 2) (by simp) ?_; intro g1 cap1 w1 hown1 hgrow1 hat1 hlt1)))
  have hb1 : Below base w w1 := (((Below.refl _ _).alloc hbase _).alloc (by simp; omega) _).drew.grown hgrow1 (by simp; omega) (owns_base hown)
  have hb2 : Below base w w2 := hb1.grown hg2.1 (Nat.le_trans hbase hb1.size) (owns_base hown1)
  have hown2' := own_end (b := 5) rfl hown2
  clear hown2 hown1 hgrow1 hat1 hlt1 hg2 hb1
  go_wp2
  go_loopw [1, 18] (fun fv' i wr => ∃ (k : Nat) (l : List UInt8), k ≤ ks.length ∧ i = .int .i64 k ∧ l = 5 :: (shortL ks.length ++ formF ns (ks.take k)) ∧ wr.ownsRow base 5 1 fv' (n + l.length) (xs ++ bc l) ∧ Below base w wr) (fun _ i _ => ks.length - (intOf i).toNat)
  case atStart =>
    refine ⟨0, _, Nat.zero_le _, rfl, rfl, ?_, hb2⟩
    simpa [formF] using hown2'
  case round =>
    obtain ⟨k, l, hk, rfl, hl, hownr, hb⟩ := hrel
    have HL : Hid (l = 5 :: (shortL ks.length ++ formF ns (ks.take k))) := hl
    clear hl
    by_cases hlt : k < ks.length
    · obtain ⟨b, rfl, hbk, hrl⟩ := hr.resolve_left (by omega)
      obtain ⟨hc0, u, hc, hu⟩ := hrl.get k hlt
      rw [Nat.zero_add, Nat.mul_comm] at hc hc0
      have c := below_cell hb (hok b hbk) hc
      have c0 := below_cell hb (hok b hbk) hc0
      have hu' := Rep.mono (w' := wr) (ok' := ok) (fun b hb' => hb.block b (hok b hb')) (fun _ h => h) _ _ hu
      have HL' : Hid (5 :: (shortL ks.length ++ formF ns (ks.take (k + 1))) = l ++ (shortL (ns.getD k ⟨#[]⟩).size ++ (ns.getD k ⟨#[]⟩).data.toList) ++ ks[k].form) := by
        have : 5 :: (shortL ks.length ++ formF ns (ks.take (k + 1))) = l ++ (shortL (ns.getD k ⟨#[]⟩).size ++ (ns.getD k ⟨#[]⟩).data.toList) ++ ks[k].form := by rw [HL.out, formF_take ns ks k hlt]; simp
        exact this
      have hsz : (ns.getD k ⟨#[]⟩).data.toList.length = (ns.getD k ⟨#[]⟩).size := by rw [Array.length_toList]; rfl
      have hlen : n + l.length + (shortL (ns.getD k ⟨#[]⟩).size ++ (ns.getD k ⟨#[]⟩).data.toList).length + ks[k].form.length ≤ 1099511627776 := by
        have e := congrArg List.length HL'.out
        have e2 := formF_take_le ns ks (k + 1) hlt
        have e3 := HN.out
        simp only [List.length_cons, List.length_append] at e ⊢
        omega
      have hnl : n + l.length ≤ 1099511627776 := by omega
      have hnk : (ns.getD k ⟨#[]⟩).size ≤ 1099511627776 := by rw [List.length_append, hsz] at hlen; omega
      clear hsz
      have hbu : base ≤ wr.heap.size := Nat.le_trans hbase hb.size
      obtain ⟨TT, F, x, rfl, hme, hcf, hcall⟩ := write_fun (ih ks[k] (List.getElem_mem hlt)) hu' hok hbu hownr (by omega)
      generalize ns.getD k ⟨#[]⟩ = nk at *
      have HLEN : Hid (n + l.length + (shortL nk.size ++ nk.data.toList).length + ks[k].form.length ≤ 1099511627776) := hlen
      have HREP : Hid (Rep wr ok ks[k] (.iface TT x)) := hu'
      have HCALL : Hid (∀ (w' : World) (fv' : Value) (n' : Nat) (xs' : List Value), Rep w' ok ks[k] (.iface TT x) → base ≤ w'.heap.size → w'.ownsRow base 5 1 fv' n' xs' → n' + ks[k].form.length ≤ 1099511627776 → Calls Tryd.prog F #[x, fv'] w' fun e w2 => WPost base w' n' xs' ks[k].form e w2) := hcall
      have hneb : some wr.heap.size ≠ u1.ownBlock := fun e => by have := own_lt hownr e.symm; omega
      clear hr hrl hu hu' ih hc hc0 hcall hlen
      generalize ks[k].form = fk at *
      go_wp2_with fail
      go_region_with (first | (go_at_call 108; refine (appendText_any u1 (n + l.length) base (xs ++ bc l) nk _ ?_ hnk hnl ?_).mono ?_; exact (hownr.alloc _).drew; exact (by simp; omega); rintro e w3 ⟨v3, rfl, hown3, hg3⟩; have d0 : w3.cell? ⟨wr.heap.size, 0, none⟩ = some (.string nk) := hg3.cell (by exact World.cell?_alloc_new _ _ _ _) hneb; have d1 : w3.cell? ⟨wr.heap.size, 1, none⟩ = some (.iface TT x) := hg3.cell (by exact World.cell?_alloc_new _ _ _ _) hneb; have hb3 : Below base wr w3 := ((Below.refl _ _).alloc hbu _).drew.grown hg3 (by simp; omega) (owns_base hownr)) | (refine (HCALL.out w3 v3 _ _ ?_ ?_ hown3 HLEN.out).mono ?_; exact Rep.mono (fun b hb' => hb3.block b (hok b hb')) (fun _ h => h) _ _ HREP.out; exact Nat.le_trans hbu hb3.size; rintro e w4 ⟨v4, rfl, hown4, hb4⟩))
      all_goals
        have R : ∃ (k_1 : Nat) (l_1 : List UInt8), k_1 ≤ ks.length ∧ Value.int .i64 ((k : Int) + 1) = .int .i64 (k_1 : Int) ∧ l_1 = 5 :: (shortL ks.length ++ formF ns (ks.take k_1)) ∧ w4.ownsRow base 5 1 v4 (n + l_1.length) (xs ++ bc l_1) ∧ Below base w w4 := by
          refine ⟨k + 1, l ++ (shortL nk.size ++ nk.data.toList) ++ fk, by omega, by go_num, HL'.out.symm, ?_, hb.trans (hb3.trans hb4)⟩
          rw [List.length_append, List.length_append, bc_append, bc_append, ← List.append_assoc, ← List.append_assoc, ← Nat.add_assoc, ← Nat.add_assoc]
          exact hown4
        clear hown4 hown3 hownr hg3 hb3 hb4
        go_wp2
        go_roundw
        case rel => exact R
        case measure => simp [intOf]; omega
    · obtain rfl : k = ks.length := by omega
      clear ih hr
      go_wp2
      go_ret
      refine ⟨_, rfl, ?_, hb⟩
      have e := HL.out
      rw [List.take_length] at e
      rw [← e]
      exact hownr
end Go.Proofs.YtamaioeikcjhoaaDoor
