/-
  impl.outermost, impl.ValidValue.
-/
import Derived.Test.YtdjpohkionapiaaBase
import Derived.Test.YtdjpohkionapiaaNest
namespace Go.Proofs.Ytdjpohkionapiaa
open Go.RowKit

/-- The stack of parts in memory. -/
structure Stk (B : Nat) (w : World) (v : Value) (st : List T) (vs : List Value) : Prop where
  len : vs.length = st.length
  own : w.ownsRow B 45 1 v st.length vs
  rep : ∀ i (h : i < st.length) (h' : i < vs.length), Rep w (fun b => b < w.heap.size ∧ some b ≠ v.ownBlock) st[i] vs[i]

def OutPost (ts : List At) (w' : World) (p : Value) (b : Bool) : Prop :=
  (b = false ∧ p = .nilIface ∧ valT ts = none) ∨ (b = true ∧ ∃ t, valT ts = some t ∧ Rep w' (fun x => x < w'.heap.size) t p)

theorem tail_any (ad : Option Addr) (n cp q : Nat) (hq : q ≤ n) : ∃ X, (∀ w, (Instr.slice 55 (.slice ad n cp) (some (.int .i64 ((n : Int) - (q : Int)))) none none).run Try.prog w = .ok (.slice X q (cp - (n - q))) w) ∧ (X = none → ad = none) ∧ (∀ g, ad = some ⟨g, 0, none⟩ → 0 < q → n ≤ cp → X = some ⟨g, n - q, none⟩) := by
  have hu : Try.prog.underlying 55 = some (.slice (Try.prog.elem 55)) := by kernel_rfl
  have hsz : ∀ w, ((sizeOf (Try.prog.elem 55)).run Try.prog w) = .ok 1 w := fun _ => by kernel_rfl
  have e : ((n : Int) - (q : Int)).toNat = n - q := by omega
  have e2 : n - (n - q) = q := by omega
  refine ⟨match sliced ad (n - q) n cp 1 with | .slice X _ _ => X | _ => none, fun w => ?_, ?_, ?_⟩
  · rw [run_slice_l w 55 ad n cp hu .i64 _ (by omega) (by omega), hsz, e]
    cases ad <;> simp [sliced, e2]
  · cases ad with
    | none => intro _; rfl
    | some x => simp only [sliced]; split <;> simp
  · rintro g rfl h0 hc
    have h1 : ¬ cp = n - q := by omega
    simp only [sliced, if_neg h1, Option.map_some, Nat.mul_one, Go.WideShapes.add_plain, Nat.zero_add]
theorem head_any (ad : Option Addr) (n cp q : Nat) (hq : q ≤ n) (hc : n ≤ cp) (w : World) : (Instr.slice 55 (.slice ad n cp) none (some (.int .i64 ((n : Int) - (q : Int)))) none).run Try.prog w = .ok (.slice ad (n - q) cp) w := by
  have hu : Try.prog.underlying 55 = some (.slice (Try.prog.elem 55)) := by kernel_rfl
  have hsz : ∀ w, ((sizeOf (Try.prog.elem 55)).run Try.prog w) = .ok 1 w := fun _ => by kernel_rfl
  have e : ((n : Int) - (q : Int)).toNat = n - q := by omega
  rw [run_slice_h w 55 ad n cp hu .i64 _ (by omega) (by omega), hsz, e]
  cases ad <;> simp [sliced, Addr.add]

theorem own_same (ad : Option Addr) (n m cp : Nat) : (Value.slice ad n cp).ownBlock = (Value.slice ad m cp).ownBlock := by cases ad <;> rfl

theorem owns_take {w : World} {B : Nat} {e : TypeId} {ad : Option Addr} {n cp m : Nat} {vs : List Value} (h : w.ownsRow B e 1 (.slice ad n cp) n vs) (hm : m ≤ n) : w.ownsRow B e 1 (.slice ad m cp) m (vs.take m) := by
  have hl := h.1
  refine ⟨by simp; omega, ?_⟩
  rcases h.2 with ⟨hv, h0⟩ | ⟨g, c, cur, hv, h1, h2, h3, h4, h5, h6⟩
  · simp at hv
    obtain ⟨rfl, rfl, rfl⟩ := hv
    exact .inl ⟨by rw [show m = 0 by omega], by omega⟩
  · simp only [Value.slice.injEq, true_and] at hv
    obtain ⟨rfl, rfl⟩ := hv
    refine .inr ⟨g, cp, cur, rfl, h1, h2, by omega, h4, h5, ?_⟩
    rw [← h6, List.take_take, Nat.mul_one, Nat.mul_one, Nat.min_eq_left hm]



theorem stk_push {B : Nat} {wr w2 w3 : World} {ad : Option Addr} {cp q : Nat} {st : List T} {vs : List Value} {t : T} {p : Value} {o : Obj} {g2 cap2 : Nat}
    (hS : Stk B wr (.slice ad st.length cp) st vs) (hq : q ≤ st.length) (hb : Below wr.heap.size wr w2)
    (hp : Rep w2 (fun x => (x < wr.heap.size ∧ some x ≠ (Value.slice ad st.length cp).ownBlock) ∨ (wr.heap.size ≤ x ∧ x < w2.heap.size)) t p)
    (hown3 : w3.ownsRow B 45 1 (.slice (some ⟨g2, 0, none⟩) (st.length - q + 1) cap2) (st.length - q + 1) (vs.take (st.length - q) ++ [p]))
    (hgrow : (w2.alloc o).grownBy w3 (Value.slice ad (st.length - q) cp).ownBlock) (hat : (Value.slice ad (st.length - q) cp).ownBlock = some g2 ∨ g2 = w2.heap.size + 1) :
    Stk B w3 (.slice (some ⟨g2, 0, none⟩) (st.take (st.length - q) ++ [t]).length cap2) (st.take (st.length - q) ++ [t]) (vs.take (st.length - q) ++ [p]) := by
  have hl : (st.take (st.length - q) ++ [t]).length = st.length - q + 1 := by simp
  have hvl := hS.len
  rw [own_same ad (st.length - q) st.length cp] at hgrow hat
  have hsz := hb.size
  have hgs := hgrow.size
  simp at hgs
  have keep : ∀ x, x < w2.heap.size → some x ≠ (Value.slice ad st.length cp).ownBlock → w3.heap[x]? = w2.heap[x]? := fun x hx hne => by
    rw [hgrow.block x (by simp; omega) hne]
    exact Below.heap_alloc _ _ _ hx
  have fine : ∀ x, x < w2.heap.size → some x ≠ (Value.slice ad st.length cp).ownBlock → x < w3.heap.size ∧ some x ≠ (Value.slice (some ⟨g2, 0, none⟩) (st.length - q + 1) cap2).ownBlock := fun x hx hne => by
    refine ⟨by omega, fun e => ?_⟩
    have e' : x = g2 := by simpa [Value.ownBlock] using e
    subst e'
    rcases hat with h | h
    · exact hne h.symm
    · omega
  refine ⟨by simp; omega, by rw [hl]; exact hown3, fun i h h' => ?_⟩
  rw [hl]
  by_cases hi : i < st.length - q
  · rw [List.getElem_append_left (by simp; omega), List.getElem_append_left (by simp; omega), List.getElem_take, List.getElem_take]
    refine Rep.mono (fun x hx => ?_) (fun x hx => fine x (by omega) hx.2) _ _ (hS.rep i (by omega) (by omega))
    rw [keep x (by omega) hx.2, hb.block x hx.1]
  · have hi' : i = st.length - q := by omega
    subst hi'
    rw [List.getElem_append_right (by simp), List.getElem_append_right (by simp; omega)]
    simp only [List.length_take, hvl, Nat.min_eq_left (Nat.sub_le _ _), Nat.sub_self, List.getElem_cons_zero]
    have hne : ∀ x, ((x < wr.heap.size ∧ some x ≠ (Value.slice ad st.length cp).ownBlock) ∨ (wr.heap.size ≤ x ∧ x < w2.heap.size)) → x < w2.heap.size ∧ some x ≠ (Value.slice ad st.length cp).ownBlock := fun x hx => by
      rcases hx with hx | hx
      · exact ⟨by omega, hx.2⟩
      · refine ⟨hx.2, fun e => ?_⟩
        have := own_lt hS.own e.symm
        omega
    exact Rep.mono (fun x hx => keep x (hne x hx).1 (hne x hx).2) (fun x hx => fine x (hne x hx).1 (hne x hx).2) _ _ hp

set_option maxRecDepth 20000 in
set_option maxHeartbeats 2000000 in
theorem outermost_any (a : Option Addr) (cap : Nat) (ts : List At) (w : World) (hss : AS w a ts) (hlen : ts.length ≤ maxLen) (hm : ∀ s ∈ ts, s.text.size ≤ maxLen) :
    Calls Try.prog 17 #[.agg #[.slice a ts.length cap]] w fun e w' => ∃ p b, e = .returned (.tuple #[p, .bool b]) ∧ Below w.heap.size w w' ∧ OutPost ts w' p b := by
  obtain ⟨i0, hi, hz0, hz1, hz2⟩ := info_parts Try.infoPart
  unfold maxLen at hlen
  by_cases hbig : (300 : Int) < ts.length
  · go_enter Try.func17, Try.ntmps17
    go_wp2
    go_ret2
    exact ⟨_, false, rfl, (Below.refl _ _).alloc (Nat.le_refl _) _, .inl ⟨rfl, rfl, by unfold valT; rw [if_neg (by omega)]⟩⟩
  · have hbB : decide ((300 : Int) < ts.length) = false := by simpa using hbig
    go_enter Try.func17, Try.ntmps17
    go_wp2
    go_loopw [4, 17] (fun v i wr => ∃ (k : Nat) (st : List T) (vs : List Value), k ≤ ts.length ∧ i = .int .i64 k ∧ bldT (ts.take k) = some st ∧ st.length ≤ k ∧ Stk w.heap.size wr v st vs ∧ Below w.heap.size w wr) (fun _ i _ => ts.length - (intOf i).toNat)
    case atStart => exact ⟨0, [], [], Nat.zero_le _, rfl, rfl, Nat.le_refl _, ⟨rfl, World.ownsRow_nil _ _ _ _, fun i h => absurd h (by simp)⟩, (Below.refl _ _).alloc (Nat.le_refl _) _⟩
    case round =>
      obtain ⟨k, st, vs, hk, rfl, hbld, hstk, hS, hb⟩ := hrel
      have HB : Hid (bldT (ts.take k) = some st) := hbld
      clear hbld
      by_cases hlt : k < ts.length
      · obtain ⟨b, off, rfl, hc⟩ := (hss.below hb).at hlt
        obtain ⟨c0, c1, c2, c3⟩ := hc k hlt
        clear hc
        obtain ⟨ad, cp, rfl⟩ := owns_slice hS.own
        by_cases hbad : ts[k].kids < 0 ∨ (st.length : Int) < ts[k].kids
        · have hnone : Hid (valT ts = none) := valT_none_of ts (k + 1) hlt (by rw [bldT_take ts k hlt, HB.out]; simp only [Option.bind_some, stepT]; rw [if_neg (by omega)])
          clear HB hS
          by_cases h0 : ts[k].kids < 0
          · have hd0 : decide (ts[k].kids < 0) = true := by simpa using h0
            clear hbad h0
            go_wp2
            go_ret2
            exact ⟨_, false, rfl, hb.alloc hb.size _, .inl ⟨rfl, rfl, hnone.out⟩⟩
          · have h1 : (st.length : Int) < ts[k].kids := hbad.resolve_left h0
            have hd0 : decide (ts[k].kids < 0) = false := by simpa using h0
            have hd1 : decide ((st.length : Int) < ts[k].kids) = true := by simpa using h1
            clear hbad h0 h1
            go_wp2
            go_ret2
            exact ⟨_, false, rfl, hb.alloc hb.size _, .inl ⟨rfl, rfl, hnone.out⟩⟩
        · obtain ⟨h0, h1⟩ : 0 ≤ ts[k].kids ∧ ts[k].kids ≤ st.length := by omega
          have hd0 : decide (ts[k].kids < 0) = false := by simpa using h0
          have hd1 : decide ((st.length : Int) < ts[k].kids) = false := by simpa using h1
          clear hbad
          have hmt := hm ts[k] (List.getElem_mem hlt)
          have HST : Hid (bldT (ts.take (k + 1)) = stepT ts[k] st) := by
            have := bldT_take ts k hlt
            rw [HB.out] at this
            exact this
          generalize ts[k] = at0 at *
          obtain ⟨kd, an, atx, aq⟩ := at0
          simp only at c0 c1 c2 c3 h0 h1 hd0 hd1 hmt
          obtain ⟨q, rfl⟩ := Int.eq_ofNat_of_zero_le h0
          have hqn : q ≤ st.length := by omega
          have hcp : st.length ≤ cp := by
            rcases hS.own.2 with ⟨hv, h00⟩ | ⟨g, cap', cur, hv, _, _, hle, _⟩
            · omega
            · simp at hv; omega
          obtain ⟨X, hX, hXn, hXs⟩ := tail_any ad st.length cp q hqn
          have hhead := head_any ad st.length cp q hqn hcp
          have hrepT : ∀ i (h : i < (st.drop (st.length - q)).length) (h' : i < (vs.drop (st.length - q)).length), Rep wr (fun b => b < wr.heap.size ∧ some b ≠ (Value.slice ad st.length cp).ownBlock) (st.drop (st.length - q))[i] (vs.drop (st.length - q))[i] := fun i h h' => by
            rw [List.getElem_drop, List.getElem_drop]
            exact hS.rep _ _ _
          have hlT : (vs.drop (st.length - q)).length = (st.drop (st.length - q)).length := by simp [hS.len]
          have hlq : (vs.drop (st.length - q)).length = q := by simp [hS.len]; omega
          have hCs : Cs wr X (vs.drop (st.length - q)) := by
            by_cases h00 : q = 0
            · left; apply List.eq_nil_of_length_eq_zero; omega
            · right
              rcases hS.own.2 with ⟨_, h01⟩ | ⟨g, cap', cur, hv, _, _, hle, _⟩
              · omega
              · simp at hv
                obtain ⟨rfl, rfl⟩ := hv
                refine ⟨g, st.length - q, hXs g rfl (by omega) hle, fun i hi => ?_⟩
                rw [hS.own.cellAt _ (by omega), List.getElem_drop, List.getElem?_eq_getElem]
          have hXnil : X = none → vs.drop (st.length - q) = [] := fun hx => by
            have had := hXn hx
            apply List.eq_nil_of_length_eq_zero
            rcases hS.own.2 with ⟨_, h01⟩ | ⟨g, cap', cur, hv, _⟩
            · omega
            · rw [had] at hv; simp at hv
          have hpart := fun (w' : World) (hw : Below wr.heap.size wr w') => partOf_any ⟨kd, an, atx, q⟩ X (cp - (st.length - q)) (vs.drop (st.length - q)) (st.drop (st.length - q)) (fun b => b < wr.heap.size ∧ some b ≠ (Value.slice ad st.length cp).ownBlock) w' (hCs.below hw) hXnil hlT (fun b hb' => Nat.lt_of_lt_of_le hb'.1 hw.size) (fun i h h' => Rep.mono (fun b hb' => hw.block b hb'.1) (fun _ h => h) _ _ (hrepT i h h')) (by omega) hmt
          rw [hlq] at hpart
          simp only at hpart
          clear hCs hrepT hlT hlq hXnil hXs hXn HB
          go_wp2
          go_region_with (go_at_call 22; refine (hpart _ ?_).mono ?_; exact ((Below.refl _ _).alloc (Nat.le_refl _) _).drew; rintro e w2 ⟨p, bb, rfl, hb2, hpost⟩)
          have hbw : Below wr.heap.size wr w2 := ((Below.refl _ _).alloc (Nat.le_refl _) _).drew.trans (hb2.mono (by simp))
          clear hpart hX
          rcases hpost with ⟨rfl, hno⟩ | ⟨rfl, tt, hmk, hrp⟩
          · have hnone : Hid (valT ts = none) := valT_none_of ts (k + 1) hlt (by rw [HST.out]; simp only [stepT]; rw [if_pos ⟨h0, h1⟩, Int.toNat_natCast, hno]; rfl)
            clear hS hno HST
            go_wp2
            go_ret2
            exact ⟨_, false, rfl, hb.trans (hbw.mono hb.size), .inl ⟨rfl, rfl, hnone.out⟩⟩
          · have HB' : Hid (bldT (ts.take (k + 1)) = some (st.take (st.length - q) ++ [tt])) := by
              have e := HST.out
              simp only [stepT] at e
              rw [if_pos ⟨h0, h1⟩, Int.toNat_natCast, hmk] at e
              exact e
            obtain ⟨T1, x1, rfl⟩ := rep_iface hrp
            have hown2 := owns_below (owns_take hS.own (Nat.sub_le st.length q)) hbw
            have hsz2 := hbw.size
            have hsz := hb.size
            clear hmk HST
            go_frame
            go_wp2_with (at_builtin; refine wpList_append_lies _ rfl _ _ 55 rfl w.heap.size 45 i0 _ 1 16 Try.underlying55 hi hz0 hz1 hz2 rfl (by decide) _ _ _ rfl (hown2.alloc _) ⟨w2.heap.size, 0, none⟩ 1 1 [.iface T1 x1] rfl rfl (cell_one_new _ _ _) (by simp [Value.oneCell']) (by omega) (by unfold maxLen; omega) (by omega) (by simp; omega) (w2.heap.size + 1) (by simp) ?_; intro g2 cap2 w3 hown3 hgrow3 hat3 hlt3)
            have el : (st.take (st.length - q) ++ [tt]).length = st.length - q + 1 := by simp
            have hst := stk_push hS hqn hbw (Rep.mono (fun _ _ => rfl) (fun x hx => hx.imp id fun h => ⟨by have := h.1; simp at this; omega, h.2⟩) _ _ hrp) hown3 hgrow3 hat3
            rw [el] at hst
            have hbl : Below w.heap.size w w3 := ((hb.trans (hbw.mono hb.size)).alloc (by omega) _).grown hgrow3 (by simp; omega) (fun j hj => owns_row_ge hown2 hj)
            go_roundw
            case rel => exact ⟨k + 1, _, _, by omega, by go_num, HB'.out, by rw [el]; omega, hst, hbl⟩
            case measure => simp [intOf]; omega
      · obtain rfl : k = ts.length := by omega
        have hB := HB.out
        rw [List.take_length] at hB
        obtain ⟨ad, cp, rfl⟩ := owns_slice hS.own
        by_cases h1 : st.length = 1
        · obtain ⟨t, rfl⟩ : ∃ t, st = [t] := by
            match st, h1 with
            | [t], _ => exact ⟨t, rfl⟩
          obtain ⟨u, rfl⟩ : ∃ u, vs = [u] := by
            have := hS.len
            match vs, this with
            | [u], _ => exact ⟨u, rfl⟩
          obtain ⟨g, cap', hv⟩ : ∃ g cap', Value.slice ad 1 cp = .slice (some ⟨g, 0, none⟩) 1 cap' := by
            rcases hS.own.2 with ⟨_, h0⟩ | ⟨g, c, cur, hv, _⟩
            · simp at h0
            · exact ⟨g, c, hv⟩
          simp only [Value.slice.injEq, true_and] at hv
          obtain ⟨rfl, rfl⟩ := hv
          have hrp := hS.rep 0 (by simp) (by simp)
          simp only [List.getElem_cons_zero] at hrp
          have cu : wr.cell? ⟨g, 0, none⟩ = some u := hS.own.cellAt 0 (by simp)
          have hnl := nest_le ts ts.length (Nat.le_refl _) [t] (by rw [List.take_length]; exact hB) t (by simp)
          obtain ⟨TT, F, x, rfl, hme, hcf, hcall⟩ := nest_any t wr _ u hrp (fun b hb' => hb'.1) (by omega)
          have hrp' : Rep wr (fun x => x < wr.heap.size) t (.iface TT x) := Rep.mono (fun _ _ => rfl) (fun _ h => h.1) _ _ hrp
          clear hS hrp h1 HB
          by_cases hn : t.nest ≤ 12
          · have hval : Hid (valT ts = some t) := by
              have : valT ts = some t := by unfold valT; rw [if_pos (by omega), hB]; simp only [if_pos hn]
              exact this
            clear hB
            go_wp2_with fail
            refine hcall.mono ?_
            rintro e w2 ⟨rfl, hb2⟩
            have cu2 := cell_later hb2 cu
            clear hcall hme hcf cu
            go_wp2
            go_ret2
            exact ⟨_, true, rfl, hb.trans (hb2.mono hb.size), .inr ⟨rfl, t, hval.out, Rep.mono (fun b hb' => hb2.block b hb') (fun b hb' => Nat.lt_of_lt_of_le hb' hb2.size) _ _ hrp'⟩⟩
          · have hval : Hid (valT ts = none) := by
              have : valT ts = none := by unfold valT; rw [if_pos (by omega), hB]; simp only [if_neg hn]
              exact this
            clear hB
            go_wp2_with fail
            refine hcall.mono ?_
            rintro e w2 ⟨rfl, hb2⟩
            clear hcall hme hcf cu
            go_wp2
            go_ret2
            exact ⟨_, false, rfl, hb.trans (hb2.mono hb.size), .inl ⟨rfl, rfl, hval.out⟩⟩
        · have hval : Hid (valT ts = none) := by
            have : valT ts = none := by
              unfold valT
              rw [if_pos (by omega), hB]
              match st, h1 with
              | [], _ => rfl
              | [_], h => exact absurd rfl h
              | _ :: _ :: _, _ => rfl
            exact this
          have h1B : ((st.length : Int) != 1) = true := by simp; omega
          clear hS HB hB h1
          go_wp2
          go_ret2
          exact ⟨_, false, rfl, hb, .inl ⟨rfl, rfl, hval.out⟩⟩

set_option maxRecDepth 20000 in
set_option maxHeartbeats 1000000 in
theorem implValid_any (a : Option Addr) (cap : Nat) (ts : List At) (w : World) (hss : AS w a ts) (hlen : ts.length ≤ maxLen) (hm : ∀ s ∈ ts, s.text.size ≤ maxLen) :
    Calls Try.prog 8 #[.agg #[.slice a ts.length cap]] w fun e w' => e = .returned (.bool (valT ts).isSome) ∧ Below w.heap.size w w' := by
  have hb0 : ∀ o, Below w.heap.size w (w.alloc o) := fun o => (Below.refl _ _).alloc (Nat.le_refl _) _
  go_enter Try.func8, Try.ntmps8
  go_wp2_with fail
  refine (outermost_any a cap ts _ (hss.below (hb0 _)) hlen hm).mono ?_
  rintro e w1 ⟨p, b, rfl, hb1, hpost⟩
  have hbx := (hb0 _).trans (hb1.mono (hb0 _).size)
  rcases hpost with ⟨rfl, rfl, hv⟩ | ⟨rfl, t, hv, _⟩
  · have HV : Hid (valT ts = none) := hv
    clear hv
    go_wp2
    go_ret
    rw [HV.out]
    exact ⟨rfl, hbx⟩
  · have HV : Hid (valT ts = some t) := hv
    clear hv
    go_wp2
    go_ret
    rw [HV.out]
    exact ⟨rfl, hbx⟩
end Go.Proofs.Ytdjpohkionapiaa
