/-
  spec.l2Kids: the places of each atom's kids.
-/
import Derived.Test.YtdjpohkionapiaaOuter
namespace Go.Proofs.Ytdjpohkionapiaa
open Go.RowKit

def stepK (o : List Nat) (i : Nat) (k : Int) : Option (List Nat × List Nat) :=
  if 0 ≤ k ∧ k ≤ o.length then some (o.take (o.length - k.toNat) ++ [i], o.drop (o.length - k.toNat)) else none

def runK (ts : List At) : Nat → Option (List Nat × List (List Nat))
  | 0 => some ([], [])
  | i + 1 => (runK ts i).bind fun p => match ts[i]? with
    | none => none
    | some a => (stepK p.1 i a.kids).map fun r => (r.1, p.2 ++ [r.2])

theorem runK_step (ts : List At) (k : Nat) (h : k < ts.length) {o : List Nat} {ks : List (List Nat)} (hr : runK ts k = some (o, ks)) : runK ts (k + 1) = (stepK o k ts[k].kids).map fun r => (r.1, ks ++ [r.2]) := by
  simp only [runK, hr, Option.bind_some, List.getElem?_eq_getElem h]
theorem runK_none (ts : List At) (k : Nat) (h : runK ts k = none) : ∀ m, k ≤ m → runK ts m = none := by
  intro m hm
  induction hm with
  | refl => exact h
  | step _ ih => simp [runK, ih]
theorem runK_len (ts : List At) : ∀ k o ks, runK ts k = some (o, ks) → ks.length = k ∧ o.length ≤ k ∧ ∀ x ∈ o, x < k
  | 0, o, ks, h => by simp [runK] at h; obtain ⟨rfl, rfl⟩ := h; simp
  | k + 1, o, ks, h => by
    simp only [runK, Option.bind_eq_some_iff] at h
    obtain ⟨⟨o1, ks1⟩, h1, h2⟩ := h
    have ih := runK_len ts k o1 ks1 h1
    split at h2
    · simp at h2
    · simp only [Option.map_eq_some_iff] at h2
      obtain ⟨⟨o2, kd⟩, h3, h4⟩ := h2
      unfold stepK at h3
      split at h3
      · simp at h3 h4
        obtain ⟨rfl, rfl⟩ := h3
        obtain ⟨rfl, rfl⟩ := h4
        refine ⟨by simp [ih.1], by simp; omega, fun x hx => ?_⟩
        rcases List.mem_append.1 hx with hx | hx
        · have := ih.2.2 x (List.mem_of_mem_take hx); omega
        · simp at hx; omega
      · simp at h3

/-- A row of numbers that is read. -/
def IntRow (w : World) (ok : Nat → Prop) (v : Value) (ns : List Nat) : Prop :=
  ∃ ad cap, v = .slice ad ns.length cap ∧ (ns.length = 0 ∨ ∃ b, ad = some ⟨b, 0, none⟩ ∧ ok b ∧ ∀ j (h : j < ns.length), w.cell? ⟨b, j, none⟩ = some (.int .i64 ns[j]))
theorem IntRow.mono {w w' : World} {ok ok' : Nat → Prop} {v : Value} {ns : List Nat} (h : IntRow w ok v ns) (hw : ∀ b, ok b → w'.heap[b]? = w.heap[b]?) (hok : ∀ b, ok b → ok' b) : IntRow w' ok' v ns := by
  obtain ⟨ad, cap, hv, h | ⟨b, ha, hb, hc⟩⟩ := h
  · exact ⟨ad, cap, hv, .inl h⟩
  · exact ⟨ad, cap, hv, .inr ⟨b, ha, hok b hb, fun j hj => (World.cell?_of_block (w := w) (hw b hb)).trans (hc j hj)⟩⟩

def ints (o : List Nat) : List Value := o.map fun n => .int .i64 (Int.ofNat n)
theorem ints_len (o : List Nat) : (ints o).length = o.length := by simp [ints]
theorem ints_get (o : List Nat) (j : Nat) (h : j < o.length) : (ints o)[j]? = some (.int .i64 (o[j] : Nat)) := by simp [ints, h]

theorem tailI_any (ad : Option Addr) (n cp q : Nat) (hq : q ≤ n) : ∃ X, (∀ w, (Instr.slice 39 (.slice ad n cp) (some (.int .i64 ((n : Int) - (q : Int)))) none none).run Try.prog w = .ok (.slice X q (cp - (n - q))) w) ∧ (X = none → ad = none) ∧ (∀ g, ad = some ⟨g, 0, none⟩ → 0 < q → n ≤ cp → X = some ⟨g, n - q, none⟩) := by
  have hu : Try.prog.underlying 39 = some (.slice (Try.prog.elem 39)) := by kernel_rfl
  have hsz : ∀ w, ((sizeOf (Try.prog.elem 39)).run Try.prog w) = .ok 1 w := fun _ => by kernel_rfl
  have e : ((n : Int) - (q : Int)).toNat = n - q := by omega
  have e2 : n - (n - q) = q := by omega
  refine ⟨match sliced ad (n - q) n cp 1 with | .slice X _ _ => X | _ => none, fun w => ?_, ?_, ?_⟩
  · rw [run_slice_l w 39 ad n cp hu .i64 _ (by omega) (by omega), hsz, e]
    cases ad <;> simp [sliced, e2]
  · cases ad with
    | none => intro _; rfl
    | some x => simp only [sliced]; split <;> simp
  · rintro g rfl h0 hc
    have h1 : ¬ cp = n - q := by omega
    simp only [sliced, if_neg h1, Option.map_some, Nat.mul_one, Go.WideShapes.add_plain, Nat.zero_add]
theorem headI_any (ad : Option Addr) (n cp q : Nat) (hq : q ≤ n) (hc : n ≤ cp) (w : World) : (Instr.slice 39 (.slice ad n cp) none (some (.int .i64 ((n : Int) - (q : Int)))) none).run Try.prog w = .ok (.slice ad (n - q) cp) w := by
  have hu : Try.prog.underlying 39 = some (.slice (Try.prog.elem 39)) := by kernel_rfl
  have hsz : ∀ w, ((sizeOf (Try.prog.elem 39)).run Try.prog w) = .ok 1 w := fun _ => by kernel_rfl
  have e : ((n : Int) - (q : Int)).toNat = n - q := by omega
  rw [run_slice_h w 39 ad n cp hu .i64 _ (by omega) (by omega), hsz, e]
  cases ad <;> simp [sliced, Addr.add]

theorem Try.infoInt : (Try.prog.info? 3).map (fun i => (i.zero, i.size, i.bytes)) = some (some (.int .i64 0), 1, 8) := by kernel_rfl
theorem Try.infoInts : (Try.prog.info? 39).map (fun i => (i.zero, i.size, i.bytes)) = some (some (.slice none 0 0), 1, 24) := by kernel_rfl

/-- What l2Kids keeps: out, open, and the rows within out. -/
structure KInv (B : Nat) (w : World) (g go : Nat) (co cp : Nat) (o : List Nat) (ks : List (List Nat)) (us : List Value) : Prop where
  len : us.length = ks.length
  out : w.ownsRow B 39 1 (.slice (some ⟨g, 0, none⟩) ks.length co) ks.length us
  opn : w.ownsRow B 3 1 (.slice (some ⟨go, 0, none⟩) o.length cp) o.length (ints o)
  apart : g ≠ go
  rows : ∀ i (h : i < ks.length) (h' : i < us.length), IntRow w (fun b => b < w.heap.size ∧ b ≠ g ∧ b ≠ go) us[i] ks[i]

def KidsPost (ts : List At) (w' : World) (v : Value) (b : Bool) : Prop :=
  (b = false ∧ (runK ts ts.length = none ∨ ∃ o ks, runK ts ts.length = some (o, ks) ∧ o.length ≠ 1)) ∨
  (b = true ∧ ∃ (o : List Nat) (ks : List (List Nat)) (g co : Nat) (us : List Value), runK ts ts.length = some (o, ks) ∧ o.length = 1 ∧ v = .slice (some ⟨g, 0, none⟩) ks.length co ∧ us.length = ks.length ∧ (∀ i (h : i < us.length), w'.cell? ⟨g, i, none⟩ = some us[i]) ∧ ∀ i (h : i < ks.length) (h' : i < us.length), IntRow w' (fun _ => True) us[i] ks[i])

theorem intRow_of_owns {w : World} {B : Nat} {ad : Option Addr} {cap : Nat} {ns : List Nat} (h : w.ownsRow B 3 1 (.slice ad ns.length cap) ns.length (ints ns)) : IntRow w (fun b => B ≤ b ∧ b < w.heap.size) (.slice ad ns.length cap) ns := by
  refine ⟨ad, cap, rfl, ?_⟩
  rcases h.2 with ⟨_, h0⟩ | ⟨g, cap', cur, hv, hB, hg, _⟩
  · exact .inl h0
  · simp only [Value.slice.injEq, true_and] at hv
    obtain ⟨rfl, rfl⟩ := hv
    refine .inr ⟨g, rfl, ⟨hB, (Array.getElem?_eq_some_iff.1 hg).1⟩, fun j hj => ?_⟩
    rw [h.cellAt j (by omega), ints_get ns j hj]

theorem kinv_step {B : Nat} {wr w1 w2 w3 : World} {g go co cp g2 go2 co2 cp2 q k : Nat} {o : List Nat} {ks : List (List Nat)} {us : List Value} {v1 : Value} {O0 O1 O2 : Obj}
    (hK : KInv B wr g go co cp o ks us) (_hq : q ≤ o.length)
    (hg1 : (wr.alloc O0).grownBy w1 (some wr.heap.size)) (hrow : IntRow w1 (fun b => wr.heap.size ≤ b ∧ b < w1.heap.size) v1 (o.drop (o.length - q)))
    (hg2 : (w1.alloc O1).grownBy w2 (some g)) (hout : w2.ownsRow B 39 1 (.slice (some ⟨g2, 0, none⟩) (ks.length + 1) co2) (ks.length + 1) (us ++ [v1])) (hat2 : some g = some g2 ∨ g2 = w1.heap.size + 1)
    (hg3 : (w2.alloc O2).grownBy w3 (some go)) (hopn : w3.ownsRow B 3 1 (.slice (some ⟨go2, 0, none⟩) (o.length - q + 1) cp2) (o.length - q + 1) (ints (o.take (o.length - q) ++ [k]))) (hat3 : some go = some go2 ∨ go2 = w2.heap.size + 1) :
    KInv B w3 g2 go2 co2 cp2 (o.take (o.length - q) ++ [k]) (ks ++ [o.drop (o.length - q)]) (us ++ [v1]) := by
  have hgl := own_lt hK.out (g := g) rfl
  have hgo := own_lt hK.opn (g := go) rfl
  have s1 := hg1.size
  have s2 := hg2.size
  have s3 := hg3.size
  simp at s1 s2 s3
  have hap := hK.apart
  have f2 : g2 = g ∨ g2 = w1.heap.size + 1 := hat2.imp (fun h => by simpa using h.symm) id
  have f3 : go2 = go ∨ go2 = w2.heap.size + 1 := hat3.imp (fun h => by simpa using h.symm) id
  have k1 : ∀ b, b < wr.heap.size → w1.heap[b]? = wr.heap[b]? := fun b hb => by
    rw [hg1.block b (by simp; omega) (by simp; omega)]; exact Below.heap_alloc _ _ _ hb
  have k2 : ∀ b, b < w1.heap.size → b ≠ g → w2.heap[b]? = w1.heap[b]? := fun b hb hne => by
    rw [hg2.block b (by simp; omega) (by simpa using hne)]; exact Below.heap_alloc _ _ _ hb
  have k3 : ∀ b, b < w2.heap.size → b ≠ go → w3.heap[b]? = w2.heap[b]? := fun b hb hne => by
    rw [hg3.block b (by simp; omega) (by simpa using hne)]; exact Below.heap_alloc _ _ _ hb
  refine ⟨by simp [hK.len], ?_, ?_, by omega, fun i h h' => ?_⟩
  · have e : (ks ++ [o.drop (o.length - q)]).length = ks.length + 1 := by simp
    rw [e]
    exact (hout.alloc O2).kept hg3 (.inr (by simp [Value.ownBlock]; omega))
  · have e : (o.take (o.length - q) ++ [k]).length = o.length - q + 1 := by simp
    rw [e]; exact hopn
  · by_cases hi : i < ks.length
    · rw [List.getElem_append_left (by have := hK.len; omega), List.getElem_append_left hi]
      refine (hK.rows i hi (by have := hK.len; omega)).mono (fun b hb => ?_) (fun b hb => ⟨by omega, by omega, by omega⟩)
      rw [k3 b (by omega) hb.2.2, k2 b (by omega) hb.2.1, k1 b hb.1]
    · have hl := hK.len
      have hi' : i = ks.length := by simp at h; omega
      subst hi'
      rw [List.getElem_append_right (by omega), List.getElem_append_right (by omega)]
      simp only [hl, Nat.sub_self, List.getElem_cons_zero]
      refine hrow.mono (fun b hb => ?_) (fun b hb => ⟨by omega, by omega, by omega⟩)
      rw [k3 b (by omega) (by omega), k2 b (by omega) (by omega)]

theorem ne_own {g n a b c d : Nat} (h : g ≠ n) : (Value.slice (some ⟨g, 0, none⟩) a b).ownBlock ≠ (Value.slice (some ⟨n, 0, none⟩) c d).ownBlock := by
  intro e
  exact h (by simpa [Value.ownBlock] using e)
theorem hs_of {w w' : World} {o : Obj} {r : Option Nat} (h : (w.alloc o).grownBy w' r) : w.heap.size + 1 ≤ w'.heap.size := by
  have := h.size
  simpa using this

set_option maxRecDepth 20000 in
set_option maxHeartbeats 2000000 in
theorem l2Kids_any (a : Option Addr) (cap : Nat) (ts : List At) (w : World) (hss : AS w a ts) (hlen : ts.length ≤ 300) :
    Calls Try.prog 14 #[.agg #[.slice a ts.length cap]] w fun e w' => ∃ v b, e = .returned (.tuple #[v, .bool b]) ∧ Below w.heap.size w w' ∧ KidsPost ts w' v b := by
  obtain ⟨i0, hi, hz0, hz1, hz2⟩ := info_parts Try.infoInt
  obtain ⟨j0, hj, hy0, hy1, hy2⟩ := info_parts Try.infoInts
  go_enter Try.func14, Try.ntmps14
  go_wp2
  go_loopw [4, 5, 6] (fun vo v i wr => ∃ (k : Nat) (g go co cp : Nat) (o : List Nat) (ks : List (List Nat)) (us : List Value), k ≤ ts.length ∧ i = .int .i64 k ∧ runK ts k = some (o, ks) ∧ vo = .slice (some ⟨g, 0, none⟩) ks.length co ∧ v = .slice (some ⟨go, 0, none⟩) o.length cp ∧ KInv (w.heap.size + 1) wr g go co cp o ks us ∧ Below (w.heap.size + 1) (w.alloc (.cells #[.slice a ts.length cap] 29)) wr) (fun _ _ i _ => ts.length - (intOf i).toNat)
  case atStart =>
    refine ⟨0, w.heap.size + 1, w.heap.size + 1 + 1, 0, 0, [], [], [], Nat.zero_le _, rfl, rfl, rfl, rfl, ⟨rfl, ?_, ?_, by omega, fun i h => absurd h (by simp)⟩, ((Below.refl _ _).alloc (by simp) _).alloc (by simp) _⟩
    · refine World.ownsRow.alloc ⟨by simp, .inr ⟨w.heap.size + 1, 0, #[], rfl, by omega, ?_, Nat.le_refl _, by unfold maxLen; omega, rfl, by simp⟩⟩ _
      have := heap_alloc_new (w.alloc (.cells #[.slice a ts.length cap] 29)) (.cells #[] 39)
      simpa using this
    · refine ⟨by simp [ints], .inr ⟨w.heap.size + 1 + 1, 0, #[], rfl, by omega, ?_, Nat.le_refl _, by unfold maxLen; omega, rfl, by simp [ints]⟩⟩
      have := heap_alloc_new ((w.alloc (.cells #[.slice a ts.length cap] 29)).alloc (.cells #[] 39)) (.cells #[] 3)
      simpa using this
  case round =>
    obtain ⟨k, g, go, co, cp, o, ks, us, hk, rfl, hrun, rfl, rfl, hK, hb⟩ := hrel
    obtain ⟨hkl, hol, hox⟩ := runK_len ts k o ks hrun
    have HR : Hid (runK ts k = some (o, ks)) := hrun
    have HKL : Hid (ks.length = k) := hkl
    have hkl1 : ks.length ≤ k := by omega
    clear hrun hkl hox
    have hb0 : Below w.heap.size w wr := ((Below.refl _ _).alloc (Nat.le_refl _) _).trans (hb.mono (by omega))
    have hbx : wr.cell? ⟨w.heap.size, 0, none⟩ = some (.slice a ts.length cap) := (hb.cell (p := ⟨w.heap.size, 0, none⟩) (by simp)).trans (World.cell?_alloc_new _ _ _ _)
    have hsz := hb.size
    simp at hsz
    by_cases hlt : k < ts.length
    · obtain ⟨b, off, rfl, hc⟩ := (hss.below hb0).at hlt
      obtain ⟨c0, c1, c2, c3⟩ := hc k hlt
      clear hc c0 c1 c2
      by_cases hbad : ts[k].kids < 0 ∨ (o.length : Int) < ts[k].kids
      · have hnone : Hid (runK ts ts.length = none) := runK_none ts (k + 1) (by rw [runK_step ts k hlt HR.out]; simp only [stepK]; rw [if_neg (by omega)]; rfl) _ hlt
        clear HR hK
        by_cases h0 : ts[k].kids < 0
        · have hd0 : decide (ts[k].kids < 0) = true := by simpa using h0
          clear hbad h0
          go_wp2
          go_ret2
          exact ⟨_, false, rfl, hb0, .inl ⟨rfl, .inl hnone.out⟩⟩
        · have h1 : (o.length : Int) < ts[k].kids := hbad.resolve_left h0
          have hd0 : decide (ts[k].kids < 0) = false := by simpa using h0
          have hd1 : decide ((o.length : Int) < ts[k].kids) = true := by simpa using h1
          clear hbad h0 h1
          go_wp2
          go_ret2
          exact ⟨_, false, rfl, hb0, .inl ⟨rfl, .inl hnone.out⟩⟩
      · obtain ⟨h0, h1⟩ : 0 ≤ ts[k].kids ∧ ts[k].kids ≤ o.length := by omega
        have hd0 : decide (ts[k].kids < 0) = false := by simpa using h0
        have hd1 : decide ((o.length : Int) < ts[k].kids) = false := by simpa using h1
        clear hbad
        have HST : Hid (runK ts (k + 1) = (stepK o k ts[k].kids).map fun r => (r.1, ks ++ [r.2])) := runK_step ts k hlt HR.out
        generalize ts[k].kids = aq at *
        obtain ⟨q, rfl⟩ := Int.eq_ofNat_of_zero_le h0
        have hqn : q ≤ o.length := by omega
        have HR' : Hid (runK ts (k + 1) = some (o.take (o.length - q) ++ [k], ks ++ [o.drop (o.length - q)])) := by
          have e := HST.out
          simp only [stepK] at e
          rw [if_pos ⟨h0, h1⟩] at e
          exact e
        have hcp : o.length ≤ cp := by
          rcases hK.opn.2 with ⟨hv, _⟩ | ⟨g', cap', cur, hv, _, _, hle, _⟩
          · simp at hv
          · simp at hv; omega
        obtain ⟨X, hX, hXn, hXs⟩ := tailI_any (some ⟨go, 0, none⟩) o.length cp q hqn
        obtain ⟨x, rfl⟩ : ∃ x, X = some x := by cases X with | none => exact absurd (hXn rfl) (by simp) | some x => exact ⟨x, rfl⟩
        have hhead := headI_any (some ⟨go, 0, none⟩) o.length cp q hqn hcp
        have hnews : ∀ (w' : World), Below wr.heap.size wr w' → ∀ j u, (ints (o.drop (o.length - q)))[j]? = some u → w'.cell? (x.add j) = some u := by
          intro w' hw j u hj
          have hjl : j < (o.drop (o.length - q)).length := by
            rcases Nat.lt_or_ge j (o.drop (o.length - q)).length with h | h
            · exact h
            · rw [List.getElem?_eq_none (by rw [ints_len]; exact h)] at hj; cases hj
          have hq0 : 0 < q := by simp at hjl; omega
          have hx := hXs go rfl hq0 hcp
          simp only [Option.some.injEq] at hx
          subst hx
          rw [Go.WideShapes.add_plain]
          refine cell_later hw ?_
          rw [hK.opn.cellAt _ (by simp at hjl; omega), ints_get _ _ (by simp at hjl; omega), ← hj, ints_get _ _ hjl, List.getElem_drop]
        have hdl : (ints (o.drop (o.length - q))).length = q * 1 := by rw [ints_len]; simp; omega
        have hone : ∀ u ∈ ints (o.drop (o.length - q)), u.oneCell' = true := by
          intro u hu
          simp only [ints, List.mem_map] at hu
          obtain ⟨n, _, rfl⟩ := hu
          rfl
        have hown0 : (wr.alloc (.cells #[] 3)).ownsRow wr.heap.size 3 1 (.slice (some ⟨wr.heap.size, 0, none⟩) 0 0) 0 [] := ⟨by simp, .inr ⟨wr.heap.size, 0, #[], rfl, Nat.le_refl _, heap_alloc_new wr _, Nat.le_refl _, by unfold maxLen; omega, rfl, by simp⟩⟩
        clear HR HST hXs hXn
        have hgl := own_lt hK.out (g := g) rfl
        have hgo := own_lt hK.opn (g := go) rfl
        have hap := hK.apart
        have hbe : Below wr.heap.size wr (wr.alloc (.cells #[] 3)) := (Below.refl _ _).alloc (Nat.le_refl _) _
        have hnews0 := hnews _ hbe
        clear hnews
        go_wp2_with (first | (at_builtin; refine wpList_append_own _ rfl (.tmp 33) (.tmp 39) 39 rfl wr.heap.size 3 i0 _ 1 8 Try.underlying39 hi hz0 hz1 hz2 rfl (by decide) _ _ _ rfl hown0 x q (cp - (o.length - q)) (ints (o.drop (o.length - q))) rfl hdl hnews0 hone (by unfold maxLen; omega) (by omega) (by simp) ?_; intro v1 w1 hown1 hgrow1 _; rw [Nat.zero_add, List.nil_append] at hown1; obtain ⟨ad1, cc1, rfl⟩ := owns_slice hown1; have hout1 := (hK.out.alloc (.cells #[] 3)).kept hgrow1 (.inr (ne_own (Nat.ne_of_lt hgl))); have hopn1 := ((owns_take hK.opn (Nat.sub_le o.length q)).alloc (.cells #[] 3)).kept hgrow1 (.inr (ne_own (Nat.ne_of_lt hgo))); have hs1 : wr.heap.size + 1 ≤ w1.heap.size := hs_of hgrow1) | (at_builtin; refine wpList_append_lies _ rfl (.tmp 32) (.tmp 41) 36 rfl (w.heap.size + 1) 39 j0 _ 1 24 Try.underlying36 hj hy0 hy1 hy2 rfl (by decide) _ _ _ rfl (hout1.alloc _) ⟨w1.heap.size, 0, none⟩ 1 1 [.slice ad1 q cc1] rfl rfl (cell_one_new _ _ _) (by simp [Value.oneCell']) (by omega) (by unfold maxLen; omega) (by omega) (by simp; omega) (w1.heap.size + 1) (by simp) ?_; intro g2 co2 w2 hown2 hgrow2 hat2 hlt2; have hopn2 := (hopn1.alloc (.cells #[.slice ad1 q cc1] 39)).kept hgrow2 (.inr (ne_own (Ne.symm hap))); have hs2 : w1.heap.size + 1 ≤ w2.heap.size := hs_of hgrow2) | (at_builtin; refine wpList_append_lies _ rfl (.tmp 48) (.tmp 50) 39 rfl (w.heap.size + 1) 3 i0 _ 1 8 Try.underlying39 hi hz0 hz1 hz2 rfl (by decide) _ _ _ rfl (hopn2.alloc _) ⟨w2.heap.size, 0, none⟩ 1 1 [.int .i64 k] rfl rfl (cell_one_new _ _ _) (by simp [Value.oneCell']) (by omega) (by unfold maxLen; omega) (by omega) (by simp; omega) (w2.heap.size + 1) (by simp) ?_; intro go2 cp2 w3 hown3 hgrow3 hat3 hlt3))
        have edl : (o.drop (o.length - q)).length = q := by simp; omega
        have hrow := intRow_of_owns (ns := o.drop (o.length - q)) (ad := ad1) (cap := cc1) (by rw [edl]; exact hown1)
        rw [edl] at hrow
        have eints : ints (o.take (o.length - q) ++ [k]) = (ints o).take (o.length - q) ++ [.int .i64 k] := by simp [ints]
        have hKI := kinv_step hK hqn hgrow1 hrow hgrow2 hown2 hat2 hgrow3 (by rw [eints]; exact hown3) hat3
        have hgB := owns_row_ge hK.out (j := g) rfl
        have hoB := owns_row_ge hK.opn (j := go) rfl
        have hb3 : Below (w.heap.size + 1) (w.alloc (.cells #[.slice (some ⟨b, off, none⟩) ts.length cap] 29)) w3 :=
          ((((((hb.alloc hsz _).grown hgrow1 (by simp; omega) (fun j hj => by have e : some wr.heap.size = some j := hj; cases e; exact hsz)).alloc (by omega) _).grown hgrow2 (by simp; omega) (fun j hj => by have e : some g = some j := hj; cases e; exact hgB)).alloc (by omega) _).grown hgrow3 (by simp; omega) (fun j hj => by have e : some go = some j := hj; cases e; exact hoB))
        go_roundw
        case rel => exact ⟨k + 1, g2, go2, co2, cp2, _, _, _, by omega, by go_num, HR'.out, by simp, by simp, hKI, hb3⟩
        case measure => simp [intOf]; omega
    · obtain rfl : k = ts.length := by omega
      by_cases h1 : o.length = 1
      · have h1B : ((o.length : Int) == 1) = true := by simp; omega
        have H1 : Hid (o.length = 1) := h1
        clear h1
        go_wp2
        go_ret2
        refine ⟨_, true, rfl, hb0, .inr ⟨rfl, o, ks, g, co, us, HR.out, H1.out, rfl, hK.len, fun i hi => ?_, fun i h h' => (hK.rows i h h').mono (fun _ _ => rfl) (fun _ _ => trivial)⟩⟩
        rw [hK.out.cellAt i (by have := hK.len; omega), List.getElem?_eq_getElem hi]
      · have h1B : ((o.length : Int) == 1) = false := by simp; omega
        have H1 : Hid (o.length ≠ 1) := h1
        clear h1
        go_wp2
        go_ret2
        exact ⟨_, false, rfl, hb0, .inl ⟨rfl, .inr ⟨o, ks, HR.out, H1.out⟩⟩⟩
end Go.Proofs.Ytdjpohkionapiaa
