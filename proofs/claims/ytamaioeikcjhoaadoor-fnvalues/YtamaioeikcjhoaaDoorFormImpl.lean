/-
  impl.FormValue.
-/
import Derived.Test.YtamaioeikcjhoaaDoorWriteAll
import Derived.Laws.IdiomStrings
namespace Go.Proofs.YtamaioeikcjhoaaDoor
open Go.RowKit

theorem write_any (t : T) : WriteAt t := T.ind write_flag write_num write_text write_list write_rec t

theorem nm_texts {ks : List T} : ∀ {j : Nat} {ns : List ByteArray}, nm ks j = some ns → ∀ i, i < j → ∃ h : 2 * i < ks.length, ks[2 * i] = .text (ns.getD i ⟨#[]⟩)
  | 0, _, _, i, hi => absurd hi (by omega)
  | j + 1, ns, h, i, hi => by
    simp only [nm, Option.bind_eq_some_iff] at h
    obtain ⟨ns', h1, h2⟩ := h
    have hl := nm_len h1
    have ih := nm_texts h1
    have key : ∀ s, ks[2 * j]? = some (.text s) → ns = ns' ++ [s] → ∃ h : 2 * i < ks.length, ks[2 * i] = .text (ns.getD i ⟨#[]⟩) := by
      intro s hs hns
      subst hns
      by_cases e : i = j
      · subst e
        obtain ⟨hlt, hv⟩ := List.getElem?_eq_some_iff.1 hs
        refine ⟨hlt, ?_⟩
        rw [hv]
        simp [List.getD, ← hl]
      · obtain ⟨hlt, hv⟩ := ih i (by omega)
        refine ⟨hlt, ?_⟩
        rw [hv]
        simp [List.getD, List.getElem?_append_left (show i < ns'.length by omega)]
    split at h2
    · rename_i s hs
      split at h2
      · simp at h2; exact key s hs h2.symm
      · split at h2
        · simp at h2; exact key s hs h2.symm
        · simp at h2
    · simp at h2

theorem formF_le {ks : List T} {ns : List ByteArray} {m : Nat} (hm : 2 * m = ks.length) (hns : nm ks m = some ns) : ∀ k, k ≤ m → (formF ns ((odds ks).take k)).length ≤ (formL (ks.take (2 * k))).length
  | 0, _ => by simp [formF]
  | k + 1, hk => by
    have ih := formF_le hm hns k (by omega)
    have ho := odds_len ks
    obtain ⟨h1, h2⟩ := nm_texts hns k (by omega)
    rw [formF_take ns (odds ks) k (by omega), show 2 * (k + 1) = 2 * k + 1 + 1 by omega, formL_take ks (2 * k + 1) (by omega), formL_take ks (2 * k) (by omega), h2, odds_get ks k (by omega)]
    simp only [List.length_append, T.form, List.length_cons]
    omega

theorem mk_len {a : At} {ks : List T} {t : T} (hl : (ks.length : Int) = a.kids) (h300 : ks.length ≤ 300) (h : mkT a ks = some t) : t.form.length ≤ 12 + a.text.size + (formL ks).length := by
  have hsk := shortL_le (n := ks.length) (by omega)
  unfold mkT at h
  split at h
  · split at h
    · simp at h; subst h; simp [T.form]; omega
    · simp at h
  split at h
  · split at h
    · simp at h; subst h
      have := shortL_le (zig_lt a.n)
      simp only [T.form, List.length_cons]; omega
    · simp at h
  split at h
  · split at h
    · rename_i hc
      simp at h; subst h
      have := shortL_le (n := a.text.size) (by omega)
      have e : a.text.data.toList.length = a.text.size := by rw [Array.length_toList]; rfl
      simp only [T.form, List.length_cons, List.length_append, e]; omega
    · simp at h
  split at h
  · split at h
    · simp at h; subst h
      simp only [T.form_list, List.length_cons, List.length_append]; omega
    · simp at h
  split at h
  · split at h
    · rename_i hc
      obtain ⟨ns, hns, rfl⟩ := Option.map_eq_some_iff.1 h
      have hf := formF_le (m := ks.length / 2) (by omega) hns (ks.length / 2) (Nat.le_refl _)
      have ho := odds_len ks
      rw [List.take_of_length_le (by omega), List.take_of_length_le (by omega)] at hf
      have hso := shortL_le (n := (odds ks).length) (by omega)
      simp only [T.form_recd, List.length_cons, List.length_append]
      omega
    · simp at h
  · simp at h

theorem stack_len (ts : List At) (h300 : ts.length ≤ 300) (k : Nat) (hk : k ≤ ts.length) : ∀ st, bldT (ts.take k) = some st → st.length ≤ k ∧ (formL st).length ≤ 12 * k + totalA (ts.take k) := by
  induction k with
  | zero => intro st h; simp [bldT] at h; subst h; simp [formL]
  | succ k ih =>
    intro st h
    rw [bldT_take ts k (by omega), Option.bind_eq_some_iff] at h
    obtain ⟨st1, h1, h2⟩ := h
    obtain ⟨ih1, ih2⟩ := ih (by omega) st1 h1
    have ht := totalA_take ts k (by omega)
    unfold stepT at h2
    split at h2
    · rename_i hc
      obtain ⟨u, hu, rfl⟩ := Option.map_eq_some_iff.1 h2
      have hm := mk_len (by simp; omega) (by simp; omega) hu
      have hs := formL_append (st1.take (st1.length - ts[k].kids.toNat)) (st1.drop (st1.length - ts[k].kids.toNat))
      rw [List.take_append_drop] at hs
      have hs' := congrArg List.length hs
      rw [List.length_append] at hs'
      refine ⟨by simp; omega, ?_⟩
      rw [formL_append]
      simp only [formL, List.length_append, List.append_nil]
      omega
    · simp at h2

theorem val_len {ts : List At} {t : T} (h : valT ts = some t) : t.form.length ≤ 3600 + totalA ts := by
  unfold valT at h
  split at h
  · rename_i h300
    split at h
    · rename_i u hb
      split at h
      · simp at h
        subst h
        have := (stack_len ts h300 ts.length (Nat.le_refl _) [u] (by rw [List.take_length]; exact hb)).2
        simp only [formL, List.append_nil, List.take_length] at this
        omega
      · simp at h
    · simp at h
  · simp at h

/-- What FormValue answers. -/
def formV (ts : List At) : ByteArray := match valT ts with
  | some t => if t.form.length ≤ 100000 then ⟨t.form.toArray⟩ else ⟨#[]⟩
  | none => ⟨#[]⟩

theorem form_pos (t : T) : 0 < t.form.length := by cases t using T.five <;> simp [T.form]

set_option maxRecDepth 20000 in
set_option maxHeartbeats 1000000 in
theorem implForm_any (a : Option Addr) (cap : Nat) (ts : List At) (w : World) (hss : AS w a ts) (hlen : ts.length + totalA ts ≤ 1048576) (hm : ∀ s ∈ ts, s.text.size ≤ maxLen) :
    Calls Tryd.prog 11 #[.agg #[.slice a ts.length cap]] w fun e w' => e = .returned (.string (formV ts)) ∧ Below w.heap.size w w' := by
  have hb0 : ∀ o, Below w.heap.size w (w.alloc o) := fun o => (Below.refl _ _).alloc (Nat.le_refl _) _
  go_enter Tryd.func11, Tryd.ntmps11
  go_wp2_with fail
  refine (outermost_any a cap ts _ (hss.below (hb0 _)) (by unfold maxLen; omega) hm).mono ?_
  rintro e w1 ⟨p, b, rfl, hb1, hpost⟩
  have hbx := (hb0 _).trans (hb1.mono (hb0 _).size)
  rcases hpost with ⟨rfl, rfl, hv⟩ | ⟨rfl, t, hv, hrep⟩
  · have HV : Hid (formV ts = ⟨#[]⟩) := by
      have : formV ts = ⟨#[]⟩ := by simp [formV, hv]
      exact this
    clear hv
    go_wp2
    go_ret
    rw [HV.out]
    exact ⟨rfl, hbx⟩
  · have hle := val_len hv
    obtain ⟨TT, F, x, rfl, hme, hcf, hcall⟩ := write_any t w1 _ p (.slice none 0 0) 0 w1.heap.size [] hrep (fun _ h => h) (Nat.le_refl _) (World.ownsRow_nil _ _ _ _) (by omega)
    have HV : Hid (formV ts = if t.form.length ≤ 100000 then ⟨t.form.toArray⟩ else ⟨#[]⟩) := by
      have : formV ts = if t.form.length ≤ 100000 then ⟨t.form.toArray⟩ else ⟨#[]⟩ := by simp [formV, hv]
      exact this
    have hpos := form_pos t
    clear hv hrep
    go_wp2_with fail
    refine hcall.mono ?_
    rintro e w2 ⟨v2, rfl, hown2, hb2⟩
    clear hcall hme hcf
    rw [Nat.zero_add, List.nil_append] at hown2
    have hbx2 := hbx.trans (hb2.mono hbx.size)
    obtain ⟨g, cap2, rfl, _, _⟩ := hown2.form hpos
    generalize t.form = l at *
    have hconv := run_convert_bytes_back (P := Tryd.prog) w2 30 9 5 ⟨g, 0, none⟩ cap2 l Tryd.underlying30 Tryd.underlying5 Tryd.underlying9 (fun j hj => by
      rw [Go.WideShapes.add_plain, Nat.zero_add, hown2.cellAt j (by omega)]
      simp [bc, hj])
    by_cases hbig : l.length ≤ 100000
    · have hd : ¬ (100000 : Int) < (l.length : Int) := by omega
      rw [if_pos hbig] at HV
      clear hown2 hbig
      go_wp2
      go_ret
      rw [HV.out]
      exact ⟨rfl, hbx2⟩
    · have hd : (100000 : Int) < (l.length : Int) := by omega
      rw [if_neg hbig] at HV
      clear hown2 hbig hconv
      go_wp2
      go_ret
      rw [HV.out]
      exact ⟨rfl, hbx2⟩
end Go.Proofs.YtamaioeikcjhoaaDoor
