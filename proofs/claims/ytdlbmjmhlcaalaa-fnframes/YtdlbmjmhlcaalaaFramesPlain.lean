/-
  Frames cut anyhow, plainly: feeding piece by piece comes to the same as at once; what Encode writes is read back. No program is named here.
-/
import Derived.Test.YtdlbmjmhlcaalaaFeedImpl
namespace Go.Proofs.Ytdlbmjmhlcaalaa
open Go.RowKit

theorem bt_append {s t : ByteArray} {i : Nat} (h : i < s.size) : bt (s ++ t) i = bt s i := by
  rw [bt_at (by rw [ByteArray.size_append]; omega), bt_at h, ByteArray.getElem_append_left h]
theorem ext_left {s t : ByteArray} {i j : Nat} (h : j ≤ s.size) : (s ++ t).extract i j = s.extract i j := by
  rw [ByteArray.extract_append]
  have : t.extract (i - s.size) (j - s.size) = ByteArray.empty := by
    apply ByteArray.ext
    have h2 : (t.extract (i - s.size) (j - s.size)).size = 0 := by rw [ByteArray.size_extract]; omega
    exact Array.eq_empty_of_size_eq_zero h2
  rw [this]
  simp
theorem ext_tail {s t : ByteArray} {k : Nat} (h : k ≤ s.size) : (s ++ t).extract k (s ++ t).size = s.extract k s.size ++ t := by
  rw [ByteArray.extract_append, ByteArray.size_append]
  congr 1
  · apply ByteArray.ext
    apply Array.ext
    · simp only [ByteArray.data_extract, Array.size_extract]
      have : s.data.size = s.size := rfl
      rw [this, Nat.min_eq_right (Nat.le_add_right _ _), Nat.min_self]
    · intro i h1 h2
      simp
  · apply ByteArray.ext
    apply Array.ext
    · simp only [ByteArray.data_extract, Array.size_extract]
      have : t.data.size = t.size := rfl
      omega
    · intro i h1 h2
      simp [show k - s.size = 0 by omega]

theorem hdr_append {s t : ByteArray} {x : Nat × Nat} (h : hdr s = some x) : hdr (s ++ t) = some x := by
  unfold hdr at h ⊢
  rw [ByteArray.size_append]
  by_cases h0 : s.size = 0
  · rw [if_pos h0] at h; cases h
  · rw [if_neg h0] at h
    rw [if_neg (by omega), bt_append (by omega)]
    by_cases hb : bt s 0 < 128
    · rw [if_pos hb] at h ⊢
      exact h
    · rw [if_neg hb] at h ⊢
      by_cases h1 : s.size = 1
      · rw [if_pos h1] at h; cases h
      · rw [if_neg h1] at h
        rw [if_neg (by omega), bt_append (by omega)]
        exact h
theorem front_append {s t : ByteArray} {n : Nat} (h : front s n ≠ none) : front (s ++ t) n = front s n := by
  cases hh : hdr s with
  | none => exact absurd (front_none hh) h
  | some x =>
    obtain ⟨k, m⟩ := x
    have hh2 := hdr_append (t := t) hh
    cases k with
    | zero => rw [front_zero hh, front_zero hh2]
    | succ k =>
      rw [front_hdr hh] at h ⊢
      rw [front_hdr hh2]
      unfold body at h ⊢
      by_cases hl : s.size < k + 1 + m + n
      · rw [if_pos hl] at h; exact absurd rfl h
      · rw [if_neg hl, if_neg (by rw [ByteArray.size_append]; omega), ext_left (by omega), ext_left (by omega)]

/-- Fed in two pieces. -/
theorem feedP_append (n : Nat) : ∀ (room : Nat) (s t : ByteArray),
    feedP n room (s ++ t) = if (feedP n room s).2.2 then ((feedP n room s).1, ⟨#[]⟩, true) else ((feedP n room s).1 ++ (feedP n (room - (feedP n room s).1.length) ((feedP n room s).2.1 ++ t)).1, (feedP n (room - (feedP n room s).1.length) ((feedP n room s).2.1 ++ t)).2) := by
  intro room
  induction room with
  | zero =>
    intro s t
    cases h : front s n using Front.three with
    | more => rw [feedP_more h]; simp
    | bad =>
      have h2 : front (s ++ t) n = some none := by rw [front_append (by rw [h]; simp), h]
      rw [feedP_bad h, feedP_bad h2]; simp
    | whole p k =>
      have h2 : front (s ++ t) n = some (some (p, k)) := by rw [front_append (by rw [h]; simp), h]
      rw [feedP_full h, feedP_full h2]; simp
  | succ room ih0 =>
    intro s t
    cases h : front s n using Front.three with
    | more => rw [feedP_more h]; simp
    | bad =>
      have h2 : front (s ++ t) n = some none := by rw [front_append (by rw [h]; simp), h]
      rw [feedP_bad h, feedP_bad h2]; simp
    | whole p k =>
      have h2 : front (s ++ t) n = some (some (p, k)) := by rw [front_append (by rw [h]; simp), h]
      obtain ⟨hk, _⟩ := whole_facts h
      rw [feedP_take h, feedP_take h2, ext_tail hk]
      have ih := ih0 (s.extract k s.size) t
      cases hb : (feedP n room (s.extract k s.size)).2.2
      · rw [hb] at ih
        simp only [Bool.false_eq_true, if_false] at ih ⊢
        rw [ih]
        simp only [List.length_cons, Nat.add_sub_add_right, List.cons_append]
      · rw [hb] at ih
        simp only [if_true] at ih ⊢
        rw [ih]

theorem feedP_badrest (n : Nat) : ∀ (room : Nat) (s : ByteArray), (feedP n room s).2.2 = true → (feedP n room s).2.1 = ⟨#[]⟩ := by
  intro room
  induction room with
  | zero =>
    intro s hb
    cases h : front s n using Front.three with
    | more => rw [feedP_more h] at hb; cases hb
    | bad => rw [feedP_bad h]
    | whole p k => rw [feedP_full h]
  | succ room ih =>
    intro s hb
    cases h : front s n using Front.three with
    | more => rw [feedP_more h] at hb; cases hb
    | bad => rw [feedP_bad h]
    | whole p k => rw [feedP_take h] at hb ⊢; exact ih _ hb
theorem feedP_stays (n : Nat) : ∀ (room : Nat) (s : ByteArray), (feedP n room s).2.2 = false → front (feedP n room s).2.1 n = none := by
  intro room
  induction room with
  | zero =>
    intro s hb
    cases h : front s n using Front.three with
    | more => rw [feedP_more h]; exact h
    | bad => rw [feedP_bad h] at hb; cases hb
    | whole p k => rw [feedP_full h] at hb; cases hb
  | succ room ih =>
    intro s hb
    cases h : front s n using Front.three with
    | more => rw [feedP_more h]; exact h
    | bad => rw [feedP_bad h] at hb; cases hb
    | whole p k => rw [feedP_take h] at hb ⊢; exact ih _ hb
theorem feedP_sizes (n : Nat) : ∀ (room : Nat) (s : ByteArray), ∀ p ∈ (feedP n room s).1, 1 ≤ p.size ∧ p.size ≤ 1000 := by
  intro room
  induction room with
  | zero =>
    intro s
    cases h : front s n using Front.three with
    | more => rw [feedP_more h]; simp
    | bad => rw [feedP_bad h]; simp
    | whole p k => rw [feedP_full h]; simp
  | succ room ih =>
    intro s
    cases h : front s n using Front.three with
    | more => rw [feedP_more h]; simp
    | bad => rw [feedP_bad h]; simp
    | whole p k =>
      rw [feedP_take h]
      intro q hq
      rcases List.mem_cons.1 hq with rfl | hq
      · obtain ⟨_, _, h3, h4⟩ := whole_facts h
        exact ⟨h3, h4⟩
      · exact ih _ q hq

theorem isEmpty_nil {s : ByteArray} (h : s.toList.isEmpty = true) : s = ⟨#[]⟩ := by
  rw [ByteArray.toList_eq] at h
  apply ByteArray.ext
  have := List.isEmpty_iff.1 h
  exact Array.eq_empty_of_size_eq_zero (by rw [← Array.length_toList, this]; rfl)
theorem validD_iff (n : Nat) (rest : ByteArray) (ss : List ByteArray) (bad : Bool) (hw : isW n = true) (hp : pays ss = true) : validD n rest ss bad = (if bad then rest.toList.isEmpty else isMore (front rest n)) := by
  simp [validD, hw, hp]
theorem validD_split {n : Nat} {rest : ByteArray} {ss : List ByteArray} {bad : Bool} (h : validD n rest ss bad = true) : isW n = true ∧ pays ss = true ∧ (if bad then rest.toList.isEmpty else isMore (front rest n)) = true := by
  simp only [validD, Bool.and_eq_true] at h
  exact ⟨h.1.1, h.1.2, h.2⟩

/-- A valid decoder that is fed stays valid, and is fed on as with both at once. -/
theorem feedD_on {m : Int} {rest : ByteArray} {ss : List ByteArray} {bad : Bool} (h : validD m rest ss bad = true) (s t : ByteArray) :
    validD (feedD m rest ss bad s).m (feedD m rest ss bad s).rest (feedD m rest ss bad s).fs (feedD m rest ss bad s).bad = true ∧
    feedD (feedD m rest ss bad s).m (feedD m rest ss bad s).rest (feedD m rest ss bad s).fs (feedD m rest ss bad s).bad t = feedD m rest ss bad (s ++ t) := by
  obtain ⟨n, rfl, h1, h8, hl, hs⟩ := validD_parts h
  obtain ⟨hw, hp, hx⟩ := validD_split h
  cases bad
  · have e : ∀ u, feedD n rest ss false u = ⟨n, (feedP n (500 - ss.length) (rest ++ u)).2.1, ss ++ (feedP n (500 - ss.length) (rest ++ u)).1, (feedP n (500 - ss.length) (rest ++ u)).2.2⟩ := fun u => by simp [feedD, h]
    rw [e s, e (s ++ t), ← ByteArray.append_assoc]
    have hap := feedP_append n (500 - ss.length) (rest ++ s) t
    have hroom := feedP_room n (500 - ss.length) (rest ++ s)
    have hsz := feedP_sizes n (500 - ss.length) (rest ++ s)
    have hbr := feedP_badrest n (500 - ss.length) (rest ++ s)
    have hst := feedP_stays n (500 - ss.length) (rest ++ s)
    generalize feedP n (500 - ss.length) (rest ++ s) = P at *
    simp only
    have hp2 : pays (ss ++ P.1) = true := by
      refine pays_all (by rw [List.length_append]; omega) fun j hj => okS_iff.2 ?_
      have hm := List.getElem_mem hj
      rcases List.mem_append.1 hm with hm | hm
      · exact hs _ hm
      · exact hsz _ hm
    cases hb : P.2.2
    · have hv : validD n P.2.1 (ss ++ P.1) false = true := by rw [validD_iff _ _ _ _ hw hp2]; simp [hst hb, isMore]
      refine ⟨hv, ?_⟩
      rw [hb] at hap
      simp only [Bool.false_eq_true, if_false] at hap
      rw [hap]
      simp only [feedD, hv, if_true, Int.toNat_natCast, List.length_append, Bool.false_eq_true, if_false, ← Nat.sub_sub, List.append_assoc]
    · have hv : validD n P.2.1 (ss ++ P.1) true = true := by rw [validD_iff _ _ _ _ hw hp2, hbr hb, if_pos rfl, ByteArray.toList_eq]; rfl
      refine ⟨hv, ?_⟩
      rw [hb] at hap
      simp only [if_true] at hap
      rw [hap]
      simp only [feedD, hv, if_true]
  · have hr : rest = ⟨#[]⟩ := isEmpty_nil hx
    have e : ∀ u, feedD n rest ss true u = ⟨n, ⟨#[]⟩, ss, true⟩ := fun u => by simp [feedD, h]
    rw [e s, e (s ++ t)]
    simp only
    rw [← hr]
    exact ⟨h, by rw [e t, hr]⟩
theorem feedD_none {m : Int} {rest : ByteArray} {ss : List ByteArray} {bad : Bool} (h : validD m rest ss bad = true) : feedD m rest ss bad ⟨#[]⟩ = ⟨m, rest, ss, bad⟩ := by
  obtain ⟨n, rfl, h1, h8, hl, hs⟩ := validD_parts h
  obtain ⟨hw, hp, hx⟩ := validD_split h
  cases bad
  · have hf : front rest n = none := by
      simp only [Bool.false_eq_true, if_false] at hx
      cases hf : front rest n using Front.three with
      | more => rfl
      | bad => rw [hf] at hx; cases hx
      | whole p k => rw [hf] at hx; cases hx
    have he : rest ++ (⟨#[]⟩ : ByteArray) = rest := ByteArray.append_empty
    simp only [feedD, h, if_true, Bool.false_eq_true, if_false, Int.toNat_natCast, he, feedP_more hf, List.append_nil]
  · rw [isEmpty_nil hx] at h ⊢
    simp [feedD, h]

theorem ext_list (l : List UInt8) (i j : Nat) : (⟨l.toArray⟩ : ByteArray).extract i j = ⟨((l.drop i).take (j - i)).toArray⟩ := by
  apply ByteArray.ext
  rw [ByteArray.data_extract]
  simp [List.extract_toArray]
theorem size_list (l : List UInt8) : (⟨l.toArray⟩ : ByteArray).size = l.length := rfl
theorem bt_list (l : List UInt8) (i : Nat) (h : i < l.length) : bt ⟨l.toArray⟩ i = l[i].toNat := by
  rw [bt_at (by rw [size_list]; exact h)]; rfl
theorem arr_list (s : ByteArray) : (⟨s.data.toList.toArray⟩ : ByteArray) = s := by
  apply ByteArray.ext; simp

/-- A frame stands whole at the front of its bytes. -/
theorem front_frame (s : ByteArray) (n : Nat) (t : List UInt8) (h1 : 1 ≤ s.size) (h2 : s.size ≤ 1000) : front ⟨(frameL s n ++ t).toArray⟩ n = some (some (s, (frameL s n).length)) := by
  have hsl : s.data.toList.length = s.size := by rw [Array.length_toList]; rfl
  have hsum := sum_len s.data.toList n
  have hsumA : (sumStr s.data.toList n).data.toList.toArray = (sumStr s.data.toList n).data := by simp
  have key : ∀ (hd : List UInt8) (k : Nat), hd.length = k + 1 → shortL s.size = hd → hdr ⟨(frameL s n ++ t).toArray⟩ = some (k + 1, s.size) → front ⟨(frameL s n ++ t).toArray⟩ n = some (some (s, (frameL s n).length)) := by
    intro hd k hk hS hh
    have hfl : frameL s n ++ t = hd ++ (s.data.toList ++ ((sumStr s.data.toList n).data.toList ++ t)) := by unfold frameL; rw [hS]; simp
    have hlen : (frameL s n).length = k + 1 + s.size + n := by unfold frameL; rw [hS, List.length_append, List.length_append, hk, hsl, hsum]
    have x1 : (⟨(frameL s n ++ t).toArray⟩ : ByteArray).extract (k + 1) (k + 1 + s.size) = s := by
      rw [ext_list, hfl, ← hk, List.drop_left, Nat.add_sub_cancel_left, ← hsl, List.take_left, arr_list]
    have x2 : (⟨(frameL s n ++ t).toArray⟩ : ByteArray).extract (k + 1 + s.size) (k + 1 + s.size + n) = sumStr s.data.toList n := by
      rw [ext_list, hfl, ← hk, ← List.append_assoc, ← hsl, ← List.length_append, List.drop_left, Nat.add_sub_cancel_left]
      have : List.take n ((sumStr s.data.toList n).data.toList ++ t) = (sumStr s.data.toList n).data.toList := by
        conv => lhs; arg 1; rw [← hsum]
        exact List.take_left
      rw [this, arr_list]
    rw [front_hdr hh, hlen]
    unfold body
    rw [if_neg (by rw [size_list, List.length_append, hlen]; omega), x1, x2, if_pos rfl]
  by_cases hb : s.size < 128
  · have hS : shortL s.size = [UInt8.ofNat s.size] := shortL_small hb
    refine key _ 0 rfl hS ?_
    have e0 : bt ⟨(frameL s n ++ t).toArray⟩ 0 = s.size := by
      rw [bt_list _ 0 (by simp [frameL, hS])]
      simp only [frameL, hS, List.cons_append, List.nil_append, List.getElem_cons_zero, UInt8.toNat_ofNat']
      omega
    unfold hdr
    rw [size_list, if_neg (by simp [frameL, hS]), e0, if_pos hb, if_neg (by omega)]
  · have hS : shortL s.size = [UInt8.ofNat (s.size % 128 + 128), UInt8.ofNat (s.size / 128)] := by rw [shortL_big (by omega), shortL_small (by omega)]
    refine key _ 1 rfl hS ?_
    have e0 : bt ⟨(frameL s n ++ t).toArray⟩ 0 = s.size % 128 + 128 := by
      rw [bt_list _ 0 (by simp [frameL, hS])]
      simp only [frameL, hS, List.cons_append, List.nil_append, List.getElem_cons_zero, UInt8.toNat_ofNat']
      omega
    have e1 : bt ⟨(frameL s n ++ t).toArray⟩ 1 = s.size / 128 := by
      rw [bt_list _ 1 (by simp [frameL, hS])]
      simp only [frameL, hS, List.cons_append, List.nil_append, List.getElem_cons_succ, List.getElem_cons_zero, UInt8.toNat_ofNat']
      omega
    unfold hdr
    rw [size_list, if_neg (by simp [frameL, hS]), e0, e1, if_neg (by omega), if_neg (by simp [frameL, hS]), if_neg (by omega)]
    congr 2
    omega

/-- What Encode writes is read back. -/
theorem feed_enc (n : Nat) : ∀ (ss : List ByteArray) (room : Nat), ss.length ≤ room → (∀ s ∈ ss, 1 ≤ s.size ∧ s.size ≤ 1000) → feedP n room ⟨(encL ss n).toArray⟩ = (ss, ⟨#[]⟩, false)
  | [], room, _, _ => feedP_more (front_none (by unfold hdr; exact if_pos rfl))
  | s :: ss, room, hr, hs => by
    obtain ⟨h1, h2⟩ := hs s List.mem_cons_self
    have he : encL (s :: ss) n = frameL s n ++ encL ss n := by simp [encL]
    obtain ⟨rm, rfl⟩ : ∃ rm, room = rm + 1 := ⟨room - 1, by simp at hr; omega⟩
    have hf := front_frame s n (encL ss n) h1 h2
    rw [he, feedP_take hf]
    have hx : (⟨(frameL s n ++ encL ss n).toArray⟩ : ByteArray).extract (frameL s n).length (⟨(frameL s n ++ encL ss n).toArray⟩ : ByteArray).size = ⟨(encL ss n).toArray⟩ := by
      rw [ext_list, size_list, List.drop_left, List.length_append, Nat.add_sub_cancel_left, List.take_length]
    rw [hx, feed_enc n ss rm (by simp at hr; omega) (fun x hx => hs x (List.mem_cons_of_mem _ hx))]
end Go.Proofs.Ytdlbmjmhlcaalaa
