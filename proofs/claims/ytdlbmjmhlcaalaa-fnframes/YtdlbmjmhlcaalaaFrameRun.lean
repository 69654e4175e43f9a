/-
  impl's reader run to its end: what feedP says.
-/
import Derived.Test.YtdlbmjmhlcaalaaFrameSize
namespace Go.Proofs.Ytdlbmjmhlcaalaa
open Go.RowKit

theorem body_more {s : ByteArray} {n k m : Nat} (h : s.size < k + m + n) : body s n k m = none := by
  unfold body; rw [if_pos h]
theorem body_whole {s : ByteArray} {n k m : Nat} (h : k + m + n ≤ s.size) (hq : sumStr (s.extract k (k + m)).data.toList n = s.extract (k + m) (k + m + n)) : body s n k m = some (some (s.extract k (k + m), k + m + n)) := by
  unfold body; rw [if_neg (by omega), if_pos hq]
theorem body_bad {s : ByteArray} {n k m : Nat} (h : k + m + n ≤ s.size) (hq : ¬ sumStr (s.extract k (k + m)).data.toList n = s.extract (k + m) (k + m + n)) : body s n k m = some none := by
  unfold body; rw [if_neg (by omega), if_neg hq]

/-- Where a reader stands: its state's function (none: at its end), and what will come of it. F: what all comes to. -/
def Stand (F : List ByteArray × ByteArray × Bool) (st : Value) (r : R) (ts : List ByteArray) (n : Nat) : Prop :=
  (st = (fnv1 49) ∧ n = 8 * r.rest.size + 7 ∧ r.past = 0 ∧ r.size = 0 ∧ r.bad = false ∧ F = (ts ++ (feedP r.width r.room r.rest).1, (feedP r.width r.room r.rest).2)) ∨
  (st = (fnv1 49) ∧ n = 8 * r.rest.size + 6 ∧ r.past = 1 ∧ 1 ≤ r.rest.size ∧ 128 ≤ bt r.rest 0 ∧ r.size = bt r.rest 0 % 128 ∧ r.bad = false ∧ F = (ts ++ (feedP r.width r.room r.rest).1, (feedP r.width r.room r.rest).2)) ∨
  (∃ k m, st = (fnv1 56) ∧ n = 8 * r.rest.size + 5 ∧ hdr r.rest = some (k + 1, m) ∧ r.past = k + 1 ∧ r.size = m ∧ r.bad = false ∧ F = (ts ++ (feedP r.width r.room r.rest).1, (feedP r.width r.room r.rest).2)) ∨
  (∃ k m, st = (fnv1 57) ∧ n = 8 * r.rest.size + 4 ∧ hdr r.rest = some (k + 1, m) ∧ r.past = k + 1 + m ∧ k + 1 + m ≤ r.rest.size ∧ r.payload = r.rest.extract (k + 1) (k + 1 + m) ∧ r.bad = false ∧ F = (ts ++ (feedP r.width r.room r.rest).1, (feedP r.width r.room r.rest).2)) ∨
  (st = (fnv1 58) ∧ n = 8 * r.rest.size + 3 ∧ front r.rest r.width = some (some (r.payload, r.past)) ∧ r.bad = false ∧ F = (ts ++ (feedP r.width r.room r.rest).1, (feedP r.width r.room r.rest).2)) ∨
  (st = (fnv1 55) ∧ n = 8 * r.rest.size + 2 ∧ r.bad = false ∧ F = (ts, ⟨#[]⟩, true)) ∨
  (st = .nilFunc ∧ n = 0 ∧ F = (ts, r.rest, r.bad))
theorem Stand.size0 {F : List ByteArray × ByteArray × Bool} {r : R} {ts : List ByteArray} (hp : r.past = 0) (hz : r.size = 0) (hb : r.bad = false) (hF : F = (ts ++ (feedP r.width r.room r.rest).1, (feedP r.width r.room r.rest).2)) : Stand F (fnv1 49) r ts (8 * r.rest.size + 7) :=
  .inl ⟨rfl, rfl, hp, hz, hb, hF⟩
theorem Stand.size1 {F : List ByteArray × ByteArray × Bool} {r : R} {ts : List ByteArray} (hp : r.past = 1) (h1 : 1 ≤ r.rest.size) (h2 : 128 ≤ bt r.rest 0) (hz : r.size = bt r.rest 0 % 128) (hb : r.bad = false) (hF : F = (ts ++ (feedP r.width r.room r.rest).1, (feedP r.width r.room r.rest).2)) : Stand F (fnv1 49) r ts (8 * r.rest.size + 6) :=
  .inr (.inl ⟨rfl, rfl, hp, h1, h2, hz, hb, hF⟩)
theorem Stand.pay {F : List ByteArray × ByteArray × Bool} {r : R} {ts : List ByteArray} (k m : Nat) (hh : hdr r.rest = some (k + 1, m)) (hp : r.past = k + 1) (hz : r.size = m) (hb : r.bad = false) (hF : F = (ts ++ (feedP r.width r.room r.rest).1, (feedP r.width r.room r.rest).2)) : Stand F (fnv1 56) r ts (8 * r.rest.size + 5) :=
  .inr (.inr (.inl ⟨k, m, rfl, rfl, hh, hp, hz, hb, hF⟩))
theorem Stand.sum {F : List ByteArray × ByteArray × Bool} {r : R} {ts : List ByteArray} (k m : Nat) (hh : hdr r.rest = some (k + 1, m)) (hp : r.past = k + 1 + m) (hle : k + 1 + m ≤ r.rest.size) (hl : r.payload = r.rest.extract (k + 1) (k + 1 + m)) (hb : r.bad = false) (hF : F = (ts ++ (feedP r.width r.room r.rest).1, (feedP r.width r.room r.rest).2)) : Stand F (fnv1 57) r ts (8 * r.rest.size + 4) :=
  .inr (.inr (.inr (.inl ⟨k, m, rfl, rfl, hh, hp, hle, hl, hb, hF⟩)))
theorem Stand.take {F : List ByteArray × ByteArray × Bool} {r : R} {ts : List ByteArray} (hf : front r.rest r.width = some (some (r.payload, r.past))) (hb : r.bad = false) (hF : F = (ts ++ (feedP r.width r.room r.rest).1, (feedP r.width r.room r.rest).2)) : Stand F (fnv1 58) r ts (8 * r.rest.size + 3) :=
  .inr (.inr (.inr (.inr (.inl ⟨rfl, rfl, hf, hb, hF⟩))))
theorem Stand.bad {F : List ByteArray × ByteArray × Bool} {r : R} {ts : List ByteArray} (hb : r.bad = false) (hF : F = (ts, ⟨#[]⟩, true)) : Stand F (fnv1 55) r ts (8 * r.rest.size + 2) :=
  .inr (.inr (.inr (.inr (.inr (.inl ⟨rfl, rfl, hb, hF⟩)))))
theorem Stand.done {F : List ByteArray × ByteArray × Bool} {r : R} {ts : List ByteArray} (hF : F = (ts, r.rest, r.bad)) : Stand F .nilFunc r ts 0 :=
  .inr (.inr (.inr (.inr (.inr (.inr (⟨rfl, rfl, hF⟩))))))

/-- One round: from a standing that has not ended, the state's function is called and leads to a lower one. -/
def Goes (B g : Nat) (F : List ByteArray × ByteArray × Bool) (wd : Nat) (w : World) (n : Nat) (e : Ending) (w' : World) : Prop :=
  ∃ st r' ts' n', e = .returned st ∧ St B w' g r' ts' ∧ Below B w w' ∧ Stand F st r' ts' n' ∧ n' < n ∧ r'.width = wd ∧ r'.rest.size ≤ 1099511627776 ∧ r'.room ≤ 500 ∧ ts'.length + r'.room ≤ 500

theorem cs_size (p : Value) (w : World) : (callFunc 49 #[p]).run Try.prog w = .ok (.enter 49 #[p]) w := by kernel_rfl
theorem cs_pay (p : Value) (w : World) : (callFunc 56 #[p]).run Try.prog w = .ok (.enter 56 #[p]) w := by kernel_rfl
theorem cs_sum (p : Value) (w : World) : (callFunc 57 #[p]).run Try.prog w = .ok (.enter 57 #[p]) w := by kernel_rfl
theorem cs_take (p : Value) (w : World) : (callFunc 58 #[p]).run Try.prog w = .ok (.enter 58 #[p]) w := by kernel_rfl
theorem cs_bad (p : Value) (w : World) : (callFunc 55 #[p]).run Try.prog w = .ok (.enter 55 #[p]) w := by kernel_rfl

def Step (B g : Nat) (F : List ByteArray × ByteArray × Bool) (wd : Nat) (w : World) (st : Value) (n : Nat) : Prop :=
  ∃ f, st = fnv1 f ∧ (∀ p w, (callFunc f #[p]).run Try.prog w = .ok (.enter f #[p]) w) ∧ Calls Try.prog f #[.pointer (some ⟨g, 0, none⟩)] w fun e w' => Goes B g F wd w n e w'

theorem goes {B g : Nat} {F : List ByteArray × ByteArray × Bool} {w : World} {st : Value} {r : R} {ts : List ByteArray} {n : Nat} (hst : Stand F st r ts n) (hn : n ≠ 0) (h : St B w g r ts)
    (hs : r.rest.size ≤ 1099511627776) (h1 : 1 ≤ r.width) (h8 : r.width ≤ 8) (hr : r.room ≤ 500) (hts : ts.length + r.room ≤ 500) : Step B g F r.width w st n := by
  rcases hst with ⟨rfl, rfl, hp, hz, hb, hF⟩ | ⟨rfl, rfl, hp, h1s, h2, hz, hb, hF⟩ | ⟨k, m, rfl, rfl, hh, hp, hz, hb, hF⟩ | ⟨k, m, rfl, rfl, hh, hp, hle, hl, hb, hF⟩ | ⟨rfl, rfl, hf, hb, hF⟩ | ⟨rfl, rfl, hb, hF⟩ | ⟨rfl, rfl, hF⟩
  · obtain ⟨wd, room, s, tk, bd, pa, sz, pl⟩ := r
    simp only at hp hz hb hF hs h1 h8 hr hts ⊢
    subst hp hz hb
    refine ⟨_, rfl, cs_size, (sizeState0 B w g wd room s tk false pl ts h hs).mono ?_⟩
    rintro e w' (⟨h0, rfl, hS, hB⟩ | ⟨h0, hq, rfl, hS, hB⟩ | ⟨h0, hq, hq2, rfl, hS, hB⟩ | ⟨h0, hq, rfl, hS, hB⟩)
    · have hd : hdr s = none := by unfold hdr; rw [if_pos h0]
      rw [feedP_more (front_none hd), List.append_nil] at hF
      exact ⟨_, _, _, _, rfl, hS, hB, .done hF, by omega, rfl, hs, hr, hts⟩
    · have hd : hdr s = some (0, 0) := by unfold hdr; rw [if_neg (by simp only at h0; omega), if_pos (by simp only at hq; omega), if_pos hq]
      rw [feedP_bad (front_zero hd), List.append_nil] at hF
      exact ⟨_, _, _, _, rfl, hS, hB, .bad rfl hF, by simp only; omega, rfl, hs, hr, hts⟩
    · have hd : hdr s = some (0 + 1, bt s 0) := by unfold hdr; rw [if_neg (by simp only at h0; omega), if_pos hq2, if_neg (by simp only at hq; omega)]
      exact ⟨_, _, _, _, rfl, hS, hB, .pay 0 _ hd rfl rfl rfl hF, by simp only; omega, rfl, hs, hr, hts⟩
    · exact ⟨_, _, _, _, rfl, hS, hB, .size1 rfl h0 hq rfl rfl hF, by simp only; omega, rfl, hs, hr, hts⟩
  · obtain ⟨wd, room, s, tk, bd, pa, sz, pl⟩ := r
    simp only at hp hz hb hF hs h1 h8 hr hts h1s h2 ⊢
    subst hp hz hb
    refine ⟨_, rfl, cs_size, (sizeState1 B w g wd room s tk false (bt s 0 % 128) pl ts h hs h1s (Nat.mod_lt _ (by omega))).mono ?_⟩
    rintro e w' (⟨h0, rfl, hS, hB⟩ | ⟨h0, hq, z, rfl, hS, hB⟩ | ⟨h0, hq, hq2, hq3, rfl, hS, hB⟩)
    · simp only at h0
      have hd : hdr s = none := by unfold hdr; rw [if_neg (by omega), if_neg (by omega), if_pos (by omega)]
      rw [feedP_more (front_none hd), List.append_nil] at hF
      exact ⟨_, _, _, _, rfl, hS, hB, .done hF, by omega, rfl, hs, hr, hts⟩
    · simp only at h0 hq
      have hd : hdr s = some (0, 0) := by unfold hdr; rw [if_neg (by omega), if_neg (by omega), if_neg (by omega), if_pos hq]
      rw [feedP_bad (front_zero hd), List.append_nil] at hF
      exact ⟨_, _, _, _, rfl, hS, hB, .bad rfl hF, by simp only; omega, rfl, hs, hr, hts⟩
    · simp only at h0 hq hq2 hq3
      have hd : hdr s = some (1 + 1, bt s 0 % 128 + bt s 1 * 128) := by unfold hdr; rw [if_neg (by omega), if_neg (by omega), if_neg (by omega), if_neg (by omega)]
      exact ⟨_, _, _, _, rfl, hS, hB, .pay 1 _ hd rfl rfl rfl hF, by simp only; omega, rfl, hs, hr, hts⟩
  · obtain ⟨f1, f2, f3, f4⟩ := hdr_facts hh
    refine ⟨_, rfl, cs_pay, (payState_any B w g r ts h hs (by omega) (by omega)).mono ?_⟩
    rintro e w' (⟨h0, rfl, hS, hB⟩ | ⟨h0, rfl, hS, hB⟩)
    · rw [feedP_more (by rw [front_hdr hh, body_more (by omega)]), List.append_nil] at hF
      exact ⟨_, _, _, _, rfl, hS, hB, .done (by rw [hF, hb]), by omega, rfl, hs, hr, hts⟩
    · exact ⟨_, _, _, _, rfl, hS, hB, .sum k m hh (by simp only; omega) (by simp only; omega) (by simp only; rw [hp, hz]) hb hF, by simp only; omega, rfl, hs, hr, hts⟩
  · obtain ⟨f1, f2, f3, f4⟩ := hdr_facts hh
    refine ⟨_, rfl, cs_sum, (sumState_any B w g r ts h hs (by omega) h1 h8 (by rw [hl, ByteArray.size_extract]; omega)).mono ?_⟩
    rintro e w' (⟨h0, rfl, hS, hB⟩ | ⟨h0, hq, rfl, hS, hB⟩ | ⟨h0, hq, rfl, hS, hB⟩)
    · rw [feedP_more (by rw [front_hdr hh, body_more (by omega)]), List.append_nil] at hF
      exact ⟨_, _, _, _, rfl, hS, hB, .done (by rw [hF, hb]), by omega, rfl, hs, hr, hts⟩
    · rw [hl, hp] at hq
      have hf : front r.rest r.width = some (some (r.payload, r.past + r.width)) := by rw [front_hdr hh, body_whole (by omega) hq, hl, hp]
      exact ⟨_, _, _, _, rfl, hS, hB, .take hf hb hF, by simp only; omega, rfl, hs, hr, hts⟩
    · rw [hl, hp] at hq
      rw [feedP_bad (by rw [front_hdr hh, body_bad (by omega) hq]), List.append_nil] at hF
      exact ⟨_, _, _, _, rfl, hS, hB, .bad hb hF, by simp only; omega, rfl, hs, hr, hts⟩
  · obtain ⟨f1, f2, f3, f4⟩ := whole_facts hf
    by_cases h0 : r.room = 0
    · refine ⟨_, rfl, cs_take, (takeState_full B w g r ts h h0).mono ?_⟩
      rintro e w' ⟨rfl, hS, hB⟩
      rw [h0, feedP_full hf, List.append_nil] at hF
      exact ⟨_, _, _, _, rfl, hS, hB, .bad hb hF, by omega, rfl, hs, hr, hts⟩
    · refine ⟨_, rfl, cs_take, (takeState_any B w g r ts h (by omega) hr f1 f4 (by omega)).mono ?_⟩
      rintro e w' ⟨tk, rfl, hS, hB⟩
      obtain ⟨room, hroom⟩ : ∃ room, r.room = room + 1 := ⟨r.room - 1, by omega⟩
      rw [hroom, feedP_take hf] at hF
      refine ⟨_, _, _, _, rfl, hS, hB, .size0 rfl rfl hb ?_, ?_, rfl, ?_, by simp only; omega, ?_⟩
      · simp only [hroom, Nat.add_sub_cancel]
        rw [hF]
        simp
      · simp only [ByteArray.size_extract]
        omega
      · simp only [ByteArray.size_extract]
        omega
      · simp only [List.length_append, List.length_cons, List.length_nil]
        omega
  · refine ⟨_, rfl, cs_bad, (badState_any B w g r ts h).mono ?_⟩
    rintro e w' ⟨rfl, hS, hB⟩
    exact ⟨_, _, _, _, rfl, hS, hB, .done hF, by omega, rfl, Nat.zero_le _, hr, hts⟩
  · exact absurd rfl hn
end Go.Proofs.Ytdlbmjmhlcaalaa
