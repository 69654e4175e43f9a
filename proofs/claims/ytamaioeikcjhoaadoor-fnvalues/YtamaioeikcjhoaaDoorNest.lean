/-
  nest, by the tree.
-/
import Derived.Test.YtamaioeikcjhoaaDoorPartOf
namespace Go.Proofs.YtamaioeikcjhoaaDoor
open Go.RowKit

def NestAt (t : T) : Prop := ∀ (w : World) (ok : Nat → Prop) (v : Value), Rep w ok t v → (∀ b, ok b → b < w.heap.size) → t.nest ≤ 1000 →
  ∃ TT F x, v = .iface TT x ∧ (∀ w, (method 274 TT x "loop.example/kilntree/impl.nest").run Tryd.prog w = .ok (F, x) w) ∧ (∀ w, (callFunc F #[x]).run Tryd.prog w = .ok (.enter F #[x]) w) ∧ Calls Tryd.prog F #[x] w fun e w' => e = .returned (.int .i64 t.nest) ∧ Below w.heap.size w w'

theorem cf_flag (x : Value) (w : World) : (callFunc 100 #[x]).run Tryd.prog w = .ok (.enter 100 #[x]) w := by kernel_rfl
theorem me_flag (x : Value) (w : World) : (method 274 122 x "loop.example/kilntree/impl.nest").run Tryd.prog w = .ok (100, x) w := by kernel_rfl
theorem cf_int (x : Value) (w : World) : (callFunc 102 #[x]).run Tryd.prog w = .ok (.enter 102 #[x]) w := by kernel_rfl
theorem me_int (x : Value) (w : World) : (method 274 123 x "loop.example/kilntree/impl.nest").run Tryd.prog w = .ok (102, x) w := by kernel_rfl
theorem cf_text (x : Value) (w : World) : (callFunc 106 #[x]).run Tryd.prog w = .ok (.enter 106 #[x]) w := by kernel_rfl
theorem me_text (x : Value) (w : World) : (method 274 125 x "loop.example/kilntree/impl.nest").run Tryd.prog w = .ok (106, x) w := by kernel_rfl
theorem cf_list (x : Value) (w : World) : (callFunc 109 #[x]).run Tryd.prog w = .ok (.enter 109 #[x]) w := by kernel_rfl
theorem me_list (x : Value) (w : World) : (method 274 128 x "loop.example/kilntree/impl.nest").run Tryd.prog w = .ok (109, x) w := by kernel_rfl
theorem cf_rec (x : Value) (w : World) : (callFunc 111 #[x]).run Tryd.prog w = .ok (.enter 111 #[x]) w := by kernel_rfl
theorem me_rec (x : Value) (w : World) : (method 274 133 x "loop.example/kilntree/impl.nest").run Tryd.prog w = .ok (111, x) w := by kernel_rfl

set_option maxRecDepth 20000 in
set_option maxHeartbeats 1000000 in
theorem nest_flag (n : Int) : NestAt (.flag n) := by
  intro w ok v h _ _
  simp only [Rep.flag] at h
  refine ⟨_, _, _, h, me_flag _, cf_flag _, ?_⟩
  go_enter Tryd.func100, Tryd.ntmps100
  go_wp2
  go_ret
  exact ⟨by rw [T.nest_flag]; rfl, (Below.refl _ _).alloc (Nat.le_refl _) _⟩
set_option maxRecDepth 20000 in
set_option maxHeartbeats 1000000 in
theorem nest_num (n : Int) : NestAt (.num n) := by
  intro w ok v h _ _
  simp only [Rep.num] at h
  refine ⟨_, _, _, h, me_int _, cf_int _, ?_⟩
  go_enter Tryd.func102, Tryd.ntmps102
  go_wp2
  go_ret
  exact ⟨by rw [T.nest_num]; rfl, (Below.refl _ _).alloc (Nat.le_refl _) _⟩
set_option maxRecDepth 20000 in
set_option maxHeartbeats 1000000 in
theorem nest_text (s : ByteArray) : NestAt (.text s) := by
  intro w ok v h _ _
  simp only [Rep.text] at h
  refine ⟨_, _, _, h, me_text _, cf_text _, ?_⟩
  go_enter Tryd.func106, Tryd.ntmps106
  go_wp2
  go_ret
  exact ⟨by rw [T.nest_text]; rfl, (Below.refl _ _).alloc (Nat.le_refl _) _⟩

theorem nestL_take (ks : List T) (k : Nat) (h : k < ks.length) : nestL (ks.take (k + 1)) = max (nestL (ks.take k)) (ks[k].nest + 1) := by
  rw [List.take_succ_eq_append_getElem h, nestL_snoc]
theorem nestL_take_le (ks : List T) (k : Nat) : nestL (ks.take k) ≤ nestL ks := by
  have := nestL_append (ks.take k) (ks.drop k)
  rw [List.take_append_drop] at this
  omega

theorem max_int (m q : Nat) : Value.int .i64 (if (m : Int) < 1 + (q : Int) then 1 + (q : Int) else (m : Int)) = .int .i64 ((max m (q + 1) : Nat) : Int) := by
  congr 1
  by_cases h : (m : Int) < 1 + (q : Int)
  · rw [if_pos h]; omega
  · rw [if_neg h]; omega

set_option maxRecDepth 20000 in
set_option maxHeartbeats 1000000 in
theorem nest_list (ks : List T) (ih : ∀ t ∈ ks, NestAt t) : NestAt (.list ks) := by
  intro w ok v h hok hn
  simp only [T.nest_list] at hn
  simp only [Rep.list] at h
  obtain ⟨ad, cap, rfl, h300, hr⟩ := h
  refine ⟨_, _, _, rfl, me_list _, cf_list _, ?_⟩
  simp only [T.nest_list]
  go_enter Tryd.func109, Tryd.ntmps109
  go_wp2
  go_loopw [3, 9] (fun m i wr => ∃ (k : Nat), k ≤ ks.length ∧ i = .int .i64 k ∧ m = .int .i64 (nestL (ks.take k)) ∧ Below w.heap.size w wr) (fun _ i _ => ks.length - (intOf i).toNat)
  case atStart => exact ⟨0, Nat.zero_le _, rfl, rfl, (Below.refl _ _).alloc (Nat.le_refl _) _⟩
  case round =>
    obtain ⟨k, hk, rfl, rfl, hb⟩ := hrel
    by_cases hlt : k < ks.length
    · obtain ⟨b, rfl, hbk, hrl⟩ := hr.resolve_left (by omega)
      obtain ⟨u, hc, hu⟩ := hrl.get k hlt
      rw [Nat.zero_add] at hc
      have c := cell_later hb hc
      have hu' := Rep.mono (w' := wr) (ok' := ok) (fun b hb' => hb.block b (hok b hb')) (fun _ h => h) _ _ hu
      have hle := nestL_take_le ks (k + 1)
      have HT : Hid (nestL (ks.take (k + 1)) = max (nestL (ks.take k)) (ks[k].nest + 1)) := nestL_take ks k hlt
      have hb1 : nestL (ks.take k) ≤ 1000 := Nat.le_trans (nestL_take_le ks k) hn
      have hb2 : ks[k].nest + 1 ≤ 1000 := Nat.le_trans (nestL_mem (List.getElem_mem hlt)) hn
      obtain ⟨TT, F, x, rfl, hme, hcf, hcall⟩ := ih ks[k] (List.getElem_mem hlt) wr ok u hu' (fun b hb' => Nat.lt_of_lt_of_le (hok b hb') hb.size) (by omega)
      generalize nestL (ks.take k) = m at *
      generalize ks[k].nest = q at *
      clear hr hrl hu hu' ih hc hle
      go_wp2_with fail
      refine hcall.mono ?_
      rintro e w2 ⟨rfl, hb2'⟩
      clear hcall hme hcf
      go_wp2
      go_roundw
      case rel => exact ⟨k + 1, by omega, by go_num, by rw [HT.out]; exact max_int m q, hb.trans (hb2'.mono hb.size)⟩
      case measure => simp [intOf]; omega
    · obtain rfl : k = ks.length := by omega
      go_wp2
      go_ret
      rw [List.take_length] at *
      exact ⟨rfl, hb⟩

set_option maxRecDepth 20000 in
set_option maxHeartbeats 1000000 in
theorem nest_rec (ns : List ByteArray) (ks : List T) (ih : ∀ t ∈ ks, NestAt t) : NestAt (.recd ns ks) := by
  intro w ok v h hok hn
  simp only [T.nest_recd] at hn
  simp only [Rep.recd] at h
  obtain ⟨ad, cap, rfl, _, h300, hr⟩ := h
  refine ⟨_, _, _, rfl, me_rec _, cf_rec _, ?_⟩
  simp only [T.nest_recd]
  go_enter Tryd.func111, Tryd.ntmps111
  go_wp2
  go_loopw [3, 9] (fun m i wr => ∃ (k : Nat), k ≤ ks.length ∧ i = .int .i64 k ∧ m = .int .i64 (nestL (ks.take k)) ∧ Below w.heap.size w wr) (fun _ i _ => ks.length - (intOf i).toNat)
  case atStart => exact ⟨0, Nat.zero_le _, rfl, rfl, (Below.refl _ _).alloc (Nat.le_refl _) _⟩
  case round =>
    obtain ⟨k, hk, rfl, rfl, hb⟩ := hrel
    by_cases hlt : k < ks.length
    · obtain ⟨b, rfl, hbk, hrl⟩ := hr.resolve_left (by omega)
      obtain ⟨hc0, u, hc, hu⟩ := hrl.get k hlt
      rw [Nat.zero_add, Nat.mul_comm] at hc hc0
      have c := cell_later hb hc
      have c0 := cell_later hb hc0
      have hu' := Rep.mono (w' := wr) (ok' := ok) (fun b hb' => hb.block b (hok b hb')) (fun _ h => h) _ _ hu
      have HT : Hid (nestL (ks.take (k + 1)) = max (nestL (ks.take k)) (ks[k].nest + 1)) := nestL_take ks k hlt
      have hb1 : nestL (ks.take k) ≤ 1000 := Nat.le_trans (nestL_take_le ks k) hn
      have hb2 : ks[k].nest + 1 ≤ 1000 := Nat.le_trans (nestL_mem (List.getElem_mem hlt)) hn
      have hba : ∀ o, Below wr.heap.size wr (wr.alloc o) := fun o => (Below.refl _ _).alloc (Nat.le_refl _) _
      have hih := fun (w' : World) (hw : Below wr.heap.size wr w') => ih ks[k] (List.getElem_mem hlt) w' ok u (Rep.mono (fun b hb' => hw.block b (Nat.lt_of_lt_of_le (hok b hb') hb.size)) (fun _ h => h) _ _ hu') (fun b hb' => Nat.lt_of_lt_of_le (Nat.lt_of_lt_of_le (hok b hb') hb.size) hw.size) (by omega)
      obtain ⟨TT0, x0, rfl⟩ := rep_iface hu'
      generalize nestL (ks.take k) = m at *
      generalize ks[k].nest = q at *
      generalize ns.getD k ⟨#[]⟩ = nk at *
      obtain ⟨TT, F, x, hv, hme, hcf, hcall⟩ := hih _ (hba (.cells #[.string nk, .iface TT0 x0] 142))
      simp only [Value.iface.injEq] at hv
      obtain ⟨rfl, rfl⟩ := hv
      clear hr hrl hu hu' ih hc hc0 hih
      go_wp2_with fail
      refine hcall.mono ?_
      rintro e w2 ⟨rfl, hb2'⟩
      clear hcall hme hcf
      go_wp2
      go_roundw
      case rel => exact ⟨k + 1, by omega, by go_num, by rw [HT.out]; exact max_int m q, (hb.alloc hb.size _).trans (hb2'.mono (by simp; exact Nat.le_trans hb.size (by omega)))⟩
      case measure => simp [intOf]; omega
    · obtain rfl : k = ks.length := by omega
      go_wp2
      go_ret
      rw [List.take_length] at *
      exact ⟨rfl, hb⟩

theorem nest_any (t : T) : NestAt t := T.ind nest_flag nest_num nest_text nest_list nest_rec t
theorem nest_all (ks : List T) : ∀ t ∈ ks, NestAt t := fun t _ => nest_any t

/-- A stack of so many atoms nests no deeper. -/
theorem nest_le (ts : List At) (k : Nat) (hk : k ≤ ts.length) : ∀ st, bldT (ts.take k) = some st → ∀ t ∈ st, t.nest ≤ k := by
  induction k with
  | zero => intro st h t ht; simp [bldT] at h; subst h; simp at ht
  | succ k ih =>
    intro st h t ht
    rw [bldT_take ts k (by omega), Option.bind_eq_some_iff] at h
    obtain ⟨st1, h1, h2⟩ := h
    have ih' := ih (by omega) st1 h1
    unfold stepT at h2
    split at h2
    · obtain ⟨u, hu, rfl⟩ := Option.map_eq_some_iff.1 h2
      rcases List.mem_append.1 ht with h' | h'
      · have := ih' t (List.mem_of_mem_take h'); omega
      · simp at h'
        subst h'
        rw [mkT_nest (by simp; omega) hu]
        have hall : ∀ (l : List T), (∀ t ∈ l, t.nest ≤ k) → nestL l ≤ k + 1 := by
          intro l hl
          induction l with
          | nil => simp [nestL]
          | cons x l ihl =>
            have h1 := hl x (by simp)
            have h2 := ihl (fun t ht => hl t (by simp [ht]))
            simp only [nestL]; omega
        exact hall _ (fun t ht => ih' t (List.mem_of_mem_drop ht))
    · simp at h2
end Go.Proofs.YtamaioeikcjhoaaDoor
