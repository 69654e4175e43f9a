/-
  impl's write, by the tree.
-/
import Derived.Test.YtamaioeikcjhoaaDoorShort
import Derived.Test.YtamaioeikcjhoaaDoorFormPlain
import Derived.Laws.BitsAllLaws
import Derived.Deep.RegionHeld3
namespace Go.Proofs.YtamaioeikcjhoaaDoor
open Go.RowKit

theorem not_nat (b : Nat) (hb : b < 18446744073709551616) : (18446744073709551615 ^^^ b : Nat) = 18446744073709551615 - b := by
  have h : ((BitVec.allOnes 64) ^^^ BitVec.ofNat 64 b) = ~~~ (BitVec.ofNat 64 b) := BitVec.allOnes_xor
  have h2 := congrArg BitVec.toNat h
  rw [BitVec.toNat_xor, BitVec.toNat_not, BitVec.toNat_allOnes, BitVec.toNat_ofNat, Nat.mod_eq_of_lt (by simpa using hb)] at h2
  simpa using h2
theorem zig_pos (n : Int) (h : ¬ n < 0) : IntKind.u64.wrap (IntKind.u64.wrap n * 2) = (zig n : Int) := by
  rw [wrap_u, wrap_u]
  unfold zig
  rw [if_neg h]
  omega
theorem zig_neg (n : Int) (h : n < 0) : bits .xor .u64 IntKind.u64.max (IntKind.u64.wrap (IntKind.u64.wrap n * 2)) = (zig n : Int) := by
  obtain ⟨b, hb, hlt⟩ : ∃ b : Nat, IntKind.u64.wrap (IntKind.u64.wrap n * 2) = (b : Int) ∧ b < 18446744073709551616 := by
    rw [wrap_u, wrap_u]
    exact ⟨(n % 18446744073709551616 * 2 % 18446744073709551616).toNat, by omega, by omega⟩
  have hx := u64_xor_nat 18446744073709551615 b (by omega) hlt
  rw [not_nat b hlt] at hx
  rw [hb, show IntKind.u64.max = ((18446744073709551615 : Nat) : Int) from rfl, hx]
  rw [wrap_u, wrap_u] at hb
  unfold zig
  rw [if_pos h]
  omega

set_option maxRecDepth 20000 in
set_option maxHeartbeats 1000000 in
theorem unsigned_any (n : Int) (w : World) :
    Calls Tryd.prog 105 #[.int .i64 n] w fun e w' => e = .returned (.int .u64 (zig n)) ∧ w = w' := by
  by_cases h : n < 0
  · have HZ : Hid (bits .xor .u64 IntKind.u64.max (IntKind.u64.wrap (IntKind.u64.wrap n * 2)) = (zig n : Int)) := zig_neg n h
    go_enter Tryd.func105, Tryd.ntmps105
    go_wp2
    go_ret
    exact ⟨by rw [← HZ.out]; rfl, rfl⟩
  · have HZ : Hid (IntKind.u64.wrap (IntKind.u64.wrap n * 2) = (zig n : Int)) := zig_pos n h
    go_enter Tryd.func105, Tryd.ntmps105
    go_wp2
    go_ret
    exact ⟨by rw [← HZ.out]; rfl, rfl⟩

def WPost (base : Nat) (w : World) (n : Nat) (xs : List Value) (l : List UInt8) (e : Ending) (w' : World) : Prop :=
  ∃ v', e = .returned v' ∧ w'.ownsRow base 5 1 v' (n + l.length) (xs ++ bc l) ∧ Below base w w'

def WriteAt (t : T) : Prop := ∀ (w : World) (ok : Nat → Prop) (v fv : Value) (n base : Nat) (xs : List Value), Rep w ok t v → (∀ b, ok b → b < base) → base ≤ w.heap.size → w.ownsRow base 5 1 fv n xs → n + t.form.length ≤ 1099511627776 →
  ∃ TT F x, v = .iface TT x ∧ (∀ w, (method 274 TT x "loop.example/kilntree/impl.write").run Tryd.prog w = .ok (F, x) w) ∧ (∀ fv w, (callFunc F #[x, fv]).run Tryd.prog w = .ok (.enter F #[x, fv]) w) ∧ Calls Tryd.prog F #[x, fv] w fun e w' => WPost base w n xs t.form e w'

theorem cw_flag (x fv : Value) (w : World) : (callFunc 101 #[x, fv]).run Tryd.prog w = .ok (.enter 101 #[x, fv]) w := by kernel_rfl
theorem mw_flag (x : Value) (w : World) : (method 274 122 x "loop.example/kilntree/impl.write").run Tryd.prog w = .ok (101, x) w := by kernel_rfl
theorem cw_int (x fv : Value) (w : World) : (callFunc 103 #[x, fv]).run Tryd.prog w = .ok (.enter 103 #[x, fv]) w := by kernel_rfl
theorem mw_int (x : Value) (w : World) : (method 274 123 x "loop.example/kilntree/impl.write").run Tryd.prog w = .ok (103, x) w := by kernel_rfl
theorem cw_text (x fv : Value) (w : World) : (callFunc 107 #[x, fv]).run Tryd.prog w = .ok (.enter 107 #[x, fv]) w := by kernel_rfl
theorem mw_text (x : Value) (w : World) : (method 274 125 x "loop.example/kilntree/impl.write").run Tryd.prog w = .ok (107, x) w := by kernel_rfl
theorem cw_list (x fv : Value) (w : World) : (callFunc 110 #[x, fv]).run Tryd.prog w = .ok (.enter 110 #[x, fv]) w := by kernel_rfl
theorem mw_list (x : Value) (w : World) : (method 274 128 x "loop.example/kilntree/impl.write").run Tryd.prog w = .ok (110, x) w := by kernel_rfl
theorem cw_rec (x fv : Value) (w : World) : (callFunc 112 #[x, fv]).run Tryd.prog w = .ok (.enter 112 #[x, fv]) w := by kernel_rfl
theorem mw_rec (x : Value) (w : World) : (method 274 133 x "loop.example/kilntree/impl.write").run Tryd.prog w = .ok (112, x) w := by kernel_rfl

theorem news_1 (w : World) (x : Value) (t : TypeId) (n : Nat) (hn : w.heap.size = n) : ∀ j u, [x][j]? = some u → (w.alloc (.cells #[x] t)).drew.cell? (Addr.add ⟨n, 0, none⟩ j) = some u := by
  intro j u hj
  subst hn
  exact cell_one_new w x t j u hj
theorem ne_lies {fv : Value} {n g H a b : Nat} (hne : some n ≠ fv.ownBlock) (hat : fv.ownBlock = some g ∨ g = H) (hH : n < H) : some n ≠ (Value.slice (some ⟨g, 0, none⟩) a b).ownBlock := by
  intro e
  have e' : n = g := by simpa [Value.ownBlock] using e
  rcases hat with h | h
  · exact hne (by rw [h, e'])
  · omega
theorem own_end {w : World} {base : Nat} {v : Value} {n : Nat} {xs : List Value} {c : Value} {b : UInt8} {l : List UInt8} (hc : c = .int .u8 (b.toNat : Int)) (h : w.ownsRow base 5 1 v (n + 1 + l.length) (xs ++ [c] ++ bc l)) : w.ownsRow base 5 1 v (n + (b :: l).length) (xs ++ bc (b :: l)) := by
  subst hc
  have e1 : n + (b :: l).length = n + 1 + l.length := by simp only [List.length_cons]; omega
  have e2 : xs ++ bc (b :: l) = xs ++ [.int .u8 (b.toNat : Int)] ++ bc l := by simp [bc]
  rw [e1, e2]
  exact h


set_option maxRecDepth 20000 in
set_option maxHeartbeats 1000000 in
theorem write_flag (z : Int) : WriteAt (.flag z) := by
  intro w ok v fv n base xs h hok hbase hown hn
  simp only [Rep.flag] at h
  obtain ⟨i0, hi, hz0, hz1, hz2⟩ := info_parts Tryd.infoByte
  simp only [T.form, List.length_cons, List.length_nil] at hn
  refine ⟨_, _, _, h, mw_flag _, cw_flag _, ?_⟩
  simp only [T.form]
  clear h hok
  go_enter Tryd.func101, Tryd.ntmps101
  go_wp2_with (at_builtin; refine wpList_append_own _ rfl _ _ 30 rfl base 5 i0 _ 1 1 Tryd.underlying30 hi hz0 hz1 hz2 rfl (by decide) _ _ _ rfl ((hown.alloc _).alloc _) ⟨w.heap.size + 1, 0, none⟩ 2 2 [.int .u8 1, .int .u8 (z % 256)] rfl rfl (by exact news_2 _ _ _ _ _ (by simp)) (by simp [Value.oneCell']) (by unfold maxLen; omega) (by omega) (by simp; omega) ?_; intro v1 w1 hown1 hgrow1 _)
  go_ret
  refine ⟨_, rfl, ?_, (((Below.refl _ _).alloc hbase _).alloc (by simp; omega) _).grown hgrow1 (by simp; omega) (owns_base hown)⟩
  have e : bc [1, UInt8.ofNat (z % 256).toNat] = [.int .u8 1, .int .u8 (z % 256)] := by
    simp only [bc, List.map_cons, List.map_nil, UInt8.toNat_ofNat']
    congr 3
    omega
  rw [e]
  exact hown1

set_option maxRecDepth 20000 in
set_option maxHeartbeats 1000000 in
theorem write_num (z : Int) : WriteAt (.num z) := by
  intro w ok v fv n base xs h hok hbase hown hn
  simp only [Rep.num] at h
  obtain ⟨i0, hi, hz0, hz1, hz2⟩ := info_parts Tryd.infoByte
  simp only [T.form, List.length_cons] at hn
  refine ⟨_, _, _, h, mw_int _, cw_int _, ?_⟩
  simp only [T.form]
  clear h hok
  have hzl := shortL_le (zig_lt z)
  have hne : some w.heap.size ≠ fv.ownBlock := fun e => by have := own_lt hown e.symm; omega
  go_enter Tryd.func103, Tryd.ntmps103
  go_wp2_with fail
  go_region_held3 (fun w' => w'.cell? ⟨w.heap.size, 0, none⟩ = some (.int .i64 z)) (first | go_keep | (exact hgrow1.cell (by assumption) hne) | (exact hg2.1.cell (by assumption) (ne_lies hne hat1 (by show w.heap.size < w.heap.size + 2; omega))))
    ((first | (go_at_call 105; refine (unsigned_any z _).mono ?_; rintro e w' ⟨rfl, rfl⟩) | (go_at_call 104; refine (appendShort_any _ _ _ base _ _ hown1 (zig_lt z) (by omega) (by have := hgrow1.size; simp at this; omega)).mono ?_; rintro e w2 ⟨v2, rfl, hown2, hg2⟩) | (refine step_append_lies _ (by rfl) _ _ 30 (by rfl) base 5 i0 _ 1 1 Tryd.underlying30 hi hz0 hz1 hz2 rfl (by decide) fv n xs (by rfl) (by exact ((hown.alloc _).alloc _).drew) ⟨w.heap.size + 1, 0, none⟩ 1 1 [.int .u8 2] (by rfl) (by rfl) (by exact news_1 _ _ _ _ (by simp)) (by simp [Value.oneCell']) (by omega) (by unfold maxLen; omega) (by omega) (by simp; omega) (w.heap.size + 2) (by simp) ?_; intro g1 cap1 w1 hown1 hgrow1 hat1 hlt1)))
  go_wp2
  go_ret
  have hb1 : Below base w w1 := (((Below.refl _ _).alloc hbase _).alloc (by simp; omega) _).drew.grown hgrow1 (by simp; omega) (owns_base hown)
  exact ⟨_, rfl, own_end rfl hown2, hb1.grown hg2.1 (Nat.le_trans hbase hb1.size) (owns_base hown1)⟩

set_option maxRecDepth 20000 in
set_option maxHeartbeats 1000000 in
theorem write_text (s : ByteArray) : WriteAt (.text s) := by
  intro w ok v fv n base xs h hok hbase hown hn
  simp only [Rep.text] at h
  obtain ⟨i0, hi, hz0, hz1, hz2⟩ := info_parts Tryd.infoByte
  simp only [T.form, List.length_cons] at hn
  refine ⟨_, _, _, h, mw_text _, cw_text _, ?_⟩
  simp only [T.form]
  clear h hok
  have hsz : s.data.toList.length = s.size := by rw [Array.length_toList]; rfl
  rw [List.length_append, hsz] at hn
  have hss : s.size ≤ 1099511627776 := by omega
  clear hsz
  have hn1 : n + 1 ≤ 1099511627776 := by omega
  clear hn
  have hne : some w.heap.size ≠ fv.ownBlock := fun e => by have := own_lt hown e.symm; omega
  go_enter Tryd.func107, Tryd.ntmps107
  go_wp2_with fail
  go_region_held3 (fun w' => w'.cell? ⟨w.heap.size, 0, none⟩ = some (.string s)) (first | go_keep | (exact hgrow1.cell (by assumption) hne) | (exact hg2.cell (by assumption) (ne_lies hne hat1 (by show w.heap.size < w.heap.size + 2; omega))))
    ((first | (go_at_call 108; refine (appendText_any _ _ base _ s _ hown1 hss hn1 (by have := hgrow1.size; simp at this; omega)).mono ?_; rintro e w2 ⟨v2, rfl, hown2, hg2⟩) | (refine step_append_lies _ (by rfl) _ _ 30 (by rfl) base 5 i0 _ 1 1 Tryd.underlying30 hi hz0 hz1 hz2 rfl (by decide) fv n xs (by rfl) (by exact ((hown.alloc _).alloc _).drew) ⟨w.heap.size + 1, 0, none⟩ 1 1 [.int .u8 3] (by rfl) (by rfl) (by exact news_1 _ _ _ _ (by simp)) (by simp [Value.oneCell']) (by omega) (by unfold maxLen; omega) (by omega) (by simp; omega) (w.heap.size + 2) (by simp) ?_; intro g1 cap1 w1 hown1 hgrow1 hat1 hlt1)))
  go_wp2
  go_ret
  have hb1 : Below base w w1 := (((Below.refl _ _).alloc hbase _).alloc (by simp; omega) _).drew.grown hgrow1 (by simp; omega) (owns_base hown)
  exact ⟨_, rfl, own_end rfl hown2, hb1.grown hg2 (Nat.le_trans hbase hb1.size) (owns_base hown1)⟩
end Go.Proofs.YtamaioeikcjhoaaDoor
