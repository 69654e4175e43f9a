/-
  spec.l2Form.
-/
import Derived.Test.YtdjpohkionapiaaPlaces
namespace Go.Proofs.Ytdjpohkionapiaa
open Go.RowKit
set_option linter.unusedVariables false

/-- The value and its kids, as they lie in memory. -/
structure KMem (w : World) (a : Option Addr) (ts : List At) (g : Nat) (ks : List (List Nat)) : Prop where
  atoms : AS w a ts
  len : ks.length = ts.length
  rows : ∀ i (h : i < ks.length), ∃ ui, w.cell? ⟨g, i, none⟩ = some ui ∧ IntRow w (fun _ => True) ui ks[i]
theorem KMem.below {w w' : World} {a : Option Addr} {ts : List At} {g : Nat} {ks : List (List Nat)} (h : KMem w a ts g ks) (hb : Below w.heap.size w w') : KMem w' a ts g ks :=
  ⟨h.atoms.below hb, h.len, fun i hi => by obtain ⟨ui, h1, h2⟩ := h.rows i hi; exact ⟨ui, cell_later hb h1, h2.below hb⟩⟩

theorem spec_neg (z : Int) (h : z < 0) : IntKind.u64.wrap (IntKind.u64.wrap (-IntKind.u64.wrap (2 * IntKind.u64.wrap z)) - 1) = (zig z : Int) := by
  simp only [wrap_u]
  unfold zig
  rw [if_pos h]
  omega
theorem spec_pos (z : Int) (h : ¬ z < 0) : IntKind.u64.wrap (2 * IntKind.u64.wrap z) = (zig z : Int) := by
  simp only [wrap_u]
  unfold zig
  rw [if_neg h]
  omega

/-- 'string([]byte{b})' behind a new block. -/
theorem conv_new (W : World) (b : UInt8) (x : Value) (hx : x = .int .u8 (b.toNat : Int)) (n : Nat) (hn : W.heap.size = n) : (convert 50 9 (.slice (some ⟨n, 0, none⟩) 1 1)).run Try.prog (W.alloc (.cells #[x] 5)) = .ok (.string ⟨#[b]⟩) (W.alloc (.cells #[x] 5)) := by
  subst hn hx
  have h := run_convert_bytes_back (P := Try.prog) (W.alloc (.cells #[.int .u8 (b.toNat : Int)] 5)) 50 9 5 ⟨W.heap.size, 0, none⟩ 1 [b] Try.underlying50 Try.underlying5 Try.underlying9 (fun j hj => by
    rw [Go.WideShapes.add_plain, Nat.zero_add, World.cell?_alloc_new]
    match j, hj with
    | 0, _ => rfl)
  exact h

set_option maxRecDepth 20000 in
set_option maxHeartbeats 1000000 in
theorem l2Form_flag (a : Option Addr) (cap g co : Nat) (ts : List At) (ks : List (List Nat)) (f : List T) (x : Nat) (w : World) (hM : KMem w a ts g ks) (h300 : ts.length ≤ 300) (hx : x < ts.length) (hk : x < ks.length) (hP : PlaceOk ts ks f x hx hk) (h1 : ts[x].kind = 1) :
    Calls Try.prog 19 #[.agg #[.slice a ts.length cap], .slice (some ⟨g, 0, none⟩) ks.length co, .int .i64 x] w fun e w' => e = .returned (.string ⟨(fT f x).form.toArray⟩) ∧ Below w.heap.size w w' := by
  obtain ⟨ba, off, rfl, hc⟩ := hM.atoms.at hx
  obtain ⟨c0, c1, c2, c3⟩ := hc x hx
  have hT : fT f x = .flag ts[x].n := by
    have := hP.tree
    unfold mkT at this
    rw [if_pos h1] at this
    split at this
    · simpa using this.symm
    · simp at this
  have HF : Hid ((fT f x).form = [1, UInt8.ofNat (ts[x].n % 256).toNat]) := by
    have : (fT f x).form = [1, UInt8.ofNat (ts[x].n % 256).toNat] := by rw [hT]; simp [T.form]
    exact this
  rw [h1] at c0
  have hba : ∀ o, Below w.heap.size w (w.alloc o) := fun o => (Below.refl _ _).alloc (Nat.le_refl _) _
  have d0 : ∀ o, (w.alloc o).cell? ⟨ba, off + x * 4, none⟩ = _ := fun o => cell_later (hba o) c0
  have d1 : ∀ o, (w.alloc o).cell? ⟨ba, off + x * 4 + 1, none⟩ = _ := fun o => cell_later (hba o) c1
  have d2 : ∀ o, (w.alloc o).cell? ⟨ba, off + x * 4 + 2, none⟩ = _ := fun o => cell_later (hba o) c2
  have d3 : ∀ o, (w.alloc o).cell? ⟨ba, off + x * 4 + 3, none⟩ = _ := fun o => cell_later (hba o) c3
  have k1 : ∀ o1 o2, (convert 50 9 (.slice (some ⟨w.heap.size + 1 + 1, 0, none⟩) 1 1)).run Try.prog (((w.alloc o1).alloc o2).alloc (.cells #[.int .u8 1] 5)) = .ok (.string ⟨#[1]⟩) (((w.alloc o1).alloc o2).alloc (.cells #[.int .u8 1] 5)) := fun o1 o2 => conv_new _ 1 _ rfl _ (by simp)
  have k2 : ∀ o1 o2 o3, (convert 50 9 (.slice (some ⟨w.heap.size + 1 + 1 + 1, 0, none⟩) 1 1)).run Try.prog ((((w.alloc o1).alloc o2).alloc o3).alloc (.cells #[.int .u8 (ts[x].n % 256)] 5)) = .ok (.string ⟨#[UInt8.ofNat (ts[x].n % 256).toNat]⟩) ((((w.alloc o1).alloc o2).alloc o3).alloc (.cells #[.int .u8 (ts[x].n % 256)] 5)) := fun o1 o2 o3 => conv_new _ _ _ (by congr 1; simp only [UInt8.toNat_ofNat']; omega) _ (by simp)
  clear hc hP hM hT h1
  go_enter Try.func19, Try.ntmps19
  go_wp2
  go_ret
  refine ⟨?_, ?_⟩
  · rw [HF.out]; rfl
  · exact ((((Below.refl _ _).alloc (Nat.le_refl _) _).alloc (by simp) _).alloc (by simp; omega) _).alloc (by simp; omega) _

set_option maxRecDepth 20000 in
set_option maxHeartbeats 1000000 in
theorem l2Form_num (a : Option Addr) (cap g co : Nat) (ts : List At) (ks : List (List Nat)) (f : List T) (x : Nat) (w : World) (hM : KMem w a ts g ks) (h300 : ts.length ≤ 300) (hx : x < ts.length) (hk : x < ks.length) (hP : PlaceOk ts ks f x hx hk) (h1 : ts[x].kind = 2) :
    Calls Try.prog 19 #[.agg #[.slice a ts.length cap], .slice (some ⟨g, 0, none⟩) ks.length co, .int .i64 x] w fun e w' => e = .returned (.string ⟨(fT f x).form.toArray⟩) ∧ Below w.heap.size w w' := by
  obtain ⟨ba, off, rfl, hc⟩ := hM.atoms.at hx
  obtain ⟨c0, c1, c2, c3⟩ := hc x hx
  rw [h1] at c0
  have hba : ∀ o, Below w.heap.size w (w.alloc o) := fun o => (Below.refl _ _).alloc (Nat.le_refl _) _
  have hbb : ∀ o1 o2 o3, Below w.heap.size w (((w.alloc o1).alloc o2).alloc o3) := fun o1 o2 o3 => (((Below.refl _ _).alloc (Nat.le_refl _) _).alloc (by simp) _).alloc (by simp; omega) _
  have d0 : ∀ o, (w.alloc o).cell? ⟨ba, off + x * 4, none⟩ = _ := fun o => cell_later (hba o) c0
  have d1 : ∀ o, (w.alloc o).cell? ⟨ba, off + x * 4 + 1, none⟩ = _ := fun o => cell_later (hba o) c1
  have d2 : ∀ o, (w.alloc o).cell? ⟨ba, off + x * 4 + 2, none⟩ = _ := fun o => cell_later (hba o) c2
  have d3 : ∀ o, (w.alloc o).cell? ⟨ba, off + x * 4 + 3, none⟩ = _ := fun o => cell_later (hba o) c3
  have k1 : ∀ o1 o2, (convert 50 9 (.slice (some ⟨w.heap.size + 1 + 1, 0, none⟩) 1 1)).run Try.prog (((w.alloc o1).alloc o2).alloc (.cells #[.int .u8 2] 5)) = .ok (.string ⟨#[2]⟩) (((w.alloc o1).alloc o2).alloc (.cells #[.int .u8 2] 5)) := fun o1 o2 => conv_new _ 2 _ rfl _ (by simp)
  have hT : fT f x = .num ts[x].n := by
    have := hP.tree
    unfold mkT at this
    rw [if_neg (by omega), if_pos h1] at this
    split at this
    · simpa using this.symm
    · simp at this
  have HF : Hid ((fT f x).form = 2 :: shortL (zig ts[x].n)) := by
    have : (fT f x).form = 2 :: shortL (zig ts[x].n) := by rw [hT]; simp [T.form]
    exact this
  clear hc hP hM hT h1
  generalize ts[x].n = z at *
  have hzl := shortL_le (zig_lt z)
  by_cases hz : z < 0
  · have HZ : Hid (IntKind.u64.wrap (IntKind.u64.wrap (-IntKind.u64.wrap (2 * IntKind.u64.wrap z)) - 1) = (zig z : Int)) := spec_neg z hz
    go_enter Try.func19, Try.ntmps19
    go_wp2_with fail
    rw [HZ.out]
    refine (l2Short_any (zig z) _ (zig_lt z)).mono ?_
    rintro e w1 ⟨rfl, hb1⟩
    go_wp2
    go_ret
    refine ⟨?_, (hbb _ _ _).trans (hb1.mono (hbb _ _ _).size)⟩
    rw [HF.out]
    exact congrArg (fun b => Ending.returned (Value.string b)) (cat_arr [2] _)
  · have HZ : Hid (IntKind.u64.wrap (2 * IntKind.u64.wrap z) = (zig z : Int)) := spec_pos z hz
    go_enter Try.func19, Try.ntmps19
    go_wp2_with fail
    rw [HZ.out]
    refine (l2Short_any (zig z) _ (zig_lt z)).mono ?_
    rintro e w1 ⟨rfl, hb1⟩
    go_wp2
    go_ret
    refine ⟨?_, (hbb _ _ _).trans (hb1.mono (hbb _ _ _).size)⟩
    rw [HF.out]
    exact congrArg (fun b => Ending.returned (Value.string b)) (cat_arr [2] _)

set_option maxRecDepth 20000 in
set_option maxHeartbeats 1000000 in
theorem l2Form_text (a : Option Addr) (cap g co : Nat) (ts : List At) (ks : List (List Nat)) (f : List T) (x : Nat) (w : World) (hM : KMem w a ts g ks) (h300 : ts.length ≤ 300) (hx : x < ts.length) (hk : x < ks.length) (hP : PlaceOk ts ks f x hx hk) (h1 : ts[x].kind = 3) :
    Calls Try.prog 19 #[.agg #[.slice a ts.length cap], .slice (some ⟨g, 0, none⟩) ks.length co, .int .i64 x] w fun e w' => e = .returned (.string ⟨(fT f x).form.toArray⟩) ∧ Below w.heap.size w w' := by
  obtain ⟨ba, off, rfl, hc⟩ := hM.atoms.at hx
  obtain ⟨c0, c1, c2, c3⟩ := hc x hx
  rw [h1] at c0
  have hba : ∀ o, Below w.heap.size w (w.alloc o) := fun o => (Below.refl _ _).alloc (Nat.le_refl _) _
  have hbb : ∀ o1 o2 o3, Below w.heap.size w (((w.alloc o1).alloc o2).alloc o3) := fun o1 o2 o3 => (((Below.refl _ _).alloc (Nat.le_refl _) _).alloc (by simp) _).alloc (by simp; omega) _
  have d0 : ∀ o, (w.alloc o).cell? ⟨ba, off + x * 4, none⟩ = _ := fun o => cell_later (hba o) c0
  have d1 : ∀ o, (w.alloc o).cell? ⟨ba, off + x * 4 + 1, none⟩ = _ := fun o => cell_later (hba o) c1
  have d2 : ∀ o, (w.alloc o).cell? ⟨ba, off + x * 4 + 2, none⟩ = _ := fun o => cell_later (hba o) c2
  have d3 : ∀ o, (w.alloc o).cell? ⟨ba, off + x * 4 + 3, none⟩ = _ := fun o => cell_later (hba o) c3
  have k1 : ∀ o1 o2, (convert 50 9 (.slice (some ⟨w.heap.size + 1 + 1, 0, none⟩) 1 1)).run Try.prog (((w.alloc o1).alloc o2).alloc (.cells #[.int .u8 3] 5)) = .ok (.string ⟨#[3]⟩) (((w.alloc o1).alloc o2).alloc (.cells #[.int .u8 3] 5)) := fun o1 o2 => conv_new _ 3 _ rfl _ (by simp)
  have hT : fT f x = .text ts[x].text ∧ ts[x].text.size ≤ 1500 := by
    have := hP.tree
    unfold mkT at this
    rw [if_neg (by omega), if_neg (by omega), if_pos h1] at this
    split at this
    · rename_i hcc
      exact ⟨by simpa using this.symm, hcc.2.2⟩
    · simp at this
  have HF : Hid ((fT f x).form = 3 :: (shortL ts[x].text.size ++ ts[x].text.data.toList)) := by
    have : (fT f x).form = 3 :: (shortL ts[x].text.size ++ ts[x].text.data.toList) := by rw [hT.1]; simp [T.form]
    exact this
  have hsz := hT.2
  clear hc hP hM hT h1
  generalize ts[x].text = s at *
  have hsl := shortL_le (n := s.size) (by omega)
  go_enter Try.func19, Try.ntmps19
  go_wp2_with fail
  refine (l2Text_any s _ (by omega)).mono ?_
  rintro e w1 ⟨rfl, hb1⟩
  go_wp2
  go_ret
  refine ⟨?_, (hbb _ _ _).trans (hb1.mono (hbb _ _ _).size)⟩
  rw [HF.out]
  exact congrArg (fun b => Ending.returned (Value.string b)) (cat_arr [3] _)

end Go.Proofs.Ytdjpohkionapiaa
