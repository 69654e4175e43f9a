/-
  impl.isGlobByte, isPathByte, isPart.
-/
import Derived.Test.YtockgapdfcapnaaPartsIt
import Derived.Laws.RangeString
import Derived.Laws.RangeAny
namespace Go.Proofs.Ytockgapdfcapnaa
open Go.RowKit

theorem retB {a b : Bool} (h : a = b) : Ending.returned (Value.bool a) = Ending.returned (Value.bool b) := by rw [h]

set_option maxHeartbeats 1000000 in
theorem globByte_any (r : Int) (w : World) :
    Calls Try.prog 91 #[.int .i32 r] w fun e w' => e = .returned (.bool (globB r)) ∧ w' = w := by
  go_enter Try.func91, Try.ntmps91
  go_wp2
  all_goals (go_ret; refine ⟨retB ?_, rfl⟩; simp_all [globB, bne]; try omega)

set_option maxHeartbeats 1000000 in
theorem pathByte_any (r : Int) (w : World) :
    Calls Try.prog 86 #[.int .i32 r] w fun e w' => e = .returned (.bool (pathB r)) ∧ w' = w := by
  go_enter Try.func86, Try.ntmps86
  go_wp2_with (go_at_call 91; refine (globByte_any _ _).mono ?_; rintro e w' ⟨rfl, rfl⟩)
  all_goals (go_ret; refine ⟨retB ?_, rfl⟩; simp_all [pathB, bne])

theorem globB_high (r : Int) (h : 128 ≤ r) : globB r = false := by
  have : ¬ r ≤ 126 := by omega
  simp [globB, this]
theorem pathB_high (r : Int) (h : 128 ≤ r) : pathB r = false := by simp [pathB, globB_high r h]

/-- A test of bytes: a function of the program without memory. -/
structure ByteFn (f : FuncId) (p : Int → Bool) : Prop where
  enter : ∀ r w, (callFunc f #[.int .i32 r]).run Try.prog w = .ok (.enter f #[.int .i32 r]) w
  calls : ∀ r w, Calls Try.prog f #[.int .i32 r] w fun e w' => e = .returned (.bool (p r)) ∧ w' = w
  high : ∀ r, 128 ≤ r → p r = false

theorem globFn : ByteFn 91 globB := ⟨fun _ _ => by kernel_rfl, globByte_any, globB_high⟩
theorem pathFn : ByteFn 86 pathB := ⟨fun _ _ => by kernel_rfl, pathByte_any, pathB_high⟩

def okTo (p : Int → Bool) (s : ByteArray) (pos : Nat) : Prop := ∀ k (h : k < s.size), k < pos → p ((s[k]'h).toNat : Int) = true

theorem all_okTo (p : Int → Bool) (s : ByteArray) (h : okTo p s s.size) : s.data.toList.all (fun c => p (c.toNat : Int)) = true := by
  rw [List.all_eq_true]
  intro c hc
  obtain ⟨k, hk, rfl⟩ := List.getElem_of_mem hc
  have hk' : k < s.size := by rw [Lib.size_eq]; exact hk
  exact h k hk' hk'

theorem all_not (p : Int → Bool) (s : ByteArray) (k : Nat) (hk : k < s.size) (h : p ((s[k]'hk).toNat : Int) = false) : s.data.toList.all (fun c => p (c.toNat : Int)) = false := by
  rw [List.all_eq_false]
  exact ⟨s[k]'hk, List.getElem_mem (by rw [← Lib.size_eq]; exact hk), by rw [h]; simp⟩

def PartPost (p : Int → Bool) (s : ByteArray) (w : World) (e : Ending) (w' : World) : Prop :=
  e = .returned (.bool (partOk p s)) ∧ (w' = w ∨ ∃ pos, w' = w.iter s pos)

set_option maxRecDepth 100000 in
set_option maxHeartbeats 2000000 in
theorem isPart_any (f : FuncId) (p : Int → Bool) (hf : ByteFn f p) (s : ByteArray) (w : World) :
    Calls Try.prog 90 #[.string s, .func (.func f) #[] #[]] w fun e w' => PartPost p s w e w' := by
  have hcf := hf.enter
  have hsz : s.toList.length = s.size := by rw [Lib.toList_data, ← Lib.size_eq]
  by_cases h1 : ((s.size : Int) < 1)
  · go_enter Try.func90, Try.ntmps90
    go_wp2
    go_ret
    exact ⟨retB (by have : ¬ 1 ≤ s.size := by omega
                    simp [partOk, this]), .inl rfl⟩
  by_cases h2 : (20 < (s.size : Int))
  · go_enter Try.func90, Try.ntmps90
    go_wp2
    go_ret
    exact ⟨retB (by have : ¬ s.size ≤ 20 := by omega
                    simp [partOk, this]), .inl rfl⟩
  by_cases h3 : s.toList = [46]
  · go_enter Try.func90, Try.ntmps90
    go_wp2
    go_ret
    exact ⟨retB (by simp [partOk, h3]), .inl rfl⟩
  by_cases h4 : s.toList = [46, 46]
  · go_enter Try.func90, Try.ntmps90
    go_wp2
    go_ret
    exact ⟨retB (by simp [partOk, h4]), .inl rfl⟩
  have hall : partOk p s = s.data.toList.all (fun c => p (c.toNat : Int)) := by
    have a1 : 1 ≤ s.size := by omega
    have a2 : s.size ≤ 20 := by omega
    simp [partOk, a1, a2, h3, h4]
  have hb3 : (s.toList == [46]) = false := by simp [h3]
  have hb4 : (s.toList == [46, 46]) = false := by simp [h4]
  clear h3 h4 hsz
  go_enter Try.func90, Try.ntmps90
  go_wp2
  go_loopw [6] (fun _ wr => ∃ pos, wr = w.iter s pos ∧ okTo p s pos ∧ pos ≤ s.size) (fun _ wr => s.size - wr.iterPos w.heap.size)
  case atStart => exact ⟨0, rfl, fun k _ hk => absurd hk (by omega), Nat.zero_le _⟩
  case round =>
    obtain ⟨pos, rfl, hok, hps⟩ := hrel
    have HA : Keep (partOk p s = s.data.toList.all (fun c => p (c.toNat : Int))) := ⟨hall⟩
    clear hall
    by_cases hp : pos < s.size
    · by_cases ha : (s[pos]'hp).toNat < 128
      · have hnx : ∀ ty, (Instr.next (.pointer (some ⟨w.heap.size, 0, none⟩)) true ty).run Try.prog (w.iter s pos) = _ := fun ty => run_next_ascii w s pos ty hp ha
        have hcall := hf.calls ((s[pos]'hp).toNat : Int) (w.iter s (pos + 1))
        by_cases hb : p ((s[pos]'hp).toNat : Int) = true
        · go_wp2_with fail
          refine hcall.mono ?_
          rintro e w' ⟨rfl, rfl⟩
          rw [hb]
          go_wp2
          go_roundw
          case rel =>
            refine ⟨pos + 1, rfl, fun k hk hlt => ?_, by omega⟩
            by_cases hkp : k = pos
            · subst hkp; exact hb
            · exact hok k hk (by omega)
          case measure => simp; omega
        · have hb' : p ((s[pos]'hp).toNat : Int) = false := by simpa using hb
          go_wp2_with fail
          refine hcall.mono ?_
          rintro e w' ⟨rfl, rfl⟩
          rw [hb']
          go_wp2
          go_ret
          exact ⟨retB (by rw [HA.out, all_not p s pos hp hb']), .inr ⟨_, rfl⟩⟩
      · have hnx : ∀ ty, (Instr.next (.pointer (some ⟨w.heap.size, 0, none⟩)) true ty).run Try.prog (w.iter s pos) = _ := fun ty => run_next_any w s pos ty hp
        have hd := (decode_high s pos hp (by omega)).1
        have hcall := hf.calls ((Utf8.decode s pos).1 : Int) (w.iter s (pos + (Utf8.decode s pos).2))
        have hno := hf.high ((Utf8.decode s pos).1 : Int) (by omega)
        have hb' : p ((s[pos]'hp).toNat : Int) = false := hf.high _ (by omega)
        have HN : Keep (s.data.toList.all (fun c => p (c.toNat : Int)) = false) := ⟨all_not p s pos hp hb'⟩
        clear hb' ha
        go_wp2_with fail
        refine hcall.mono ?_
        rintro e w' ⟨rfl, rfl⟩
        rw [hno]
        go_wp2
        go_ret
        exact ⟨retB (by rw [HA.out, HN.out]), .inr ⟨_, rfl⟩⟩
    · have hnx : ∀ ty, (Instr.next (.pointer (some ⟨w.heap.size, 0, none⟩)) true ty).run Try.prog (w.iter s pos) = _ := fun ty => run_next_end w s pos ty hp
      go_wp2
      go_ret
      have : pos = s.size := by omega
      exact ⟨retB (by rw [HA.out, all_okTo p s (this ▸ hok)]), .inr ⟨_, rfl⟩⟩
end Go.Proofs.Ytockgapdfcapnaa
