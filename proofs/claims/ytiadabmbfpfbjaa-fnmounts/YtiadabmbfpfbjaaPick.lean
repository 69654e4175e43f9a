/-
  The reader of the drawn laws: spec.l1Open, (*spec.l1Rd).pick.
-/
import Derived.Test.YtiadabmbfpfbjaaRows
import Derived.WalkKit
import Derived.WalkSpells
import Derived.WalkLawsBesides
import Derived.Deep.Light
import Derived.Deep.QuietTactic
import Derived.BigQuiet
namespace Go.Proofs.Ytiadabmbfpfbjaa
open Go.RowKit

/-- A reader at block g: bytes zs at a (in a block below g), place p. -/
structure Rd (w : World) (g : Nat) (a : Option Addr) (cap : Nat) (zs : List Int) (p : Nat) : Prop where
  bytes : zs = [] ∨ ∃ b off, a = some ⟨b, off, none⟩ ∧ b < g ∧ ∀ i (h : i < zs.length), w.cell? ⟨b, off + i, none⟩ = some (.int .u8 zs[i])
  len : zs.length ≤ 2000
  wf : ∀ z ∈ zs, 0 ≤ z ∧ z ≤ 255
  c0 : w.cell? ⟨g, 0, none⟩ = some (.slice a zs.length cap)
  c1 : w.cell? ⟨g, 1, none⟩ = some (.int .i64 p)
  f1 : w.frozen? ⟨g, 1, none⟩ = false

theorem Rd.lt {w : World} {g : Nat} {a : Option Addr} {cap : Nat} {zs : List Int} {p : Nat} (h : Rd w g a cap zs p) : g < w.heap.size := by
  have h1 := h.c1
  unfold World.cell? at h1
  cases hh : w.heap[g]? with
  | none => simp [hh] at h1
  | some o => exact (Array.getElem?_eq_some_iff.1 hh).1

theorem Rd.set {w : World} {g : Nat} {a : Option Addr} {cap : Nat} {zs : List Int} {p : Nat} (h : Rd w g a cap zs p) : Rd (w.setCell ⟨g, 1, none⟩ (.int .i64 (p + 1 : Nat))) g a cap zs (p + 1) := by
  refine ⟨?_, h.len, h.wf, ?_, World.cell?_setCell_same _ _ _ h.c1, ?_⟩
  · rcases h.bytes with h' | ⟨b, off, ha, hb, hc⟩
    · exact .inl h'
    · refine .inr ⟨b, off, ha, hb, fun i hi => ?_⟩
      rw [World.cell?_setCell_other _ _ _ _ (by simp <;> omega)]; exact hc i hi
  · rw [World.cell?_setCell_other _ _ _ _ (by simp)]; exact h.c0
  · rw [World.frozen?_setCell]; exact h.f1

theorem Rd.kept {w w' : World} {g : Nat} {a : Option Addr} {cap : Nat} {zs : List Int} {p : Nat} {row : Option Nat} (h : Rd w g a cap zs p) (hg : w.grownBy w' row) (hr : ∀ k, row = some k → g < k) : Rd w' g a cap zs p := by
  have hlt := h.lt
  have hbk : ∀ k, k ≤ g → w'.heap[k]? = w.heap[k]? := fun k hk => hg.block k (by omega) (fun e => by have := hr k e.symm; omega)
  refine ⟨?_, h.len, h.wf, ?_, ?_, ?_⟩
  · rcases h.bytes with h' | ⟨b, off, ha, hb, hc⟩
    · exact .inl h'
    · exact .inr ⟨b, off, ha, hb, fun i hi => by rw [World.cell?_of_block (w := w) (hbk b (by omega))]; exact hc i hi⟩
  · rw [World.cell?_of_block (w := w) (hbk g (by omega))]; exact h.c0
  · rw [World.cell?_of_block (w := w) (hbk g (by omega))]; exact h.c1
  · rw [World.frozen?_of_block (w := w) (hbk g (by omega))]; exact h.f1

theorem xor_lo (a b : Int) (ha : 0 ≤ a) (ha2 : a < 4611686018427387904) (hb : 0 ≤ b) (hb2 : b < 4611686018427387904) : 0 ≤ bits .xor .i64 a b := by
  obtain ⟨x, rfl⟩ := Int.eq_ofNat_of_zero_le ha
  obtain ⟨y, rfl⟩ := Int.eq_ofNat_of_zero_le hb
  have hx : x < 2 ^ 62 := by omega
  have hy : y < 2 ^ 62 := by omega
  have h1 : x % 2 ^ IntKind.i64.bits = x := Nat.mod_eq_of_lt (Nat.lt_of_lt_of_le hx (by decide))
  have h2 : y % 2 ^ IntKind.i64.bits = y := Nat.mod_eq_of_lt (Nat.lt_of_lt_of_le hy (by decide))
  have h3 : x ^^^ y < 2 ^ 62 := Nat.xor_lt_two_pow hx hy
  simp only [bits, BitVec.ofInt_natCast, BitVec.toNat_xor, BitVec.toNat_ofNat, h1, h2]
  rw [IntKind.wrap_i64]
  omega
theorem grown_set (w : World) (g : Nat) (o : Nat) (v : Value) : w.grownBy (w.setCell ⟨g, o, none⟩ v) (some g) :=
  ⟨rfl, rfl, rfl, by simp [World.setCell], fun k _ hk => Below.heap_setCell _ _ _ _ (by simpa using hk)⟩

theorem pk_drewN {w w' : World} {r : Option Nat} (h : w.grownBy w' r) (n : Nat) : w.grownBy (w'.drewN n) r := ⟨h.os, h.tape, h.output, h.size, h.block⟩

set_option maxHeartbeats 1000000 in
theorem pick_any (g : Nat) (a : Option Addr) (cap : Nat) (zs : List Int) (p : Nat) (m : Nat) (w : World) (h : Rd w g a cap zs p) (hm : 1 ≤ m) (hm2 : m ≤ 1000000) (hp : p ≤ 1000000000) :
    Calls Try.prog 17 #[.pointer (some ⟨g, 0, none⟩), .int .i64 m] w fun e w' => ∃ x : Nat, e = .returned (.int .i64 x) ∧ x < m ∧ w.grownBy w' (some g) ∧ Rd w' g a cap zs (p + 1) := by
  have hR := h.set
  obtain ⟨hby, hlen, hwf, c0, c1, f1⟩ := h
  have hmB : decide ((m : Int) < 1) = false := by simp; omega
  have c1' : (w.setCell ⟨g, 1, none⟩ (.int .i64 ((p : Int) + 1))).cell? ⟨g, 1, none⟩ = some (.int .i64 ((p : Int) + 1)) := World.cell?_setCell_same _ _ _ c1
  by_cases h0 : zs.length = 0
  · have h0B : ((zs.length : Int) == 0) = true := by simp [h0]
    clear c1' h0
    go_enter Try.func17, Try.ntmps17
    go_wp2
    go_ret
    exact ⟨0, rfl, by omega, grown_set _ _ _ _, hR⟩
  · have h0B : ((zs.length : Int) == 0) = false := by simpa using h0
    obtain ⟨b, off, rfl, hbg, hc⟩ : ∃ b off, a = some ⟨b, off, none⟩ ∧ b < g ∧ ∀ i (h : i < zs.length), w.cell? ⟨b, off + i, none⟩ = some (.int .u8 zs[i]) := by
      rcases hby with rfl | hby
      · simp at h0
      · exact hby
    have hcs : ∀ i (h : i < zs.length), (w.setCell ⟨g, 1, none⟩ (.int .i64 ((p : Int) + 1))).cell? ⟨b, off + i, none⟩ = some (.int .u8 zs[i]) := fun i hi => by
      rw [World.cell?_setCell_other _ _ _ _ (by simp <;> omega)]; exact hc i hi
    clear hby hc c1'
    by_cases hk : p < zs.length
    · have hck := hcs p hk
      have hz := hwf _ (List.getElem_mem hk)
      clear hcs
      go_enter Try.func17, Try.ntmps17
      go_wp2
      go_ret
      have hx := Int.emod_nonneg zs[p] (show (m : Int) ≠ 0 by omega)
      have hx2 := Int.emod_lt_of_pos zs[p] (show (0 : Int) < m by omega)
      refine ⟨(zs[p] % (m : Int)).toNat, ?_, by omega, grown_set _ _ _ _, hR⟩
      rw [Int.toNat_of_nonneg hx]
      rfl
    · have hk' : (zs.length : Int) ≤ p := by omega
      have hck1 := hcs (p % zs.length) (Nat.mod_lt _ (by omega))
      have hck2 := hcs ((p * 7 + 3) % zs.length) (Nat.mod_lt _ (by omega))
      have hz1 := hwf _ (List.getElem_mem (Nat.mod_lt p (by omega : 0 < zs.length)))
      have hz2 := hwf _ (List.getElem_mem (Nat.mod_lt (p * 7 + 3) (by omega : 0 < zs.length)))
      have i1 := Int.emod_nonneg (p : Int) (show (zs.length : Int) ≠ 0 by omega)
      have i1' := Int.emod_lt_of_pos (p : Int) (show (0 : Int) < zs.length by omega)
      have i2 := Int.emod_nonneg ((p : Int) * 7 + 3) (show (zs.length : Int) ≠ 0 by omega)
      have i2' := Int.emod_lt_of_pos ((p : Int) * 7 + 3) (show (0 : Int) < zs.length by omega)
      have hck1' : (w.setCell ⟨g, 1, none⟩ (.int .i64 ((p : Int) + 1))).cell? ⟨b, off + ((p : Int) % (zs.length : Int)).toNat, none⟩ = some (.int .u8 (zs[p % zs.length]'(Nat.mod_lt _ (by omega)))) := by
        rw [show ((p : Int) % (zs.length : Int)).toNat = p % zs.length by rw [← Int.natCast_emod, Int.toNat_natCast]]; exact hck1
      have hck2' : (w.setCell ⟨g, 1, none⟩ (.int .i64 ((p : Int) + 1))).cell? ⟨b, off + (((p : Int) * 7 + 3) % (zs.length : Int)).toNat, none⟩ = some (.int .u8 (zs[(p * 7 + 3) % zs.length]'(Nat.mod_lt _ (by omega)))) := by
        rw [show (((p : Int) * 7 + 3) % (zs.length : Int)).toNat = (p * 7 + 3) % zs.length from by rw [show ((p : Int) * 7 + 3) = ((p * 7 + 3 : Nat) : Int) from by omega, ← Int.natCast_emod, Int.toNat_natCast]]; exact hck2
      have q1 := Int.ediv_nonneg (show (0 : Int) ≤ p by omega) (show (0 : Int) ≤ zs.length by omega)
      have q2 : (p : Int) / zs.length ≤ 1000000000 := Int.le_trans (Int.ediv_le_self _ (by omega)) (by omega)
      generalize zs[p % zs.length]'(Nat.mod_lt _ (by omega)) = z1 at *
      generalize zs[(p * 7 + 3) % zs.length]'(Nat.mod_lt _ (by omega)) = z2 at *
      go_enter Try.func17, Try.ntmps17
      clear hcs
      go_wp2
      go_quiet (fail)
      go_wp2
      go_ret
      have hX : 0 ≤ z1 * 131 + z2 * 1117 + (p : Int) * 29 + (p : Int) / zs.length * 53 ∧ z1 * 131 + z2 * 1117 + (p : Int) * 29 + (p : Int) / zs.length * 53 < 4611686018427387904 := by omega
      generalize z1 * 131 + z2 * 1117 + (p : Int) * 29 + (p : Int) / zs.length * 53 = X at *
      have hr := xor_lo X (X / 64) hX.1 hX.2 (by omega) (by omega)
      generalize bits .xor .i64 X (X / 64) = Y at *
      have hx := Int.tmod_nonneg (m : Int) hr
      have hx2 := Int.tmod_lt_of_pos Y (show (0 : Int) < m by omega)
      refine ⟨(Y.tmod (m : Int)).toNat, ?_, by omega, pk_drewN (grown_set _ _ _ _) nq, ⟨hR.bytes, hR.len, hR.wf, hR.c0, hR.c1, hR.f1⟩⟩
      rw [Int.toNat_of_nonneg hx]
      rfl

/-- What a law is told of the code that came in. -/
structure Code0 (w : World) (a : Option Addr) (cap : Nat) (zs : List Int) : Prop where
  bytes : zs = [] ∨ ∃ b off, a = some ⟨b, off, none⟩ ∧ b < w.heap.size ∧ ∀ i (h : i < zs.length), w.cell? ⟨b, off + i, none⟩ = some (.int .u8 zs[i])
  len : zs.length ≤ cap
  cap : cap ≤ maxLen
  wf : ∀ z ∈ zs, 0 ≤ z ∧ z ≤ 255

set_option maxHeartbeats 1000000 in
theorem open_any (a : Option Addr) (cap : Nat) (zs : List Int) (w : World) (h : Code0 w a cap zs) :
    Calls Try.prog 14 #[.slice a zs.length cap] w fun e w' => e = .returned (.pointer (some ⟨w.heap.size, 0, none⟩)) ∧ Below w.heap.size w w' ∧ w'.heap.size = w.heap.size + 1 ∧ ∃ zs', Rd w' w.heap.size a cap zs' 0 := by
  have hl := h.len
  by_cases hbig : (2000 : Int) < zs.length
  · go_enter Try.func14, Try.ntmps14
    go_wp2
    go_ret
    have e2 : (zs.take 2000).length = 2000 := by simp; omega
    refine ⟨rfl, (Below.refl _ _).alloc (Nat.le_refl _) _, by simp, zs.take 2000, ?_, by omega, fun z hz => h.wf z (List.mem_of_mem_take hz), ?_, ?_, ?_⟩
    · rcases h.bytes with h' | ⟨b, off, ha, hb, hc⟩
      · left; rw [h']; rfl
      · refine .inr ⟨b, off, ha, hb, fun i hi => ?_⟩
        rw [List.getElem_take]
        exact cell_later ((Below.refl _ _).alloc (Nat.le_refl _) _) (hc i (by omega))
    · rw [e2]; simp
    · simp
    · simp
  · go_enter Try.func14, Try.ntmps14
    go_wp2
    go_ret
    refine ⟨rfl, (Below.refl _ _).alloc (Nat.le_refl _) _, by simp, zs, ?_, by omega, h.wf, ?_, ?_, ?_⟩
    · rcases h.bytes with h' | ⟨b, off, ha, hb, hc⟩
      · exact .inl h'
      · exact .inr ⟨b, off, ha, hb, fun i hi => cell_later ((Below.refl _ _).alloc (Nat.le_refl _) _) (hc i hi)⟩
    · simp
    · simp
    · simp

theorem pick_int (g : Nat) (a : Option Addr) (cap : Nat) (zs : List Int) (p : Nat) (m : Int) (w : World) (h : Rd w g a cap zs p) (hm : 1 ≤ m ∧ m ≤ 1000000) (hp : p ≤ 1000000000) :
    Calls Try.prog 17 #[.pointer (some ⟨g, 0, none⟩), .int .i64 m] w fun e w' => ∃ x : Int, e = .returned (.int .i64 x) ∧ 0 ≤ x ∧ x < m ∧ w.grownBy w' (some g) ∧ Rd w' g a cap zs (p + 1) := by
  obtain ⟨k, rfl⟩ := Int.eq_ofNat_of_zero_le (show 0 ≤ m by omega)
  refine (pick_any g a cap zs p k w h (by omega) (by omega) hp).mono ?_
  rintro e w' ⟨x, rfl, hx, hg, hR⟩
  exact ⟨x, rfl, by omega, by omega, hg, hR⟩
end Go.Proofs.Ytiadabmbfpfbjaa
