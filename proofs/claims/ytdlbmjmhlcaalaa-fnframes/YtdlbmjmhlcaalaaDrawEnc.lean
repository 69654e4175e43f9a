/-
  spec.DrawEncode.
-/
import Derived.Test.YtdlbmjmhlcaalaaDrawPays
import Derived.Test.YtdlbmjmhlcaalaaSpecDec
import Derived.Deep.RegionHeld3
namespace Go.Proofs.Ytdlbmjmhlcaalaa
open Go.RowKit

/-- Texts that were drawn: few, and short. -/
def EncPost (w : World) (e : Ending) (w' : World) : Prop :=
  ∃ ad cp ss m, e = .returned (.tuple #[.slice ad (List.length ss) cp, .int .i64 m]) ∧ w'.ownsRow w.heap.size 9 1 (.slice ad ss.length cp) ss.length (ss.map .string) ∧ ss.length ≤ 510 ∧ (∀ s ∈ ss, s.size ≤ 2000) ∧ Below w.heap.size w w'

theorem below_gr {w w1 w' : World} {g : Nat} (h : Below w.heap.size w w1) (hg : w1.grownBy w' (some g)) (hge : w.heap.size ≤ g) : Below w.heap.size w w' := h.grown hg h.size (fun k hk => by cases hk; exact hge)

theorem lit2b (q : Nat) (hq : q < 2) : ∃ c : Int, (#[.int .i64 0, .int .i64 9] : Array Value)[q]? = some (.int .i64 c) ∧ ∀ h, ([.int .i64 0, .int .i64 9] : List Value)[q]'h = .int .i64 c := by
  match q, hq with
  | 0, _ => exact ⟨_, rfl, fun _ => rfl⟩
  | 1, _ => exact ⟨_, rfl, fun _ => rfl⟩
def lenV : Value → Nat
  | .slice _ n _ => n
  | _ => 0
theorem below_g {w w1 w' : World} {g : Nat} (h : Below g w w1) (hg : w1.grownBy w' (some g)) (hs : g ≤ w1.heap.size := by omega) : Below g w w' := h.grown hg hs (fun k hk => by cases hk; exact Nat.le_refl _)

set_option maxRecDepth 20000 in
set_option maxHeartbeats 4000000 in
theorem drawEnc_any (a : Option Addr) (cap : Nat) (zs : List Int) (w : World) (h : Code0 w a cap zs) :
    Calls Try.prog 23 #[.slice a zs.length cap] w fun e w' => EncPost w e w' := by
  obtain ⟨i0, hi, hz0, hz1, hz2⟩ := info_parts Try.infoStr
  go_enter Try.func23, Try.ntmps23
  go_wp2_with fail
  refine (open_any a cap zs w h).mono ?_
  rintro e w1 ⟨rfl, hb1, hs1, zs', hR1⟩
  generalize hg : w.heap.size = g at *
  go_wp2_with fail
  refine (pays_any g a cap zs' 0 w1 hR1 (by omega)).mono ?_
  rintro e w2 ⟨ad, cp, ss, rfl, ho2, hl2, hz2', ⟨p2, hp2, hR2⟩, hgr2⟩
  go_wp2_with fail
  refine (pick_any g a cap zs' p2 16 w2 hR2 (by omega) (by omega) (by omega)).mono ?_
  rintro e w3 ⟨x, rfl, hx, hgr3, hR3⟩
  have ho3 := owns_rd ho2 hgr3 (by omega)
  have hb3 : Below g w w3 := by
    have := below_gr (w := w) (w1 := w1) (w' := w3) (g := g) (by rw [hg]; exact hb1) (gr_trans hgr2 hgr3) (by omega)
    rw [hg] at this
    exact this
  clear ho2 hR2 hR1 hgr2 hgr3
  by_cases h0 : x = 0
  · have hB : ((x : Int) == 0) = true := by simp; omega
    clear h0
    go_wp2_with fail
    refine (many_any ⟨#[112]⟩ 1001 w3 (by show 1 * 1001 ≤ _; omega) (by omega) (by show 1 ≤ 1; omega) (by show 1 ≤ _; omega)).mono ?_
    rintro e w3' ⟨t, rfl, ht, rfl⟩
    have ht2 : t.size ≤ 2000 := by rw [ht]; show 1 * 1001 ≤ 2000; omega
    clear ht
    go_wp2_with fail
    have hb4 : Below w3.heap.size w3 (w3.alloc (.cells #[.string ⟨#[]⟩, .string t] 9)) := (Below.refl _ _).alloc (Nat.le_refl _) _
    refine (pick_any g a cap zs' (p2 + 1) 2 _ (hR3.below hb4) (by omega) (by omega) (by omega)).mono ?_
    rintro e w5 ⟨y, rfl, hy, hgr5, hR5⟩
    have hne : some w3.heap.size ≠ some g := by have := hR3.lt; simp; omega
    have hcell : ∀ j v, (w3.alloc (.cells #[.string ⟨#[]⟩, .string t] 9)).cell? ⟨w3.heap.size, j, none⟩ = some v → w5.cell? ⟨w3.heap.size, j, none⟩ = some v := fun j v hv => hgr5.cell (a := ⟨w3.heap.size, j, none⟩) hv hne
    obtain ⟨u, hu, hu2⟩ : ∃ u : ByteArray, w5.cell? ⟨w3.heap.size, y, none⟩ = some (.string u) ∧ u.size ≤ 2000 := by
      match y, hy with
      | 0, _ => exact ⟨⟨#[]⟩, hcell 0 _ (by simp), Nat.zero_le _⟩
      | 1, _ => exact ⟨t, hcell 1 _ (by simp), ht2⟩
    have ho5 := owns_rd (ho3.alloc (.cells #[.string ⟨#[]⟩, .string t] 9)) hgr5 (by omega)
    have hb5 : Below g w w5 := below_g (hb3.trans (hb4.mono (by have := hR3.lt; omega))) hgr5 (by have := hR3.lt; simp; omega)
    have hw5 : w1.heap.size ≤ w5.heap.size := by have := hR5.lt; omega
    clear hcell hb4 hgr5 ho3 hR3
    go_wp2_with (at_builtin; refine wpList_append_own _ rfl _ _ 22 rfl w1.heap.size 9 i0 _ 1 16 Try.underlying22 hi hz0 hz1 hz2 rfl (by decide) _ _ _ rfl (ho5.alloc _) ⟨w5.heap.size, 0, none⟩ 1 1 [.string u] rfl rfl (cell_one_new _ _ _) (by simp [Value.oneCell']) (by unfold maxLen; omega) (by omega) (by simp; omega) ?_; intro v6 w6 ho6 hg6 _)
    have ho6' : w6.ownsRow w1.heap.size 9 1 v6 (ss ++ [u]).length ((ss ++ [u]).map .string) := by rw [List.length_append, List.map_append]; exact ho6
    have hz6 : ∀ s ∈ ss ++ [u], s.size ≤ 2000 := fun s hs => by
      rcases List.mem_append.1 hs with h | h
      · exact Nat.le_trans (hz2' s h) (by omega)
      · rw [List.mem_singleton.1 h]; exact hu2
    have hl6 : (ss ++ [u]).length ≤ 510 := by simp; omega
    generalize ss ++ [u] = s6 at ho6' hz6 hl6
    obtain ⟨ad6, cp6, rfl⟩ := owns_slice ho6'
    have hR6 := (hR5.below ((Below.refl _ _).alloc (Nat.le_refl _) _)).own hg6 (fun k hk => owns_row_ge ho5 hk) (by omega)
    have hb6 : Below g w w6 := (hb5.alloc (by have := hR5.lt; omega) _).grown hg6 (by simp; have := hR5.lt; omega) (fun k hk => by have := owns_row_ge ho5 hk; omega)
    go_wp2_with fail
    refine (width_any g a cap zs' _ w6 hR6 (by omega)).mono ?_
    rintro e w9 ⟨n9, rfl, _, _, hD9⟩
    go_wp2
    go_ret2
    refine ⟨_, _, s6, _, rfl, owns_mono (owns_rd ho6' hD9.grown (by omega)) (by omega), hl6, hz6, ?_⟩
    have hb9 := below_g hb6 hD9.grown (by have := Rd.lt hR6; omega)
    rw [hg]
    exact hb9
  · have hB0 : ((x : Int) == 0) = false := by simp; omega
    by_cases h1 : x = 1
    · have hB : ((x : Int) == 1) = true := by simp; omega
      clear h0 h1
      go_wp2_with fail
      refine (pick_any g a cap zs' (p2 + 1) 2 w3 hR3 (by omega) (by omega) (by omega)).mono ?_
      rintro e w4 ⟨y, rfl, hy, hgr4, hR4⟩
      have ho4 := owns_rd ho3 hgr4 (by omega)
      have hb4 := below_g hb3 hgr4 (by have := hR3.lt; omega)
      have hsz0 : ∀ s ∈ ss, s.size ≤ 2000 := fun s hs => Nat.le_trans (hz2' s hs) (by omega)
      clear hgr4 ho3 hR3 hb3
      go_wp2
      go_loopw [5] (fun v wr => ∃ ss' : List ByteArray, ss'.length ≤ 505 ∧ (∀ s ∈ ss', s.size ≤ 2000) ∧ wr.ownsRow w1.heap.size 9 1 v ss'.length (ss'.map .string) ∧ Rd wr g a cap zs' (p2 + 1 + 1) ∧ Below g w wr) (fun v _ => 600 - lenV v)
      case atStart => exact ⟨ss, by omega, hsz0, ho4, hR4, hb4⟩
      case round =>
        obtain ⟨ss', hl', hsz', ho', hR', hb'⟩ := hrel
        obtain ⟨ad', cp', rfl⟩ := owns_slice ho'
        by_cases hlt : (ss'.length : Int) < 500 + y
        · have hw' : w1.heap.size ≤ wr.heap.size := by have := hR'.lt; omega
          have hc1 : (⟨#[120]⟩ : ByteArray).size ≤ 2000 := by show 1 ≤ 2000; omega
          go_wp2_with (at_builtin; refine wpList_append_own _ rfl _ _ 22 rfl w1.heap.size 9 i0 _ 1 16 Try.underlying22 hi hz0 hz1 hz2 rfl (by decide) _ _ _ rfl (ho'.alloc _) ⟨wr.heap.size, 0, none⟩ 1 1 [.string ⟨#[120]⟩] rfl rfl (cell_one_new _ _ _) (by simp [Value.oneCell']) (by unfold maxLen; omega) (by omega) (by simp; omega) ?_; intro v6 w6 ho6 hg6 _)
          refine ⟨⟨ss' ++ [⟨#[120]⟩], by simp; omega, ?_, ?_, ?_, ?_⟩, ?_⟩
          · intro s hs
            rcases List.mem_append.1 hs with h | h
            · exact hsz' s h
            · rw [List.mem_singleton.1 h]; exact hc1
          · rw [List.length_append, List.map_append]; exact ho6
          · exact (hR'.below ((Below.refl _ _).alloc (Nat.le_refl _) _)).own hg6 (fun k hk => owns_row_ge ho' hk) (by omega)
          · exact (hb'.alloc (by omega) _).grown hg6 (by simp; omega) (fun k hk => by have := owns_row_ge ho' hk; omega)
          · obtain ⟨ad7, cp7, rfl⟩ := owns_slice ho6
            simp only [lenV]
            omega
        · go_wp2_with fail
          refine (width_any g a cap zs' _ wr hR' (by omega)).mono ?_
          rintro e w9 ⟨n9, rfl, _, _, hD9⟩
          go_wp2
          go_ret2
          refine ⟨_, _, ss', _, rfl, owns_mono (owns_rd ho' hD9.grown (by omega)) (by omega), (by omega), hsz', ?_⟩
          have hb9 := below_g hb' hD9.grown (by have := Rd.lt hR'; omega)
          rw [hg]
          exact hb9
    · have hB1 : ((x : Int) == 1) = false := by simp; omega
      have hsz0 : ∀ s ∈ ss, s.size ≤ 2000 := fun s hs => Nat.le_trans (hz2' s hs) (by omega)
      by_cases h2 : x = 2
      · have hB : ((x : Int) == 2) = true := by simp; omega
        clear h0 h1 h2
        have hbL : Below w3.heap.size w3 (w3.alloc (.cells #[.int .i64 0, .int .i64 9] 3)) := (Below.refl _ _).alloc (Nat.le_refl _) _
        have hpA := pick_any g a cap zs' (p2 + 1) 2 (w3.alloc (.cells #[.int .i64 0, .int .i64 9] 3)).drew (hR3.below (w' := (w3.alloc (.cells #[.int .i64 0, .int .i64 9] 3)).drew) hbL.drew) (by omega) (by omega) (by omega)
        have hpB := pick_any g a cap zs' (p2 + 1) 2 w3.drew (hR3.below (w' := w3.drew) (Below.refl _ _).drew) (by omega) (by omega) (by omega)
        have hne : some w3.heap.size ≠ some g := by have := hR3.lt; simp; omega
        have hcell : ∀ w4 z c, (w3.alloc (.cells #[.int .i64 0, .int .i64 9] 3)).drew.grownBy w4 (some g) → (#[.int .i64 0, .int .i64 9] : Array Value)[z]? = some (.int .i64 c) → w4.cell? ⟨w3.heap.size, z, none⟩ = some (.int .i64 c) := fun w4 z c hgx hL => hgx.cell (a := ⟨w3.heap.size, z, none⟩) ((World.cell?_alloc_new w3 _ _ z).trans hL) hne
        go_wp2_with fail
        go_region_with (first | (go_at_call 41; refine hpA.mono ?_; rintro e w4 ⟨z, rfl, hz, hgr4, hR4⟩; obtain ⟨c, hL, hLL⟩ := lit2b z hz; have hck := hcell w4 z c hgr4 hL) | (go_at_call 41; refine hpB.mono ?_; rintro e w4 ⟨z, rfl, hz, hgr4, hR4⟩; obtain ⟨c, hL, hLL⟩ := lit2b z hz))
        · go_wp2
          go_ret2
          refine ⟨_, _, ss, _, rfl, owns_mono (owns_rd (ho3.alloc (.cells #[.int .i64 0, .int .i64 9] 3)).drew hgr4 (by omega)) (by omega), by omega, hsz0, ?_⟩
          rw [hg]
          exact below_g (w1 := (w3.alloc (.cells #[.int .i64 0, .int .i64 9] 3)).drew) (hb3.trans (hbL.drew.mono (by have := hR3.lt; omega))) hgr4 (by have := hR3.lt; simp; omega)
        · go_wp2
          go_ret2
          refine ⟨_, _, ss, _, rfl, owns_mono ((owns_rd ho3.drew hgr4 (by omega)).alloc _) (by omega), by omega, hsz0, ?_⟩
          rw [hg]
          exact (below_g (w1 := w3.drew) hb3.drew hgr4 (by have := hR3.lt; show g ≤ w3.heap.size; omega)).alloc (by have := hR4.lt; omega) _
      · have hB2 : ((x : Int) == 2) = false := by simp; omega
        clear h0 h1 h2
        go_wp2_with fail
        refine (width_any g a cap zs' _ w3 hR3 (by omega)).mono ?_
        rintro e w9 ⟨n9, rfl, _, _, hD9⟩
        go_wp2
        go_ret2
        refine ⟨_, _, ss, _, rfl, owns_mono (owns_rd ho3 hD9.grown (by omega)) (by omega), (by omega), hsz0, ?_⟩
        have hb9 := below_g hb3 hD9.grown (by have := Rd.lt hR3; omega)
        rw [hg]
        exact hb9
end Go.Proofs.Ytdlbmjmhlcaalaa
