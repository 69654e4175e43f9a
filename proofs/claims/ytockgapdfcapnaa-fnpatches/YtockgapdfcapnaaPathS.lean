/-
  spec.l6Paths: the paths of some trees, ascending.
-/
import Derived.Test.YtockgapdfcapnaaNameS
import Derived.Test.YtockgapdfcapnaaEntL
namespace Go.Proofs.Ytockgapdfcapnaa
open Go.RowKit

def addP (l : List ByteArray) (ts : List En) : List ByteArray := (ts.map fun e => e.path).foldl nameL l
def pathsL (tss : List (List En)) : List ByteArray := tss.foldl addP []
theorem addP_take {l : List ByteArray} {ts : List En} {j : Nat} (hj : j < ts.length) : addP l (ts.take (j + 1)) = nameL (addP l (ts.take j)) ts[j].path := by
  unfold addP
  rw [List.take_succ_eq_append_getElem hj, List.map_append, List.foldl_append]
  rfl
theorem addP_len (l : List ByteArray) (ts : List En) : ∀ j, j ≤ ts.length → (addP l (ts.take j)).length ≤ l.length + j
  | 0, _ => by simp [addP]
  | j + 1, hj => by
    have h := addP_len l ts j (by omega)
    rw [addP_take (by omega)]
    have := nameL_len (addP l (ts.take j)) ts[j].path
    omega
theorem pathsL_take {tss : List (List En)} {k : Nat} (hk : k < tss.length) : pathsL (tss.take (k + 1)) = addP (pathsL (tss.take k)) tss[k] := by
  unfold pathsL
  rw [List.take_succ_eq_append_getElem hk, List.foldl_append]
  rfl
theorem addP_asc {l : List ByteArray} (hl : AscN l) : ∀ ts : List En, AscN (addP l ts) ∧ ∀ y, y ∈ addP l ts ↔ y ∈ l ∨ ∃ e ∈ ts, e.path = y := fun ts => by
  have key : ∀ j, j ≤ ts.length → AscN (addP l (ts.take j)) ∧ ∀ y, y ∈ addP l (ts.take j) ↔ y ∈ l ∨ ∃ e ∈ ts.take j, e.path = y := by
    intro j
    induction j with
    | zero => intro _; exact ⟨by simpa [addP] using hl, fun y => by simp [addP]⟩
    | succ j ih =>
      intro hj
      obtain ⟨h1, h2⟩ := ih (by omega)
      obtain ⟨h3, h4⟩ := nameL_asc (s := ts[j].path) h1
      rw [addP_take (by omega)]
      refine ⟨h3, fun y => ?_⟩
      rw [h4, h2, List.take_succ_eq_append_getElem (by omega)]
      constructor
      · rintro ((h | ⟨e, he, h⟩) | h)
        · exact .inl h
        · exact .inr ⟨e, List.mem_append.2 (.inl he), h⟩
        · exact .inr ⟨ts[j], List.mem_append.2 (.inr (by simp)), h.symm⟩
      · rintro (h | ⟨e, he, h⟩)
        · exact .inl (.inl h)
        · rcases List.mem_append.1 he with h5 | h5
          · exact .inl (.inr ⟨e, h5, h⟩)
          · rw [List.mem_singleton.1 h5] at h; exact .inr h.symm
  have h := key ts.length (Nat.le_refl _)
  rw [List.take_length] at h
  exact h

/-- Trees in a row of boxes. -/
def TsAt (w : World) (b off : Nat) (xs : List (Option Addr × Nat × List En)) : Prop :=
  ∀ i (h : i < xs.length), w.cell? ⟨b, off + i, none⟩ = some (.slice xs[i].1 xs[i].2.2.length xs[i].2.1) ∧ ES w xs[i].1 xs[i].2.2
theorem TsAt.below {w w' : World} {b off : Nat} {xs : List (Option Addr × Nat × List En)} (h : TsAt w b off xs) (hb : Below w.heap.size w w') : TsAt w' b off xs := fun i hi => ⟨cell_later hb (h i hi).1, (h i hi).2.below hb⟩
def tss (xs : List (Option Addr × Nat × List En)) : List (List En) := xs.map fun x => x.2.2

set_option maxRecDepth 100000 in
set_option maxHeartbeats 4000000 in
theorem l6Paths_any (b off cap : Nat) (xs : List (Option Addr × Nat × List En)) (w : World) (h : TsAt w b off xs) (hx : xs.length ≤ 10) (hn : ∀ x ∈ xs, x.2.2.length ≤ 1000) :
    Calls Try.prog 44 #[.slice (some ⟨b, off, none⟩) xs.length cap] w (NamesPost (pathsL (tss xs)) w) := by
  have hnil : NmR w (.slice (some ⟨w.heap.size, 0, none⟩) 0 0) [] (w.alloc (.cells #[] 9)) := ⟨⟨by simp, .inr ⟨w.heap.size, 0, #[], rfl, Nat.le_refl _, heap_alloc_new w _, Nat.le_refl _, by unfold maxLen; omega, rfl, by simp⟩⟩, (Below.refl _ _).alloc (Nat.le_refl _) _⟩
  have htl : (tss xs).length = xs.length := by simp [tss]
  go_enter Try.func44, Try.ntmps44
  go_wp2
  go_loopw [3, 4] (fun v i wr => ∃ k : Nat, i = .int .i64 k ∧ k ≤ xs.length ∧ NmR w v (pathsL ((tss xs).take k)) wr ∧ (pathsL ((tss xs).take k)).length ≤ 1000 * k) (fun _ i _ => xs.length - (intOf i).toNat)
  case atStart => exact ⟨0, rfl, Nat.zero_le _, hnil, Nat.zero_le _⟩
  case round =>
    obtain ⟨k, rfl, hk, hR, hle⟩ := hrel
    by_cases hlt : k < xs.length
    · have hlt' : (k : Int) < xs.length := by omega
      have HP : Keep (pathsL ((tss xs).take (k + 1)) = addP (pathsL ((tss xs).take k)) xs[k].2.2) := ⟨by rw [pathsL_take (by omega)]; congr 1; simp [tss]⟩
      have HT := fun W (hW : Below w.heap.size w W) => (h.below hW) k hlt
      have hnk := hn _ (List.getElem_mem hlt)
      generalize xs[k] = x at *
      obtain ⟨ad, cp, ts⟩ := x
      dsimp only at HP HT hnk
      generalize pathsL ((tss xs).take k) = acc at *
      have HHT : Keep (∀ W, Below w.heap.size w W → W.cell? ⟨b, off + k, none⟩ = some (.slice ad ts.length cp) ∧ ES W ad ts) := ⟨HT⟩
      have HX : Keep (TsAt w b off xs ∧ ∀ x ∈ xs, x.2.2.length ≤ 1000) := ⟨⟨h, hn⟩⟩
      clear HT hnil
      go_wp2
      go_loopw [3, 5] (fun v j wq => ∃ m : Nat, j = .int .i64 m ∧ m ≤ ts.length ∧ NmR w v (addP acc (ts.take m)) wq) (fun _ j _ => ts.length - (intOf j).toNat)
      case atStart => exact ⟨0, rfl, Nat.zero_le _, by simpa [addP] using hR⟩
      case round =>
        clear hR
        obtain ⟨m, rfl, hm, hR⟩ := hrel
        obtain ⟨hc, hE⟩ := HHT.out _ hR.bw
        have hal := addP_len acc ts m hm
        by_cases hml : m < ts.length
        · have hml' : (m : Int) < ts.length := by omega
          obtain ⟨b1, o1, rfl, hc1⟩ := hE.at hml
          obtain ⟨x0, _, _⟩ := hc1 m hml
          have HA : Keep (addP acc (ts.take (m + 1)) = nameL (addP acc (ts.take m)) ts[m].path) := ⟨addP_take hml⟩
          obtain ⟨ad2, cp2, rfl⟩ := owns_slice hR.row
          have hnm := l6Name_any ad2 cp2 (addP acc (ts.take m)) ts[m].path wr (ss_of_rowM hR.row) (by omega)
          generalize addP acc (ts.take m) = ls at *
          generalize ts[m].path = s at *
          clear hc1 hE
          go_wp2_with fail
          refine hnm.mono ?_
          rintro e w2 ⟨ad3, cp3, rfl, hrow, hb2⟩
          have hR2 : NmR w (.slice ad3 (nameL ls s).length cp3) (nameL ls s) w2 := ⟨by
            refine ⟨hrow.1, ?_⟩
            rcases hrow.2 with h' | ⟨g, cap', cur, hv, k1, k2⟩
            · exact .inl h'
            · exact .inr ⟨g, cap', cur, hv, Nat.le_trans hR.bw.size k1, k2⟩, hR.bw.trans (hb2.mono hR.bw.size)⟩
          clear hnm hrow hb2
          go_wp2
          go_roundw
          case rel => exact ⟨m + 1, by congr 1, by omega, by rw [HA.out]; exact hR2⟩
          case measure => simp only [intOf]; omega
        · obtain rfl : m = ts.length := by omega
          rw [List.take_length] at hR hal
          go_wp2
          go_roundw
          case rel => exact ⟨k + 1, by congr 1, by omega, by rw [HP.out]; exact hR, by rw [HP.out]; omega⟩
          case measure => simp only [intOf]; omega
    · obtain rfl : k = xs.length := by omega
      rw [List.take_of_length_le (by omega)] at hR
      obtain ⟨ad, cp, rfl⟩ := owns_slice hR.row
      go_wp2
      go_ret
      exact ⟨ad, cp, rfl, hR.row, hR.bw⟩
end Go.Proofs.Ytockgapdfcapnaa
