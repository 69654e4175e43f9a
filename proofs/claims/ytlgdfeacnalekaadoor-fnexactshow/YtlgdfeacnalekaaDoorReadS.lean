/-
  spec.l9Read.
-/
import Derived.Test.YtlgdfeacnalekaaDoorHexS
import Derived.Test.YtlgdfeacnalekaaDoorSpecPath
namespace Go.Proofs.YtlgdfeacnalekaaDoor
open Go.RowKit

theorem Tryd.infoSL : (Tryd.prog.info? 46).map (fun i => (i.zero, i.size, i.bytes)) = some (some (.agg #[.int .u8 0, .string ⟨#[]⟩, .string ⟨#[]⟩]), 3, 40) := by kernel_rfl
def ReadPost (s : ByteArray) (wd : Nat) (w : World) (e : Ending) (w' : World) : Prop :=
  Below w.heap.size w w' ∧ ((∃ ds ad cp, RdR wd ⟨#[]⟩ (linesL s.data.toList) ds ∧ e = .returned (.tuple #[.slice ad ds.length cp, .bool true]) ∧ w'.ownsRow w.heap.size 46 3 (.slice ad ds.length cp) ds.length (slcells ds) ∧ ad ≠ none) ∨
    ((∀ es, ¬ RdR wd ⟨#[]⟩ (linesL s.data.toList) es) ∧ ∃ ad n cp, e = .returned (.tuple #[.slice ad n cp, .bool false])))
theorem place_is {wd n k : Nat} {rs : ByteArray} {c : UInt8} (hn : n ≤ rs.size) (hk : n = k + 2 * wd + 1) (h3 : 3 ≤ k) (hc : kindOk c = true) (k1 : rs[0] = c) (g1 : rs[1] = 32) (g2 : rs[k] = 32) :
    placeOk wd (rs.data.toList.take n) = (partOk pathB (rs.extract 2 k) && (rs.extract (k + 1) n).data.toList.all hexB) ∧ placeL wd (rs.data.toList.take n) = ⟨c, rs.extract 2 k, rs.extract (k + 1) n⟩ := by
  have hl : (rs.data.toList.take n).length = n := by rw [List.length_take, ← Lib.size_eq]; omega
  have gd : ∀ j (hj : j < rs.size), j < n → (rs.data.toList.take n).getD j 0 = rs[j] := fun j hj hjn => by
    rw [List.getD_eq_getElem?_getD, List.getElem?_take_of_lt hjn, List.getElem?_eq_getElem (by rw [← Lib.size_eq]; exact hj)]
    rfl
  have e1 : mkB (((rs.data.toList.take n).drop 2).take (k - 2)) = rs.extract 2 k := by
    rw [extract_mkB, List.drop_take, List.take_take]
    congr 2
    omega
  have e2 : (rs.data.toList.take n).drop (k + 1) = (rs.extract (k + 1) n).data.toList := by
    rw [extract_mkB, mkB_list, List.drop_take]
  unfold placeOk placeL
  rw [hl, show n - (2 * wd + 1) = k by omega, gd 0 (by omega) (by omega), gd 1 (by omega) (by omega), gd k (by omega) (by omega), e1, e2, k1, g1, g2, hc, mkB_data]
  refine ⟨?_, rfl⟩
  rw [decide_eq_true (by omega)]
  simp
theorem not_all {sm : ByteArray} {j : Nat} (h : j < sm.size) (hx : hexB sm[j] = false) : sm.data.toList.all hexB = false := by
  rw [Bool.eq_false_iff]
  intro ha
  have := List.all_eq_true.1 ha sm[j] (List.getElem_mem (l := sm.data.toList) (n := j) (by rw [← Lib.size_eq]; exact h))
  rw [hx] at this
  cases this
theorem all_of {sm : ByteArray} (h : ∀ t (ht : t < sm.size), hexB sm[t] = true) : sm.data.toList.all hexB = true := by
  rw [List.all_eq_true]
  intro x hx
  obtain ⟨t, ht, e⟩ := List.getElem_of_mem hx
  rw [← e]
  exact h t (by rw [Lib.size_eq]; exact ht)
theorem cell_three_new (w : World) (x y z : Value) (t : TypeId) : ∀ j u, [x, y, z][j]? = some u → (w.alloc (.cells #[x, y, z] t)).cell? ((⟨w.heap.size, 0, none⟩ : Addr).add j) = some u := by
  intro j u hj
  match j, hj with
  | 0, hj =>
    simp at hj
    subst hj
    simp [go_sem, Addr.add]
  | 1, hj =>
    simp at hj
    subst hj
    simp [go_sem, Addr.add]
  | 2, hj =>
    simp at hj
    subst hj
    simp [go_sem, Addr.add]
  | j + 3, hj => simp at hj
theorem slcells_get : ∀ (ds : List DL) (i : Nat) (h : i < ds.length), (slcells ds)[i * 3]? = some (.int .u8 ds[i].kind.toNat) ∧ (slcells ds)[i * 3 + 1]? = some (.string ds[i].name) ∧ (slcells ds)[i * 3 + 2]? = some (.string ds[i].dig)
  | [], i, h => by simp at h
  | p :: ds, 0, h => by simp [slcells, slcell]
  | p :: ds, i + 1, h => by
    have ih := slcells_get ds i (by simpa using h)
    have e : slcells (p :: ds) = .int .u8 p.kind.toNat :: .string p.name :: .string p.dig :: slcells ds := by simp [slcells, slcell]
    rw [e, show (i + 1) * 3 = i * 3 + 1 + 1 + 1 by omega]
    simpa using ih
theorem lsp_of_row {w : World} {base : Nat} {ad : Option Addr} {cp : Nat} {ds : List DL} (h : w.ownsRow base 46 3 (.slice ad ds.length cp) ds.length (slcells ds)) (h0 : 0 < ds.length) : ∃ b, ad = some ⟨b, 0, none⟩ ∧ LSp w b ds := by
  rcases h.2 with ⟨_, h1⟩ | ⟨g, c, cur, hv, _⟩
  · omega
  · cases hv
    refine ⟨g, rfl, fun i hi => ⟨?_, ?_, ?_⟩⟩
    · rw [h.cellAt (i * 3) (by omega)]; exact (slcells_get ds i hi).1
    · rw [h.cellAt (i * 3 + 1) (by omega)]; exact (slcells_get ds i hi).2.1
    · rw [h.cellAt (i * 3 + 2) (by omega)]; exact (slcells_get ds i hi).2.2
theorem lstN_last {ds : List DL} {m : Nat} (h : ds.length = m + 1) : lstN ds = (ds[m]'(by omega)).name := by
  unfold lstN
  have e : ds.length - 1 = m := by omega
  rw [List.getLast?_eq_getElem?, e, List.getElem?_eq_getElem (by omega)]
theorem less_part {nm : ByteArray} (h : partOk pathB nm = true) : Op.bytesLess (lstN []).toList nm.toList = true := by
  have h1 := part_pos h
  rw [show lstN [] = ⟨#[]⟩ from rfl, toL, toL]
  cases e : nm.data.toList with
  | nil =>
    rw [Lib.size_eq, e] at h1
    simp at h1
  | cons b r => rfl
theorem nat_ne {b c : UInt8} (h : b ≠ c) : ¬ (b.toNat : Int) = (c.toNat : Int) := fun e => h (UInt8.toNat_inj.1 (by omega))
theorem piece_place {wd : Nat} {l : List UInt8} {d : DL} (e : l ++ [10] = lnT d ++ [10]) (h : LnOk wd d) : placeOk wd l = true := by
  rw [List.append_cancel_right e]
  exact line_placeOk h

set_option maxRecDepth 20000 in
set_option maxHeartbeats 40000000 in
theorem l9Read_any (s : ByteArray) (wd : Nat) (w : World) (hs : s.size ≤ 1048576) (hw1 : 1 ≤ wd) (hw8 : wd ≤ 8) :
    Calls Tryd.prog 13 #[.string s, .int .i64 wd] w fun e w' => ReadPost s wd w e w' := by
  obtain ⟨i0, hi, hz0, hz1, hz2⟩ := info_parts Tryd.infoSL
  have hown0 : (w.alloc (.cells #[] 46)).ownsRow w.heap.size 46 3 (.slice (some ⟨w.heap.size, 0, none⟩) 0 0) 0 (slcells []) := ⟨by simp [slcells], .inr ⟨w.heap.size, 0, #[], rfl, Nat.le_refl _, heap_alloc_new w _, Nat.le_refl _, by unfold maxLen; omega, rfl, by simp [slcells]⟩⟩
  have hb0 := belowS_one w (.cells #[] 46)
  have hww : IntKind.i64.wrap (2 * (wd : Int)) = 2 * (wd : Int) := by rw [IntKind.wrap_i64]; omega
  go_enter Tryd.func13, Tryd.ntmps13
  go_wp2
  go_loopw [0, 6] (fun sv v wr => ∃ (rs : ByteArray) (ds : List DL), sv = .string rs ∧ rs.size ≤ s.size ∧ ds.length + rs.size ≤ s.size ∧ Keep (RdS wd (linesL s.data.toList) ds (linesL rs.data.toList)) ∧ wr.ownsRow w.heap.size 46 3 v ds.length (slcells ds) ∧ v ≠ .slice none 0 0 ∧ Below w.heap.size w wr) (fun sv _ _ => match sv with | .string rs => rs.size | _ => 0)
  case atStart => exact ⟨s, [], rfl, Nat.le_refl _, by simp, ⟨RdS.start _ _⟩, hown0, by simp, hb0⟩
  case round =>
    obtain ⟨rs, ds, rfl, hrs, hdl, HS, hrow, hvn, hb⟩ := hrel
    by_cases hz : rs.toList = []
    · obtain ⟨ad, cp, rfl⟩ := owns_slice hrow
      have HP : Keep (ReadPost s wd w (.returned (.tuple #[.slice ad ds.length cp, .bool true])) wr) := ⟨hb, .inl ⟨ds, ad, cp, by
        have e : rs.data.toList = [] := by rw [← toL]; exact hz
        have h := HS.out
        rw [e] at h
        exact h.done, rfl, hrow, fun e => by
          subst e
          rcases hrow.2 with ⟨h, _⟩ | ⟨_, _, _, h, _⟩
          · exact hvn h
          · cases h⟩⟩
      have hz1' : (rs.toList == []) = true := by simp [hz]
      have hz2' : rs.toList.isEmpty = true := by simp [hz]
      go_wp2
      refine bodyPost_ret (v := .tuple #[.slice ad ds.length cp, .bool true]) ?_ rfl HP.out
      go_light
      simp [results, Tryd.results13, go_sem]
    · have hz1' : (rs.toList == []) = false := by simpa using hz
      have hz2' : rs.toList.isEmpty = false := by simpa using hz
      obtain ⟨ad, cp, rfl⟩ := owns_slice hrow
      have HNO : Keep (∀ W', Below w.heap.size w W' → (∀ es, ¬ RdR wd ⟨#[]⟩ (linesL s.data.toList) es) → ReadPost s wd w (.returned (.tuple #[.slice ad ds.length cp, .bool false])) W') := ⟨fun W' h1 h2 => ⟨h1, .inr ⟨h2, ad, _, cp, rfl⟩⟩⟩

      have HZ : Keep (rs.toList ≠ []) := ⟨hz⟩
      go_wp2
      go_loopw [7] (fun i wq => ∃ (n : Nat), n ≤ rs.size ∧ i = .int .i64 n ∧ Keep (∀ j, j < n → rs.data.toList[j]? ≠ some 10) ∧ wq = wr) (fun i _ => rs.size - (intOf i).toNat)
      case atStart => exact ⟨0, Nat.zero_le _, rfl, ⟨fun j h => absurd h (Nat.not_lt_zero _)⟩, rfl⟩
      case round =>
        obtain ⟨n, hn, rfl, HN, rfl⟩ := hrel
        by_cases hlt : n < rs.size
        · by_cases h10 : rs[n] = 10
          · have hc10 : ((rs[n].toNat : Int) == 10) = true := by rw [h10]; rfl
            have hc10' : (rs[n].toNat : Int) = 10 := by rw [h10]; rfl
            have HLL : Keep (linesL rs.data.toList = (rs.data.toList.take n ++ [10]) :: linesL (rs.data.toList.drop (n + 1))) := ⟨by
              have hlt' : n < rs.data.toList.length := by rw [← Lib.size_eq]; exact hlt
              have e1 : rs.data.toList[n]? = some 10 := by rw [List.getElem?_eq_getElem hlt']; exact congrArg some h10
              rw [linesL_at _ n e1 HN.out, List.take_succ_eq_append_getElem hlt']
              congr 3⟩
            have HBAD : Keep (placeOk wd (rs.data.toList.take n) = false → ∀ es, ¬ RdR wd ⟨#[]⟩ (linesL s.data.toList) es) := ⟨fun hf => by
              have h := HS.out
              rw [HLL.out] at h
              exact h.bad (fun d e hk _ => by rw [piece_place e hk] at hf; cases hf)⟩
            by_cases hk3 : n < 2 * wd + 4
            · have HX : Keep (placeOk wd (rs.data.toList.take n) = false) := ⟨by
                unfold placeOk
                rw [decide_eq_false (by rw [List.length_take, ← Lib.size_eq]; omega)]
                rfl⟩
              have hkk : (n : Int) - 2 * (wd : Int) - 1 < 3 := by omega
              have hkk2 : ¬ (n : Int) = rs.size := by omega
              have hkk2b : ((n : Int) == (rs.size : Int)) = false := by simpa using hkk2
              go_wp2
              refine bodyPost_ret (v := .tuple #[.slice ad ds.length cp, .bool false]) ?_ rfl (HNO.out _ hb (HBAD.out HX.out))
              go_light
              simp [results, Tryd.results13, go_sem]
            · obtain ⟨k, hk⟩ : ∃ k, n = k + 2 * wd + 1 := ⟨n - (2 * wd + 1), by omega⟩
              have hki : (n : Int) - 2 * (wd : Int) - 1 = (k : Int) := by omega
              have hkk : ¬ (k : Int) < 3 := by omega
              have hkk2 : ¬ (n : Int) = rs.size := by omega
              have hkk2b : ((n : Int) == (rs.size : Int)) = false := by simpa using hkk2
              have hks : k < rs.size := by omega
              have h0s : 0 < rs.size := by omega
              have h1s : 1 < rs.size := by omega
              have HPL : Keep ((n < 2 * wd + 4 ∨ (rs[0] ≠ 100 ∧ rs[0] ≠ 102 ∧ rs[0] ≠ 120) ∨ rs[1] ≠ 32 ∨ rs[k] ≠ 32) → placeOk wd (rs.data.toList.take n) = false) := ⟨fun h => by
                have hl : (rs.data.toList.take n).length = n := by rw [List.length_take, ← Lib.size_eq]; omega
                have gd : ∀ j (hj : j < rs.size), j < n → (rs.data.toList.take n).getD j 0 = rs[j] := fun j hj hjn => by
                  rw [List.getD_eq_getElem?_getD, List.getElem?_take_of_lt hjn, List.getElem?_eq_getElem (by rw [← Lib.size_eq]; exact hj)]
                  rfl
                unfold placeOk
                rw [hl, show n - (2 * wd + 1) = k by omega, gd 0 h0s (by omega), gd 1 h1s (by omega), gd k hks (by omega)]
                rcases h with h | ⟨a1, a2, a3⟩ | h | h
                · omega
                · have : kindOk rs[0] = false := by simp [kindOk, a1, a2, a3]
                  rw [this]; simp
                · have : (rs[1] == 32) = false := by simpa using h
                  rw [this]; simp
                · have : (rs[k] == 32) = false := by simpa using h
                  rw [this]; simp⟩
              have HKN : Keep (n = k + 2 * wd + 1) := ⟨hk⟩
              clear hk
              by_cases k1 : rs[0] = 100
              · have f1 : ((rs[0].toNat : Int) == 100) = true := by rw [k1]; rfl
                have f1' : (rs[0].toNat : Int) = 100 := by rw [k1]; rfl
                by_cases g1 : rs[1] = 32
                · have g1' : (rs[1].toNat : Int) = 32 := by rw [g1]; rfl
                  have g1b : ((rs[1].toNat : Int) == 32) = true := by simpa using g1'
                  by_cases g2 : rs[k] = 32
                  · have g2' : (rs[k].toNat : Int) = 32 := by rw [g2]; rfl
                    have g2b : ((rs[k].toNat : Int) == 32) = true := by simpa using g2'
                    have g2c : ((rs[k].toNat : Int) != 32) = false := by simp [g2']
                    have i1 : (2 : Int) ≤ (k : Int) := by omega
                    have i2 : (k : Int) ≤ (rs.size : Int) := by omega
                    have i3 : (k : Int) + 1 ≤ (n : Int) := by have := HKN.out; omega
                    have i4 : (n : Int) ≤ (rs.size : Int) := by omega
                    have i5 : (0 : Int) ≤ (k : Int) + 1 := by omega
                    have i6 : IntKind.i64.wrap ((k : Int) + 1) = (k : Int) + 1 := by rw [IntKind.wrap_i64]; omega
                    have i7 : (0 : Int) ≤ (k : Int) := by omega
                    have i8 : (0 : Int) ≤ (n : Int) := by omega
                    have HPK : Keep (placeOk wd (rs.data.toList.take n) = (partOk pathB (rs.extract 2 k) && (rs.extract (k + 1) n).data.toList.all hexB) ∧ placeL wd (rs.data.toList.take n) = ⟨100, rs.extract 2 k, rs.extract (k + 1) n⟩) := ⟨place_is (by omega) HKN.out (by omega) (by decide) (k1) g1 g2⟩
                    go_upto_region 9 with fail
                    go_region
                    have hbX : Below wr.heap.size wr (wr.alloc (.cells #[.int .u8 100, .string (rs.extract 2 k), .string (rs.extract (k + 1) n)] 46)).drew := (belowS_one wr _).drew
                    have x0 : (wr.alloc (.cells #[.int .u8 100, .string (rs.extract 2 k), .string (rs.extract (k + 1) n)] 46)).drew.cell? ⟨wr.heap.size, 0, none⟩ = some (.int .u8 100) := by simp [go_sem]
                    have x1 : (wr.alloc (.cells #[.int .u8 100, .string (rs.extract 2 k), .string (rs.extract (k + 1) n)] 46)).drew.cell? ⟨wr.heap.size, 1, none⟩ = some (.string (rs.extract 2 k)) := by simp [go_sem]
                    have x2 : (wr.alloc (.cells #[.int .u8 100, .string (rs.extract 2 k), .string (rs.extract (k + 1) n)] 46)).drew.cell? ⟨wr.heap.size, 2, none⟩ = some (.string (rs.extract (k + 1) n)) := by simp [go_sem]
                    have rowX := owns_below hrow hbX
                    replace hbX := hb.trans (hbX.mono hb.size)
                    generalize (wr.alloc (.cells #[.int .u8 100, .string (rs.extract 2 k), .string (rs.extract (k + 1) n)] 46)).drew = X at *
                    generalize wr.heap.size = xb at *
                    obtain ⟨nm, hnm⟩ : ∃ x, rs.extract 2 k = x := ⟨_, rfl⟩
                    obtain ⟨sm, hsm⟩ : ∃ x, rs.extract (k + 1) n = x := ⟨_, rfl⟩
                    rw [hnm] at x1 HPK ⊢
                    rw [hsm] at x2 HPK ⊢
                    have hsmz : sm.size ≤ 1048576 := by rw [← hsm]; simp; omega
                    clear hnm hsm
                    cases hp : partOk pathB nm with
                    | false =>
                      have HX : Keep (placeOk wd (rs.data.toList.take n) = false) := ⟨by rw [HPK.out.1, hp]; rfl⟩
                      have HC : Keep (∀ x : Later X, Calls Tryd.prog 30 #[.string nm, .bool false] x.world fun e w'' => e = .returned (.bool false) ∧ ∃ y : Later X, w'' = y.world) := ⟨fun x => x.call ((l4PartOk_any false nm x.world).mono (fun e w' ⟨h1, h2⟩ => ⟨by rw [h1]; show Ending.returned (.bool (partOk pathB nm)) = _; rw [hp], h2 ▸ Below.refl _ _⟩))⟩
                      have N1 : ∀ x : Later X, x.world.cell? ⟨xb, 1, none⟩ = some (.string nm) := fun x => cell_later x.kept x1
                      go_upto_region 10 with fail
                      (haveI := later_any; refine wp_region_later (by kernel_rfl) (by kernel_rfl) ?_; (repeat (go_big_quiet_step (first | (go_at_call 30; exact HC.out _)))); refine wpQuiet_nil ?_; intro _ hwq; obtain ⟨xq, hwq2⟩ := hwq; subst hwq2)
                      have hbq := hbX.trans (xq.kept.mono hbX.size)
                      go_wp2
                      refine bodyPost_ret (v := .tuple #[.slice ad ds.length cp, .bool false]) ?_ rfl (HNO.out _ hbq (HBAD.out HX.out))
                      go_light
                      simp [results, Tryd.results13, go_sem]
                    | true =>
                      have HC : Keep (∀ x : Later X, Calls Tryd.prog 30 #[.string nm, .bool false] x.world fun e w'' => e = .returned (.bool true) ∧ ∃ y : Later X, w'' = y.world) := ⟨fun x => x.call ((l4PartOk_any false nm x.world).mono (fun e w' ⟨h1, h2⟩ => ⟨by rw [h1]; show Ending.returned (.bool (partOk pathB nm)) = _; rw [hp], h2 ▸ Below.refl _ _⟩))⟩
                      have N1 : ∀ x : Later X, x.world.cell? ⟨xb, 1, none⟩ = some (.string nm) := fun x => cell_later x.kept x1
                      by_cases hd0 : ds = []
                      · subst hd0
                        have HLT : Keep (Op.bytesLess (lstN []).toList nm.toList = true) := ⟨less_part hp⟩
                        have hl0 : ¬ (0 : Int) < (([] : List DL).length : Int) := by simp
                        go_upto_region 10 with fail
                        (haveI := later_any; refine wp_region_later (by kernel_rfl) (by kernel_rfl) ?_; (repeat (go_big_quiet_step (first | (go_at_call 30; exact HC.out _)))); refine wpQuiet_nil ?_; intro _ hwq; obtain ⟨xq, hwq2⟩ := hwq; subst hwq2)
                        have hbq := hbX.trans (xq.kept.mono hbX.size)
                        have M0 := cell_later xq.kept x0
                        have M1 := cell_later xq.kept x1
                        have M2 := cell_later xq.kept x2
                        have rowq := owns_below rowX xq.kept
                        generalize xq.world = Y at *
                        go_wp2
                        go_loopw [10] (fun i wq => ∃ (j : Nat), j ≤ sm.size ∧ i = .int .i64 j ∧ Keep (∀ t, t < j → ∀ (h : t < sm.size), hexB sm[t] = true) ∧ wq = Y) (fun i _ => sm.size - (intOf i).toNat)
                        case atStart => exact ⟨0, Nat.zero_le _, rfl, ⟨fun t h => absurd h (Nat.not_lt_zero _)⟩, rfl⟩
                        case round =>
                          obtain ⟨j, hj, rfl, HJ, rfl⟩ := hrel
                          by_cases hjl : j < sm.size
                          · by_cases a1 : (sm[j].toNat : Int) < 48
                            · have a3 : (sm[j].toNat : Int) < 97 := by omega
                              have HX : Keep (placeOk wd (rs.data.toList.take n) = false) := ⟨by rw [HPK.out.1, hp, not_all hjl (by simp [hexB]; omega)]; rfl⟩
                              go_wp2
                              refine bodyPost_ret (v := .tuple #[.slice ad ([] : List DL).length cp, .bool false]) ?_ rfl (HNO.out _ hbq (HBAD.out HX.out))
                              go_light
                              simp [results, Tryd.results13, go_sem]
                            · by_cases a2 : (57 : Int) < sm[j].toNat
                              · by_cases a3 : (sm[j].toNat : Int) < 97
                                · have HX : Keep (placeOk wd (rs.data.toList.take n) = false) := ⟨by rw [HPK.out.1, hp, not_all hjl (by simp [hexB]; omega)]; rfl⟩
                                  go_wp2
                                  refine bodyPost_ret (v := .tuple #[.slice ad ([] : List DL).length cp, .bool false]) ?_ rfl (HNO.out _ hbq (HBAD.out HX.out))
                                  go_light
                                  simp [results, Tryd.results13, go_sem]
                                · by_cases a4 : (102 : Int) < sm[j].toNat
                                  · have HX : Keep (placeOk wd (rs.data.toList.take n) = false) := ⟨by rw [HPK.out.1, hp, not_all hjl (by simp [hexB]; omega)]; rfl⟩
                                    go_wp2
                                    refine bodyPost_ret (v := .tuple #[.slice ad ([] : List DL).length cp, .bool false]) ?_ rfl (HNO.out _ hbq (HBAD.out HX.out))
                                    go_light
                                    simp [results, Tryd.results13, go_sem]
                                  · go_wp2
                                    go_roundw
                                    case rel => exact ⟨j + 1, by omega, by go_num, ⟨fun t ht h => by
                                      by_cases e : t < j
                                      · exact HJ.out t e h
                                      · obtain rfl : t = j := by omega
                                        simp [hexB]
                                        omega⟩, trivial⟩
                                    case measure => simp [intOf]; omega
                              · go_wp2
                                go_roundw
                                case rel => exact ⟨j + 1, by omega, by go_num, ⟨fun t ht h => by
                                  by_cases e : t < j
                                  · exact HJ.out t e h
                                  · obtain rfl : t = j := by omega
                                    simp [hexB]
                                    omega⟩, trivial⟩
                                case measure => simp [intOf]; omega
                          · obtain rfl : j = sm.size := by omega
                            have HOK : Keep (placeOk wd (rs.data.toList.take n) = true) := ⟨by rw [HPK.out.1, hp, all_of (fun t h => HJ.out t h h)]; rfl⟩
                            have HST : Keep (RdS wd (linesL s.data.toList) (([] : List DL) ++ [⟨100, nm, sm⟩]) (linesL (rs.data.toList.drop (n + 1)))) := ⟨by
                              obtain ⟨q1, q2⟩ := placeOk_line HOK.out
                              rw [HPK.out.2] at q1 q2
                              have h := HS.out
                              rw [HLL.out] at h
                              exact h.step (by rw [← q1]) q2 HLT.out⟩
                            have hdn : ([] : List DL).length ≤ 1048576 := by omega
                            have HCC : Keep (slcells (([] : List DL) ++ [⟨100, nm, sm⟩]) = slcells ([] : List DL) ++ [.int .u8 100, .string nm, .string sm]) := ⟨by simp [slcells, slcell]⟩
                            have hws := hbq.size
                            have hnx : (n : Int) + 1 ≤ rs.size := by omega
                            have hnw : IntKind.i64.wrap ((n : Int) + 1) = (n : Int) + 1 := by rw [IntKind.wrap_i64]; omega
                            have hn0 : (0 : Int) ≤ (n : Int) + 1 := by omega
                            go_wp2_with (at_builtin; refine wpList_append_own _ rfl _ _ 40 rfl w.heap.size 46 i0 _ 3 40 Tryd.underlying40 hi hz0 hz1 hz2 rfl (by decide) _ _ _ rfl (rowq.alloc _) ⟨wr.heap.size, 0, none⟩ 1 1 [.int .u8 100, .string nm, .string sm] rfl rfl (cell_three_new _ _ _ _ _) (by simp [Value.oneCell']) (by unfold maxLen; omega) (by omega) (by simp; omega) ?_; intro v4 w4 ho4 hg4 hv4)
                            have hb9 := (hbq.alloc (o := .cells #[.int .u8 100, .string nm, .string sm] 46) hws).grown hg4 (by simp; omega) (fun t e => owns_base rowq t e)
                            have HRZ : Keep ((rs.extract (n + 1) rs.size).size = rs.size - (n + 1) ∧ (rs.extract (n + 1) rs.size).data.toList = rs.data.toList.drop (n + 1)) := ⟨by simp, by rw [extract_mkB, mkB_list, List.take_of_length_le (by rw [List.length_drop, ← Lib.size_eq]; omega)]⟩
                            go_roundw
                            case rel => exact ⟨_, ([] : List DL) ++ [⟨100, nm, sm⟩], rfl, by rw [HRZ.out.1]; omega, by rw [HRZ.out.1, List.length_append]; simp; omega, by rw [HRZ.out.2]; exact HST, by rw [HCC.out, List.length_append]; exact ho4, fun e => by rw [e] at hv4; exact absurd (hv4.1 rfl).2 (by omega), hb9⟩
                            case measure =>
                              show (rs.extract (n + 1) rs.size).size < rs.size
                              rw [HRZ.out.1]
                              omega
                      · have hpos : 0 < ds.length := List.length_pos_iff.2 hd0
                        obtain ⟨m, hmm⟩ : ∃ m, ds.length = m + 1 := ⟨ds.length - 1, by omega⟩
                        have HMM : Keep (ds.length = m + 1) := ⟨hmm⟩
                        obtain ⟨g, hg, hls⟩ := lsp_of_row rowX hpos
                        obtain ⟨L, hL⟩ : ∃ L, L = lstN ds := ⟨_, rfl⟩
                        have HL : Keep (L = lstN ds) := ⟨hL⟩
                        have N2 : ∀ x : Later X, x.world.cell? ⟨g, m * 3 + 1, none⟩ = some (.string L) := fun x => by
                          rw [hL, lstN_last hmm]
                          exact cell_later x.kept (hls m (by omega)).2.1
                        have hl0 : decide ((0 : Int) < (ds.length : Int)) = true := by simp; omega
                        have hl0' : (0 : Int) < (ds.length : Int) := by omega
                        have hl0n : 0 < ds.length := by omega
                        have hm1 : IntKind.i64.wrap ((ds.length : Int) - 1) = (m : Int) := by rw [IntKind.wrap_i64]; omega
                        have hm1' : (ds.length : Int) - 1 = (m : Int) := by omega
                        have hm2 : (m : Int) < (ds.length : Int) := by omega
                        have hm3 : (0 : Int) ≤ (m : Int) := by omega
                        have HG : Keep (ad = some ⟨g, 0, none⟩) := ⟨hg⟩
                        subst hg
                        clear hmm hL hls hpos
                        cases hlt : Op.bytesLess L.toList nm.toList with
                        | true =>
                          have HLT : Keep (Op.bytesLess (lstN ds).toList nm.toList = true) := ⟨by rw [← HL.out]; exact hlt⟩
                          have hle := lessD_total L.toList nm.toList
                          rw [hlt] at hle
                          have hl1 : Op.bytesLess nm.toList L.toList = false := by
                            cases h : Op.bytesLess nm.toList L.toList with
                            | false => rfl
                            | true => rw [h] at hle; simp at hle
                          have hl2 : (nm.toList == L.toList) = false := by
                            rw [hl1] at hle
                            simpa using hle.symm
                          have hl3 : (L.toList == nm.toList) = false := by rw [Bool.beq_comm]; exact hl2
                          clear hle
                          go_upto_region 10 with fail
                          (haveI := later_any; refine wp_region_later (by kernel_rfl) (by kernel_rfl) ?_; (repeat (go_big_quiet_step (first | (go_at_call 30; exact HC.out _)))); refine wpQuiet_nil ?_; intro _ hwq; obtain ⟨xq, hwq2⟩ := hwq; subst hwq2)
                          have hbq := hbX.trans (xq.kept.mono hbX.size)
                          have M0 := cell_later xq.kept x0
                          have M1 := cell_later xq.kept x1
                          have M2 := cell_later xq.kept x2
                          have rowq := owns_below rowX xq.kept
                          generalize xq.world = Y at *
                          go_wp2
                          go_loopw [10] (fun i wq => ∃ (j : Nat), j ≤ sm.size ∧ i = .int .i64 j ∧ Keep (∀ t, t < j → ∀ (h : t < sm.size), hexB sm[t] = true) ∧ wq = Y) (fun i _ => sm.size - (intOf i).toNat)
                          case atStart => exact ⟨0, Nat.zero_le _, rfl, ⟨fun t h => absurd h (Nat.not_lt_zero _)⟩, rfl⟩
                          case round =>
                            obtain ⟨j, hj, rfl, HJ, rfl⟩ := hrel
                            by_cases hjl : j < sm.size
                            · by_cases a1 : (sm[j].toNat : Int) < 48
                              · have a3 : (sm[j].toNat : Int) < 97 := by omega
                                have HX : Keep (placeOk wd (rs.data.toList.take n) = false) := ⟨by rw [HPK.out.1, hp, not_all hjl (by simp [hexB]; omega)]; rfl⟩
                                go_wp2
                                refine bodyPost_ret (v := .tuple #[.slice (some ⟨g, 0, none⟩) ds.length cp, .bool false]) ?_ rfl (HNO.out _ hbq (HBAD.out HX.out))
                                go_light
                                simp [results, Tryd.results13, go_sem]
                              · by_cases a2 : (57 : Int) < sm[j].toNat
                                · by_cases a3 : (sm[j].toNat : Int) < 97
                                  · have HX : Keep (placeOk wd (rs.data.toList.take n) = false) := ⟨by rw [HPK.out.1, hp, not_all hjl (by simp [hexB]; omega)]; rfl⟩
                                    go_wp2
                                    refine bodyPost_ret (v := .tuple #[.slice (some ⟨g, 0, none⟩) ds.length cp, .bool false]) ?_ rfl (HNO.out _ hbq (HBAD.out HX.out))
                                    go_light
                                    simp [results, Tryd.results13, go_sem]
                                  · by_cases a4 : (102 : Int) < sm[j].toNat
                                    · have HX : Keep (placeOk wd (rs.data.toList.take n) = false) := ⟨by rw [HPK.out.1, hp, not_all hjl (by simp [hexB]; omega)]; rfl⟩
                                      go_wp2
                                      refine bodyPost_ret (v := .tuple #[.slice (some ⟨g, 0, none⟩) ds.length cp, .bool false]) ?_ rfl (HNO.out _ hbq (HBAD.out HX.out))
                                      go_light
                                      simp [results, Tryd.results13, go_sem]
                                    · go_wp2
                                      go_roundw
                                      case rel => exact ⟨j + 1, by omega, by go_num, ⟨fun t ht h => by
                                        by_cases e : t < j
                                        · exact HJ.out t e h
                                        · obtain rfl : t = j := by omega
                                          simp [hexB]
                                          omega⟩, trivial⟩
                                      case measure => simp [intOf]; omega
                                · go_wp2
                                  go_roundw
                                  case rel => exact ⟨j + 1, by omega, by go_num, ⟨fun t ht h => by
                                    by_cases e : t < j
                                    · exact HJ.out t e h
                                    · obtain rfl : t = j := by omega
                                      simp [hexB]
                                      omega⟩, trivial⟩
                                  case measure => simp [intOf]; omega
                            · obtain rfl : j = sm.size := by omega
                              have HOK : Keep (placeOk wd (rs.data.toList.take n) = true) := ⟨by rw [HPK.out.1, hp, all_of (fun t h => HJ.out t h h)]; rfl⟩
                              have HST : Keep (RdS wd (linesL s.data.toList) (ds ++ [⟨100, nm, sm⟩]) (linesL (rs.data.toList.drop (n + 1)))) := ⟨by
                                obtain ⟨q1, q2⟩ := placeOk_line HOK.out
                                rw [HPK.out.2] at q1 q2
                                have h := HS.out
                                rw [HLL.out] at h
                                exact h.step (by rw [← q1]) q2 HLT.out⟩
                              have hdn : ds.length ≤ 1048576 := by omega
                              have HCC : Keep (slcells (ds ++ [⟨100, nm, sm⟩]) = slcells ds ++ [.int .u8 100, .string nm, .string sm]) := ⟨by simp [slcells, slcell]⟩
                              have hws := hbq.size
                              have hnx : (n : Int) + 1 ≤ rs.size := by omega
                              have hnw : IntKind.i64.wrap ((n : Int) + 1) = (n : Int) + 1 := by rw [IntKind.wrap_i64]; omega
                              have hn0 : (0 : Int) ≤ (n : Int) + 1 := by omega
                              go_wp2_with (at_builtin; refine wpList_append_own _ rfl _ _ 40 rfl w.heap.size 46 i0 _ 3 40 Tryd.underlying40 hi hz0 hz1 hz2 rfl (by decide) _ _ _ rfl (rowq.alloc _) ⟨wr.heap.size, 0, none⟩ 1 1 [.int .u8 100, .string nm, .string sm] rfl rfl (cell_three_new _ _ _ _ _) (by simp [Value.oneCell']) (by unfold maxLen; omega) (by omega) (by simp; omega) ?_; intro v4 w4 ho4 hg4 hv4)
                              have hb9 := (hbq.alloc (o := .cells #[.int .u8 100, .string nm, .string sm] 46) hws).grown hg4 (by simp; omega) (fun t e => owns_base rowq t e)
                              have HRZ : Keep ((rs.extract (n + 1) rs.size).size = rs.size - (n + 1) ∧ (rs.extract (n + 1) rs.size).data.toList = rs.data.toList.drop (n + 1)) := ⟨by simp, by rw [extract_mkB, mkB_list, List.take_of_length_le (by rw [List.length_drop, ← Lib.size_eq]; omega)]⟩
                              go_roundw
                              case rel => exact ⟨_, ds ++ [⟨100, nm, sm⟩], rfl, by rw [HRZ.out.1]; omega, by rw [HRZ.out.1, List.length_append]; simp; omega, by rw [HRZ.out.2]; exact HST, by rw [HCC.out, List.length_append]; exact ho4, fun e => by rw [e] at hv4; exact absurd (hv4.1 rfl).2 (by omega), hb9⟩
                              case measure =>
                                show (rs.extract (n + 1) rs.size).size < rs.size
                                rw [HRZ.out.1]
                                omega
                        | false =>
                          have HORD : Keep (∀ es, ¬ RdR wd ⟨#[]⟩ (linesL s.data.toList) es) := ⟨by
                            have h := HS.out
                            rw [HLL.out] at h
                            refine h.bad (fun d' e hk hl => ?_)
                            have e1 := List.append_cancel_right e
                            have q0 := line_placeOk hk
                            rw [← e1] at q0
                            obtain ⟨q1, q2⟩ := placeOk_line q0
                            have e2 : placeL wd (rs.data.toList.take n) = d' := lnT_inj q2 hk (q1.symm.trans e1)
                            rw [HPK.out.2] at e2
                            rw [← e2, ← HL.out, hlt] at hl
                            cases hl⟩
                          have hle := lessD_total L.toList nm.toList
                          rw [hlt] at hle
                          cases hl1 : Op.bytesLess nm.toList L.toList with
                          | true =>
                            have hl2 : (nm.toList == L.toList) = false := by
                              rw [Bool.eq_false_iff]
                              intro h
                              rw [beq_iff_eq] at h
                              rw [h, lessD_irrefl] at hl1
                              cases hl1
                            have hl3 : (L.toList == nm.toList) = false := by rw [Bool.beq_comm]; exact hl2
                            clear hle
                            go_upto_region 10 with fail
                            (haveI := later_any; refine wp_region_later (by kernel_rfl) (by kernel_rfl) ?_; (repeat (go_big_quiet_step (first | (go_at_call 30; exact HC.out _)))); refine wpQuiet_nil ?_; intro _ hwq; obtain ⟨xq, hwq2⟩ := hwq; subst hwq2)
                            have hbq := hbX.trans (xq.kept.mono hbX.size)
                            go_wp2
                            refine bodyPost_ret (v := .tuple #[.slice (some ⟨g, 0, none⟩) ds.length cp, .bool false]) ?_ rfl (HNO.out _ hbq HORD.out)
                            go_light
                            simp [results, Tryd.results13, go_sem]
                          | false =>
                            have hl2 : (nm.toList == L.toList) = true := by rw [hl1] at hle; simpa using hle.symm
                            have hl3 : (L.toList == nm.toList) = true := by rw [Bool.beq_comm]; exact hl2
                            clear hle
                            go_upto_region 10 with fail
                            (haveI := later_any; refine wp_region_later (by kernel_rfl) (by kernel_rfl) ?_; (repeat (go_big_quiet_step (first | (go_at_call 30; exact HC.out _)))); refine wpQuiet_nil ?_; intro _ hwq; obtain ⟨xq, hwq2⟩ := hwq; subst hwq2)
                            have hbq := hbX.trans (xq.kept.mono hbX.size)
                            go_wp2
                            refine bodyPost_ret (v := .tuple #[.slice (some ⟨g, 0, none⟩) ds.length cp, .bool false]) ?_ rfl (HNO.out _ hbq HORD.out)
                            go_light
                            simp [results, Tryd.results13, go_sem]
                  · have g2' : ¬ (rs[k].toNat : Int) = 32 := nat_ne g2
                    have g2b : ((rs[k].toNat : Int) == 32) = false := by simpa using g2'
                    have g2c : ((rs[k].toNat : Int) != 32) = true := by simp [g2']
                    have HX : Keep (placeOk wd (rs.data.toList.take n) = false) := ⟨HPL.out (.inr (.inr (.inr g2)))⟩
                    go_wp2
                    refine bodyPost_ret (v := .tuple #[.slice ad ds.length cp, .bool false]) ?_ rfl (HNO.out _ hb (HBAD.out HX.out))
                    go_light
                    simp [results, Tryd.results13, go_sem]
                · have g1' : ¬ (rs[1].toNat : Int) = 32 := nat_ne g1
                  have g1b : ((rs[1].toNat : Int) == 32) = false := by simpa using g1'
                  have HX : Keep (placeOk wd (rs.data.toList.take n) = false) := ⟨HPL.out (.inr (.inr (.inl g1)))⟩
                  go_wp2
                  refine bodyPost_ret (v := .tuple #[.slice ad ds.length cp, .bool false]) ?_ rfl (HNO.out _ hb (HBAD.out HX.out))
                  go_light
                  simp [results, Tryd.results13, go_sem]
              · have f1' : ¬ (rs[0].toNat : Int) = 100 := nat_ne k1
                have f1 : ((rs[0].toNat : Int) == 100) = false := by simpa using f1'
                by_cases k2 : rs[0] = 102
                · have f2 : ((rs[0].toNat : Int) == 102) = true := by rw [k2]; rfl
                  have f2' : (rs[0].toNat : Int) = 102 := by rw [k2]; rfl
                  by_cases g1 : rs[1] = 32
                  · have g1' : (rs[1].toNat : Int) = 32 := by rw [g1]; rfl
                    have g1b : ((rs[1].toNat : Int) == 32) = true := by simpa using g1'
                    by_cases g2 : rs[k] = 32
                    · have g2' : (rs[k].toNat : Int) = 32 := by rw [g2]; rfl
                      have g2b : ((rs[k].toNat : Int) == 32) = true := by simpa using g2'
                      have g2c : ((rs[k].toNat : Int) != 32) = false := by simp [g2']
                      have i1 : (2 : Int) ≤ (k : Int) := by omega
                      have i2 : (k : Int) ≤ (rs.size : Int) := by omega
                      have i3 : (k : Int) + 1 ≤ (n : Int) := by have := HKN.out; omega
                      have i4 : (n : Int) ≤ (rs.size : Int) := by omega
                      have i5 : (0 : Int) ≤ (k : Int) + 1 := by omega
                      have i6 : IntKind.i64.wrap ((k : Int) + 1) = (k : Int) + 1 := by rw [IntKind.wrap_i64]; omega
                      have i7 : (0 : Int) ≤ (k : Int) := by omega
                      have i8 : (0 : Int) ≤ (n : Int) := by omega
                      have HPK : Keep (placeOk wd (rs.data.toList.take n) = (partOk pathB (rs.extract 2 k) && (rs.extract (k + 1) n).data.toList.all hexB) ∧ placeL wd (rs.data.toList.take n) = ⟨102, rs.extract 2 k, rs.extract (k + 1) n⟩) := ⟨place_is (by omega) HKN.out (by omega) (by decide) (k2) g1 g2⟩
                      go_upto_region 9 with fail
                      go_region
                      have hbX : Below wr.heap.size wr (wr.alloc (.cells #[.int .u8 102, .string (rs.extract 2 k), .string (rs.extract (k + 1) n)] 46)).drew := (belowS_one wr _).drew
                      have x0 : (wr.alloc (.cells #[.int .u8 102, .string (rs.extract 2 k), .string (rs.extract (k + 1) n)] 46)).drew.cell? ⟨wr.heap.size, 0, none⟩ = some (.int .u8 102) := by simp [go_sem]
                      have x1 : (wr.alloc (.cells #[.int .u8 102, .string (rs.extract 2 k), .string (rs.extract (k + 1) n)] 46)).drew.cell? ⟨wr.heap.size, 1, none⟩ = some (.string (rs.extract 2 k)) := by simp [go_sem]
                      have x2 : (wr.alloc (.cells #[.int .u8 102, .string (rs.extract 2 k), .string (rs.extract (k + 1) n)] 46)).drew.cell? ⟨wr.heap.size, 2, none⟩ = some (.string (rs.extract (k + 1) n)) := by simp [go_sem]
                      have rowX := owns_below hrow hbX
                      replace hbX := hb.trans (hbX.mono hb.size)
                      generalize (wr.alloc (.cells #[.int .u8 102, .string (rs.extract 2 k), .string (rs.extract (k + 1) n)] 46)).drew = X at *
                      generalize wr.heap.size = xb at *
                      obtain ⟨nm, hnm⟩ : ∃ x, rs.extract 2 k = x := ⟨_, rfl⟩
                      obtain ⟨sm, hsm⟩ : ∃ x, rs.extract (k + 1) n = x := ⟨_, rfl⟩
                      rw [hnm] at x1 HPK ⊢
                      rw [hsm] at x2 HPK ⊢
                      have hsmz : sm.size ≤ 1048576 := by rw [← hsm]; simp; omega
                      clear hnm hsm
                      cases hp : partOk pathB nm with
                      | false =>
                        have HX : Keep (placeOk wd (rs.data.toList.take n) = false) := ⟨by rw [HPK.out.1, hp]; rfl⟩
                        have HC : Keep (∀ x : Later X, Calls Tryd.prog 30 #[.string nm, .bool false] x.world fun e w'' => e = .returned (.bool false) ∧ ∃ y : Later X, w'' = y.world) := ⟨fun x => x.call ((l4PartOk_any false nm x.world).mono (fun e w' ⟨h1, h2⟩ => ⟨by rw [h1]; show Ending.returned (.bool (partOk pathB nm)) = _; rw [hp], h2 ▸ Below.refl _ _⟩))⟩
                        have N1 : ∀ x : Later X, x.world.cell? ⟨xb, 1, none⟩ = some (.string nm) := fun x => cell_later x.kept x1
                        go_upto_region 10 with fail
                        (haveI := later_any; refine wp_region_later (by kernel_rfl) (by kernel_rfl) ?_; (repeat (go_big_quiet_step (first | (go_at_call 30; exact HC.out _)))); refine wpQuiet_nil ?_; intro _ hwq; obtain ⟨xq, hwq2⟩ := hwq; subst hwq2)
                        have hbq := hbX.trans (xq.kept.mono hbX.size)
                        go_wp2
                        refine bodyPost_ret (v := .tuple #[.slice ad ds.length cp, .bool false]) ?_ rfl (HNO.out _ hbq (HBAD.out HX.out))
                        go_light
                        simp [results, Tryd.results13, go_sem]
                      | true =>
                        have HC : Keep (∀ x : Later X, Calls Tryd.prog 30 #[.string nm, .bool false] x.world fun e w'' => e = .returned (.bool true) ∧ ∃ y : Later X, w'' = y.world) := ⟨fun x => x.call ((l4PartOk_any false nm x.world).mono (fun e w' ⟨h1, h2⟩ => ⟨by rw [h1]; show Ending.returned (.bool (partOk pathB nm)) = _; rw [hp], h2 ▸ Below.refl _ _⟩))⟩
                        have N1 : ∀ x : Later X, x.world.cell? ⟨xb, 1, none⟩ = some (.string nm) := fun x => cell_later x.kept x1
                        by_cases hd0 : ds = []
                        · subst hd0
                          have HLT : Keep (Op.bytesLess (lstN []).toList nm.toList = true) := ⟨less_part hp⟩
                          have hl0 : ¬ (0 : Int) < (([] : List DL).length : Int) := by simp
                          go_upto_region 10 with fail
                          (haveI := later_any; refine wp_region_later (by kernel_rfl) (by kernel_rfl) ?_; (repeat (go_big_quiet_step (first | (go_at_call 30; exact HC.out _)))); refine wpQuiet_nil ?_; intro _ hwq; obtain ⟨xq, hwq2⟩ := hwq; subst hwq2)
                          have hbq := hbX.trans (xq.kept.mono hbX.size)
                          have M0 := cell_later xq.kept x0
                          have M1 := cell_later xq.kept x1
                          have M2 := cell_later xq.kept x2
                          have rowq := owns_below rowX xq.kept
                          generalize xq.world = Y at *
                          go_wp2
                          go_loopw [10] (fun i wq => ∃ (j : Nat), j ≤ sm.size ∧ i = .int .i64 j ∧ Keep (∀ t, t < j → ∀ (h : t < sm.size), hexB sm[t] = true) ∧ wq = Y) (fun i _ => sm.size - (intOf i).toNat)
                          case atStart => exact ⟨0, Nat.zero_le _, rfl, ⟨fun t h => absurd h (Nat.not_lt_zero _)⟩, rfl⟩
                          case round =>
                            obtain ⟨j, hj, rfl, HJ, rfl⟩ := hrel
                            by_cases hjl : j < sm.size
                            · by_cases a1 : (sm[j].toNat : Int) < 48
                              · have a3 : (sm[j].toNat : Int) < 97 := by omega
                                have HX : Keep (placeOk wd (rs.data.toList.take n) = false) := ⟨by rw [HPK.out.1, hp, not_all hjl (by simp [hexB]; omega)]; rfl⟩
                                go_wp2
                                refine bodyPost_ret (v := .tuple #[.slice ad ([] : List DL).length cp, .bool false]) ?_ rfl (HNO.out _ hbq (HBAD.out HX.out))
                                go_light
                                simp [results, Tryd.results13, go_sem]
                              · by_cases a2 : (57 : Int) < sm[j].toNat
                                · by_cases a3 : (sm[j].toNat : Int) < 97
                                  · have HX : Keep (placeOk wd (rs.data.toList.take n) = false) := ⟨by rw [HPK.out.1, hp, not_all hjl (by simp [hexB]; omega)]; rfl⟩
                                    go_wp2
                                    refine bodyPost_ret (v := .tuple #[.slice ad ([] : List DL).length cp, .bool false]) ?_ rfl (HNO.out _ hbq (HBAD.out HX.out))
                                    go_light
                                    simp [results, Tryd.results13, go_sem]
                                  · by_cases a4 : (102 : Int) < sm[j].toNat
                                    · have HX : Keep (placeOk wd (rs.data.toList.take n) = false) := ⟨by rw [HPK.out.1, hp, not_all hjl (by simp [hexB]; omega)]; rfl⟩
                                      go_wp2
                                      refine bodyPost_ret (v := .tuple #[.slice ad ([] : List DL).length cp, .bool false]) ?_ rfl (HNO.out _ hbq (HBAD.out HX.out))
                                      go_light
                                      simp [results, Tryd.results13, go_sem]
                                    · go_wp2
                                      go_roundw
                                      case rel => exact ⟨j + 1, by omega, by go_num, ⟨fun t ht h => by
                                        by_cases e : t < j
                                        · exact HJ.out t e h
                                        · obtain rfl : t = j := by omega
                                          simp [hexB]
                                          omega⟩, trivial⟩
                                      case measure => simp [intOf]; omega
                                · go_wp2
                                  go_roundw
                                  case rel => exact ⟨j + 1, by omega, by go_num, ⟨fun t ht h => by
                                    by_cases e : t < j
                                    · exact HJ.out t e h
                                    · obtain rfl : t = j := by omega
                                      simp [hexB]
                                      omega⟩, trivial⟩
                                  case measure => simp [intOf]; omega
                            · obtain rfl : j = sm.size := by omega
                              have HOK : Keep (placeOk wd (rs.data.toList.take n) = true) := ⟨by rw [HPK.out.1, hp, all_of (fun t h => HJ.out t h h)]; rfl⟩
                              have HST : Keep (RdS wd (linesL s.data.toList) (([] : List DL) ++ [⟨102, nm, sm⟩]) (linesL (rs.data.toList.drop (n + 1)))) := ⟨by
                                obtain ⟨q1, q2⟩ := placeOk_line HOK.out
                                rw [HPK.out.2] at q1 q2
                                have h := HS.out
                                rw [HLL.out] at h
                                exact h.step (by rw [← q1]) q2 HLT.out⟩
                              have hdn : ([] : List DL).length ≤ 1048576 := by omega
                              have HCC : Keep (slcells (([] : List DL) ++ [⟨102, nm, sm⟩]) = slcells ([] : List DL) ++ [.int .u8 102, .string nm, .string sm]) := ⟨by simp [slcells, slcell]⟩
                              have hws := hbq.size
                              have hnx : (n : Int) + 1 ≤ rs.size := by omega
                              have hnw : IntKind.i64.wrap ((n : Int) + 1) = (n : Int) + 1 := by rw [IntKind.wrap_i64]; omega
                              have hn0 : (0 : Int) ≤ (n : Int) + 1 := by omega
                              go_wp2_with (at_builtin; refine wpList_append_own _ rfl _ _ 40 rfl w.heap.size 46 i0 _ 3 40 Tryd.underlying40 hi hz0 hz1 hz2 rfl (by decide) _ _ _ rfl (rowq.alloc _) ⟨wr.heap.size, 0, none⟩ 1 1 [.int .u8 102, .string nm, .string sm] rfl rfl (cell_three_new _ _ _ _ _) (by simp [Value.oneCell']) (by unfold maxLen; omega) (by omega) (by simp; omega) ?_; intro v4 w4 ho4 hg4 hv4)
                              have hb9 := (hbq.alloc (o := .cells #[.int .u8 102, .string nm, .string sm] 46) hws).grown hg4 (by simp; omega) (fun t e => owns_base rowq t e)
                              have HRZ : Keep ((rs.extract (n + 1) rs.size).size = rs.size - (n + 1) ∧ (rs.extract (n + 1) rs.size).data.toList = rs.data.toList.drop (n + 1)) := ⟨by simp, by rw [extract_mkB, mkB_list, List.take_of_length_le (by rw [List.length_drop, ← Lib.size_eq]; omega)]⟩
                              go_roundw
                              case rel => exact ⟨_, ([] : List DL) ++ [⟨102, nm, sm⟩], rfl, by rw [HRZ.out.1]; omega, by rw [HRZ.out.1, List.length_append]; simp; omega, by rw [HRZ.out.2]; exact HST, by rw [HCC.out, List.length_append]; exact ho4, fun e => by rw [e] at hv4; exact absurd (hv4.1 rfl).2 (by omega), hb9⟩
                              case measure =>
                                show (rs.extract (n + 1) rs.size).size < rs.size
                                rw [HRZ.out.1]
                                omega
                        · have hpos : 0 < ds.length := List.length_pos_iff.2 hd0
                          obtain ⟨m, hmm⟩ : ∃ m, ds.length = m + 1 := ⟨ds.length - 1, by omega⟩
                          have HMM : Keep (ds.length = m + 1) := ⟨hmm⟩
                          obtain ⟨g, hg, hls⟩ := lsp_of_row rowX hpos
                          obtain ⟨L, hL⟩ : ∃ L, L = lstN ds := ⟨_, rfl⟩
                          have HL : Keep (L = lstN ds) := ⟨hL⟩
                          have N2 : ∀ x : Later X, x.world.cell? ⟨g, m * 3 + 1, none⟩ = some (.string L) := fun x => by
                            rw [hL, lstN_last hmm]
                            exact cell_later x.kept (hls m (by omega)).2.1
                          have hl0 : decide ((0 : Int) < (ds.length : Int)) = true := by simp; omega
                          have hl0' : (0 : Int) < (ds.length : Int) := by omega
                          have hl0n : 0 < ds.length := by omega
                          have hm1 : IntKind.i64.wrap ((ds.length : Int) - 1) = (m : Int) := by rw [IntKind.wrap_i64]; omega
                          have hm1' : (ds.length : Int) - 1 = (m : Int) := by omega
                          have hm2 : (m : Int) < (ds.length : Int) := by omega
                          have hm3 : (0 : Int) ≤ (m : Int) := by omega
                          have HG : Keep (ad = some ⟨g, 0, none⟩) := ⟨hg⟩
                          subst hg
                          clear hmm hL hls hpos
                          cases hlt : Op.bytesLess L.toList nm.toList with
                          | true =>
                            have HLT : Keep (Op.bytesLess (lstN ds).toList nm.toList = true) := ⟨by rw [← HL.out]; exact hlt⟩
                            have hle := lessD_total L.toList nm.toList
                            rw [hlt] at hle
                            have hl1 : Op.bytesLess nm.toList L.toList = false := by
                              cases h : Op.bytesLess nm.toList L.toList with
                              | false => rfl
                              | true => rw [h] at hle; simp at hle
                            have hl2 : (nm.toList == L.toList) = false := by
                              rw [hl1] at hle
                              simpa using hle.symm
                            have hl3 : (L.toList == nm.toList) = false := by rw [Bool.beq_comm]; exact hl2
                            clear hle
                            go_upto_region 10 with fail
                            (haveI := later_any; refine wp_region_later (by kernel_rfl) (by kernel_rfl) ?_; (repeat (go_big_quiet_step (first | (go_at_call 30; exact HC.out _)))); refine wpQuiet_nil ?_; intro _ hwq; obtain ⟨xq, hwq2⟩ := hwq; subst hwq2)
                            have hbq := hbX.trans (xq.kept.mono hbX.size)
                            have M0 := cell_later xq.kept x0
                            have M1 := cell_later xq.kept x1
                            have M2 := cell_later xq.kept x2
                            have rowq := owns_below rowX xq.kept
                            generalize xq.world = Y at *
                            go_wp2
                            go_loopw [10] (fun i wq => ∃ (j : Nat), j ≤ sm.size ∧ i = .int .i64 j ∧ Keep (∀ t, t < j → ∀ (h : t < sm.size), hexB sm[t] = true) ∧ wq = Y) (fun i _ => sm.size - (intOf i).toNat)
                            case atStart => exact ⟨0, Nat.zero_le _, rfl, ⟨fun t h => absurd h (Nat.not_lt_zero _)⟩, rfl⟩
                            case round =>
                              obtain ⟨j, hj, rfl, HJ, rfl⟩ := hrel
                              by_cases hjl : j < sm.size
                              · by_cases a1 : (sm[j].toNat : Int) < 48
                                · have a3 : (sm[j].toNat : Int) < 97 := by omega
                                  have HX : Keep (placeOk wd (rs.data.toList.take n) = false) := ⟨by rw [HPK.out.1, hp, not_all hjl (by simp [hexB]; omega)]; rfl⟩
                                  go_wp2
                                  refine bodyPost_ret (v := .tuple #[.slice (some ⟨g, 0, none⟩) ds.length cp, .bool false]) ?_ rfl (HNO.out _ hbq (HBAD.out HX.out))
                                  go_light
                                  simp [results, Tryd.results13, go_sem]
                                · by_cases a2 : (57 : Int) < sm[j].toNat
                                  · by_cases a3 : (sm[j].toNat : Int) < 97
                                    · have HX : Keep (placeOk wd (rs.data.toList.take n) = false) := ⟨by rw [HPK.out.1, hp, not_all hjl (by simp [hexB]; omega)]; rfl⟩
                                      go_wp2
                                      refine bodyPost_ret (v := .tuple #[.slice (some ⟨g, 0, none⟩) ds.length cp, .bool false]) ?_ rfl (HNO.out _ hbq (HBAD.out HX.out))
                                      go_light
                                      simp [results, Tryd.results13, go_sem]
                                    · by_cases a4 : (102 : Int) < sm[j].toNat
                                      · have HX : Keep (placeOk wd (rs.data.toList.take n) = false) := ⟨by rw [HPK.out.1, hp, not_all hjl (by simp [hexB]; omega)]; rfl⟩
                                        go_wp2
                                        refine bodyPost_ret (v := .tuple #[.slice (some ⟨g, 0, none⟩) ds.length cp, .bool false]) ?_ rfl (HNO.out _ hbq (HBAD.out HX.out))
                                        go_light
                                        simp [results, Tryd.results13, go_sem]
                                      · go_wp2
                                        go_roundw
                                        case rel => exact ⟨j + 1, by omega, by go_num, ⟨fun t ht h => by
                                          by_cases e : t < j
                                          · exact HJ.out t e h
                                          · obtain rfl : t = j := by omega
                                            simp [hexB]
                                            omega⟩, trivial⟩
                                        case measure => simp [intOf]; omega
                                  · go_wp2
                                    go_roundw
                                    case rel => exact ⟨j + 1, by omega, by go_num, ⟨fun t ht h => by
                                      by_cases e : t < j
                                      · exact HJ.out t e h
                                      · obtain rfl : t = j := by omega
                                        simp [hexB]
                                        omega⟩, trivial⟩
                                    case measure => simp [intOf]; omega
                              · obtain rfl : j = sm.size := by omega
                                have HOK : Keep (placeOk wd (rs.data.toList.take n) = true) := ⟨by rw [HPK.out.1, hp, all_of (fun t h => HJ.out t h h)]; rfl⟩
                                have HST : Keep (RdS wd (linesL s.data.toList) (ds ++ [⟨102, nm, sm⟩]) (linesL (rs.data.toList.drop (n + 1)))) := ⟨by
                                  obtain ⟨q1, q2⟩ := placeOk_line HOK.out
                                  rw [HPK.out.2] at q1 q2
                                  have h := HS.out
                                  rw [HLL.out] at h
                                  exact h.step (by rw [← q1]) q2 HLT.out⟩
                                have hdn : ds.length ≤ 1048576 := by omega
                                have HCC : Keep (slcells (ds ++ [⟨102, nm, sm⟩]) = slcells ds ++ [.int .u8 102, .string nm, .string sm]) := ⟨by simp [slcells, slcell]⟩
                                have hws := hbq.size
                                have hnx : (n : Int) + 1 ≤ rs.size := by omega
                                have hnw : IntKind.i64.wrap ((n : Int) + 1) = (n : Int) + 1 := by rw [IntKind.wrap_i64]; omega
                                have hn0 : (0 : Int) ≤ (n : Int) + 1 := by omega
                                go_wp2_with (at_builtin; refine wpList_append_own _ rfl _ _ 40 rfl w.heap.size 46 i0 _ 3 40 Tryd.underlying40 hi hz0 hz1 hz2 rfl (by decide) _ _ _ rfl (rowq.alloc _) ⟨wr.heap.size, 0, none⟩ 1 1 [.int .u8 102, .string nm, .string sm] rfl rfl (cell_three_new _ _ _ _ _) (by simp [Value.oneCell']) (by unfold maxLen; omega) (by omega) (by simp; omega) ?_; intro v4 w4 ho4 hg4 hv4)
                                have hb9 := (hbq.alloc (o := .cells #[.int .u8 102, .string nm, .string sm] 46) hws).grown hg4 (by simp; omega) (fun t e => owns_base rowq t e)
                                have HRZ : Keep ((rs.extract (n + 1) rs.size).size = rs.size - (n + 1) ∧ (rs.extract (n + 1) rs.size).data.toList = rs.data.toList.drop (n + 1)) := ⟨by simp, by rw [extract_mkB, mkB_list, List.take_of_length_le (by rw [List.length_drop, ← Lib.size_eq]; omega)]⟩
                                go_roundw
                                case rel => exact ⟨_, ds ++ [⟨102, nm, sm⟩], rfl, by rw [HRZ.out.1]; omega, by rw [HRZ.out.1, List.length_append]; simp; omega, by rw [HRZ.out.2]; exact HST, by rw [HCC.out, List.length_append]; exact ho4, fun e => by rw [e] at hv4; exact absurd (hv4.1 rfl).2 (by omega), hb9⟩
                                case measure =>
                                  show (rs.extract (n + 1) rs.size).size < rs.size
                                  rw [HRZ.out.1]
                                  omega
                          | false =>
                            have HORD : Keep (∀ es, ¬ RdR wd ⟨#[]⟩ (linesL s.data.toList) es) := ⟨by
                              have h := HS.out
                              rw [HLL.out] at h
                              refine h.bad (fun d' e hk hl => ?_)
                              have e1 := List.append_cancel_right e
                              have q0 := line_placeOk hk
                              rw [← e1] at q0
                              obtain ⟨q1, q2⟩ := placeOk_line q0
                              have e2 : placeL wd (rs.data.toList.take n) = d' := lnT_inj q2 hk (q1.symm.trans e1)
                              rw [HPK.out.2] at e2
                              rw [← e2, ← HL.out, hlt] at hl
                              cases hl⟩
                            have hle := lessD_total L.toList nm.toList
                            rw [hlt] at hle
                            cases hl1 : Op.bytesLess nm.toList L.toList with
                            | true =>
                              have hl2 : (nm.toList == L.toList) = false := by
                                rw [Bool.eq_false_iff]
                                intro h
                                rw [beq_iff_eq] at h
                                rw [h, lessD_irrefl] at hl1
                                cases hl1
                              have hl3 : (L.toList == nm.toList) = false := by rw [Bool.beq_comm]; exact hl2
                              clear hle
                              go_upto_region 10 with fail
                              (haveI := later_any; refine wp_region_later (by kernel_rfl) (by kernel_rfl) ?_; (repeat (go_big_quiet_step (first | (go_at_call 30; exact HC.out _)))); refine wpQuiet_nil ?_; intro _ hwq; obtain ⟨xq, hwq2⟩ := hwq; subst hwq2)
                              have hbq := hbX.trans (xq.kept.mono hbX.size)
                              go_wp2
                              refine bodyPost_ret (v := .tuple #[.slice (some ⟨g, 0, none⟩) ds.length cp, .bool false]) ?_ rfl (HNO.out _ hbq HORD.out)
                              go_light
                              simp [results, Tryd.results13, go_sem]
                            | false =>
                              have hl2 : (nm.toList == L.toList) = true := by rw [hl1] at hle; simpa using hle.symm
                              have hl3 : (L.toList == nm.toList) = true := by rw [Bool.beq_comm]; exact hl2
                              clear hle
                              go_upto_region 10 with fail
                              (haveI := later_any; refine wp_region_later (by kernel_rfl) (by kernel_rfl) ?_; (repeat (go_big_quiet_step (first | (go_at_call 30; exact HC.out _)))); refine wpQuiet_nil ?_; intro _ hwq; obtain ⟨xq, hwq2⟩ := hwq; subst hwq2)
                              have hbq := hbX.trans (xq.kept.mono hbX.size)
                              go_wp2
                              refine bodyPost_ret (v := .tuple #[.slice (some ⟨g, 0, none⟩) ds.length cp, .bool false]) ?_ rfl (HNO.out _ hbq HORD.out)
                              go_light
                              simp [results, Tryd.results13, go_sem]
                    · have g2' : ¬ (rs[k].toNat : Int) = 32 := nat_ne g2
                      have g2b : ((rs[k].toNat : Int) == 32) = false := by simpa using g2'
                      have g2c : ((rs[k].toNat : Int) != 32) = true := by simp [g2']
                      have HX : Keep (placeOk wd (rs.data.toList.take n) = false) := ⟨HPL.out (.inr (.inr (.inr g2)))⟩
                      go_wp2
                      refine bodyPost_ret (v := .tuple #[.slice ad ds.length cp, .bool false]) ?_ rfl (HNO.out _ hb (HBAD.out HX.out))
                      go_light
                      simp [results, Tryd.results13, go_sem]
                  · have g1' : ¬ (rs[1].toNat : Int) = 32 := nat_ne g1
                    have g1b : ((rs[1].toNat : Int) == 32) = false := by simpa using g1'
                    have HX : Keep (placeOk wd (rs.data.toList.take n) = false) := ⟨HPL.out (.inr (.inr (.inl g1)))⟩
                    go_wp2
                    refine bodyPost_ret (v := .tuple #[.slice ad ds.length cp, .bool false]) ?_ rfl (HNO.out _ hb (HBAD.out HX.out))
                    go_light
                    simp [results, Tryd.results13, go_sem]
                · have f2' : ¬ (rs[0].toNat : Int) = 102 := nat_ne k2
                  have f2 : ((rs[0].toNat : Int) == 102) = false := by simpa using f2'
                  by_cases k3 : rs[0] = 120
                  · have f3 : ((rs[0].toNat : Int) == 120) = true := by rw [k3]; rfl
                    have f3' : (rs[0].toNat : Int) = 120 := by rw [k3]; rfl
                    by_cases g1 : rs[1] = 32
                    · have g1' : (rs[1].toNat : Int) = 32 := by rw [g1]; rfl
                      have g1b : ((rs[1].toNat : Int) == 32) = true := by simpa using g1'
                      by_cases g2 : rs[k] = 32
                      · have g2' : (rs[k].toNat : Int) = 32 := by rw [g2]; rfl
                        have g2b : ((rs[k].toNat : Int) == 32) = true := by simpa using g2'
                        have g2c : ((rs[k].toNat : Int) != 32) = false := by simp [g2']
                        have i1 : (2 : Int) ≤ (k : Int) := by omega
                        have i2 : (k : Int) ≤ (rs.size : Int) := by omega
                        have i3 : (k : Int) + 1 ≤ (n : Int) := by have := HKN.out; omega
                        have i4 : (n : Int) ≤ (rs.size : Int) := by omega
                        have i5 : (0 : Int) ≤ (k : Int) + 1 := by omega
                        have i6 : IntKind.i64.wrap ((k : Int) + 1) = (k : Int) + 1 := by rw [IntKind.wrap_i64]; omega
                        have i7 : (0 : Int) ≤ (k : Int) := by omega
                        have i8 : (0 : Int) ≤ (n : Int) := by omega
                        have HPK : Keep (placeOk wd (rs.data.toList.take n) = (partOk pathB (rs.extract 2 k) && (rs.extract (k + 1) n).data.toList.all hexB) ∧ placeL wd (rs.data.toList.take n) = ⟨120, rs.extract 2 k, rs.extract (k + 1) n⟩) := ⟨place_is (by omega) HKN.out (by omega) (by decide) (k3) g1 g2⟩
                        go_upto_region 9 with fail
                        go_region
                        have hbX : Below wr.heap.size wr (wr.alloc (.cells #[.int .u8 120, .string (rs.extract 2 k), .string (rs.extract (k + 1) n)] 46)).drew := (belowS_one wr _).drew
                        have x0 : (wr.alloc (.cells #[.int .u8 120, .string (rs.extract 2 k), .string (rs.extract (k + 1) n)] 46)).drew.cell? ⟨wr.heap.size, 0, none⟩ = some (.int .u8 120) := by simp [go_sem]
                        have x1 : (wr.alloc (.cells #[.int .u8 120, .string (rs.extract 2 k), .string (rs.extract (k + 1) n)] 46)).drew.cell? ⟨wr.heap.size, 1, none⟩ = some (.string (rs.extract 2 k)) := by simp [go_sem]
                        have x2 : (wr.alloc (.cells #[.int .u8 120, .string (rs.extract 2 k), .string (rs.extract (k + 1) n)] 46)).drew.cell? ⟨wr.heap.size, 2, none⟩ = some (.string (rs.extract (k + 1) n)) := by simp [go_sem]
                        have rowX := owns_below hrow hbX
                        replace hbX := hb.trans (hbX.mono hb.size)
                        generalize (wr.alloc (.cells #[.int .u8 120, .string (rs.extract 2 k), .string (rs.extract (k + 1) n)] 46)).drew = X at *
                        generalize wr.heap.size = xb at *
                        obtain ⟨nm, hnm⟩ : ∃ x, rs.extract 2 k = x := ⟨_, rfl⟩
                        obtain ⟨sm, hsm⟩ : ∃ x, rs.extract (k + 1) n = x := ⟨_, rfl⟩
                        rw [hnm] at x1 HPK ⊢
                        rw [hsm] at x2 HPK ⊢
                        have hsmz : sm.size ≤ 1048576 := by rw [← hsm]; simp; omega
                        clear hnm hsm
                        cases hp : partOk pathB nm with
                        | false =>
                          have HX : Keep (placeOk wd (rs.data.toList.take n) = false) := ⟨by rw [HPK.out.1, hp]; rfl⟩
                          have HC : Keep (∀ x : Later X, Calls Tryd.prog 30 #[.string nm, .bool false] x.world fun e w'' => e = .returned (.bool false) ∧ ∃ y : Later X, w'' = y.world) := ⟨fun x => x.call ((l4PartOk_any false nm x.world).mono (fun e w' ⟨h1, h2⟩ => ⟨by rw [h1]; show Ending.returned (.bool (partOk pathB nm)) = _; rw [hp], h2 ▸ Below.refl _ _⟩))⟩
                          have N1 : ∀ x : Later X, x.world.cell? ⟨xb, 1, none⟩ = some (.string nm) := fun x => cell_later x.kept x1
                          go_upto_region 10 with fail
                          (haveI := later_any; refine wp_region_later (by kernel_rfl) (by kernel_rfl) ?_; (repeat (go_big_quiet_step (first | (go_at_call 30; exact HC.out _)))); refine wpQuiet_nil ?_; intro _ hwq; obtain ⟨xq, hwq2⟩ := hwq; subst hwq2)
                          have hbq := hbX.trans (xq.kept.mono hbX.size)
                          go_wp2
                          refine bodyPost_ret (v := .tuple #[.slice ad ds.length cp, .bool false]) ?_ rfl (HNO.out _ hbq (HBAD.out HX.out))
                          go_light
                          simp [results, Tryd.results13, go_sem]
                        | true =>
                          have HC : Keep (∀ x : Later X, Calls Tryd.prog 30 #[.string nm, .bool false] x.world fun e w'' => e = .returned (.bool true) ∧ ∃ y : Later X, w'' = y.world) := ⟨fun x => x.call ((l4PartOk_any false nm x.world).mono (fun e w' ⟨h1, h2⟩ => ⟨by rw [h1]; show Ending.returned (.bool (partOk pathB nm)) = _; rw [hp], h2 ▸ Below.refl _ _⟩))⟩
                          have N1 : ∀ x : Later X, x.world.cell? ⟨xb, 1, none⟩ = some (.string nm) := fun x => cell_later x.kept x1
                          by_cases hd0 : ds = []
                          · subst hd0
                            have HLT : Keep (Op.bytesLess (lstN []).toList nm.toList = true) := ⟨less_part hp⟩
                            have hl0 : ¬ (0 : Int) < (([] : List DL).length : Int) := by simp
                            go_upto_region 10 with fail
                            (haveI := later_any; refine wp_region_later (by kernel_rfl) (by kernel_rfl) ?_; (repeat (go_big_quiet_step (first | (go_at_call 30; exact HC.out _)))); refine wpQuiet_nil ?_; intro _ hwq; obtain ⟨xq, hwq2⟩ := hwq; subst hwq2)
                            have hbq := hbX.trans (xq.kept.mono hbX.size)
                            have M0 := cell_later xq.kept x0
                            have M1 := cell_later xq.kept x1
                            have M2 := cell_later xq.kept x2
                            have rowq := owns_below rowX xq.kept
                            generalize xq.world = Y at *
                            go_wp2
                            go_loopw [10] (fun i wq => ∃ (j : Nat), j ≤ sm.size ∧ i = .int .i64 j ∧ Keep (∀ t, t < j → ∀ (h : t < sm.size), hexB sm[t] = true) ∧ wq = Y) (fun i _ => sm.size - (intOf i).toNat)
                            case atStart => exact ⟨0, Nat.zero_le _, rfl, ⟨fun t h => absurd h (Nat.not_lt_zero _)⟩, rfl⟩
                            case round =>
                              obtain ⟨j, hj, rfl, HJ, rfl⟩ := hrel
                              by_cases hjl : j < sm.size
                              · by_cases a1 : (sm[j].toNat : Int) < 48
                                · have a3 : (sm[j].toNat : Int) < 97 := by omega
                                  have HX : Keep (placeOk wd (rs.data.toList.take n) = false) := ⟨by rw [HPK.out.1, hp, not_all hjl (by simp [hexB]; omega)]; rfl⟩
                                  go_wp2
                                  refine bodyPost_ret (v := .tuple #[.slice ad ([] : List DL).length cp, .bool false]) ?_ rfl (HNO.out _ hbq (HBAD.out HX.out))
                                  go_light
                                  simp [results, Tryd.results13, go_sem]
                                · by_cases a2 : (57 : Int) < sm[j].toNat
                                  · by_cases a3 : (sm[j].toNat : Int) < 97
                                    · have HX : Keep (placeOk wd (rs.data.toList.take n) = false) := ⟨by rw [HPK.out.1, hp, not_all hjl (by simp [hexB]; omega)]; rfl⟩
                                      go_wp2
                                      refine bodyPost_ret (v := .tuple #[.slice ad ([] : List DL).length cp, .bool false]) ?_ rfl (HNO.out _ hbq (HBAD.out HX.out))
                                      go_light
                                      simp [results, Tryd.results13, go_sem]
                                    · by_cases a4 : (102 : Int) < sm[j].toNat
                                      · have HX : Keep (placeOk wd (rs.data.toList.take n) = false) := ⟨by rw [HPK.out.1, hp, not_all hjl (by simp [hexB]; omega)]; rfl⟩
                                        go_wp2
                                        refine bodyPost_ret (v := .tuple #[.slice ad ([] : List DL).length cp, .bool false]) ?_ rfl (HNO.out _ hbq (HBAD.out HX.out))
                                        go_light
                                        simp [results, Tryd.results13, go_sem]
                                      · go_wp2
                                        go_roundw
                                        case rel => exact ⟨j + 1, by omega, by go_num, ⟨fun t ht h => by
                                          by_cases e : t < j
                                          · exact HJ.out t e h
                                          · obtain rfl : t = j := by omega
                                            simp [hexB]
                                            omega⟩, trivial⟩
                                        case measure => simp [intOf]; omega
                                  · go_wp2
                                    go_roundw
                                    case rel => exact ⟨j + 1, by omega, by go_num, ⟨fun t ht h => by
                                      by_cases e : t < j
                                      · exact HJ.out t e h
                                      · obtain rfl : t = j := by omega
                                        simp [hexB]
                                        omega⟩, trivial⟩
                                    case measure => simp [intOf]; omega
                              · obtain rfl : j = sm.size := by omega
                                have HOK : Keep (placeOk wd (rs.data.toList.take n) = true) := ⟨by rw [HPK.out.1, hp, all_of (fun t h => HJ.out t h h)]; rfl⟩
                                have HST : Keep (RdS wd (linesL s.data.toList) (([] : List DL) ++ [⟨120, nm, sm⟩]) (linesL (rs.data.toList.drop (n + 1)))) := ⟨by
                                  obtain ⟨q1, q2⟩ := placeOk_line HOK.out
                                  rw [HPK.out.2] at q1 q2
                                  have h := HS.out
                                  rw [HLL.out] at h
                                  exact h.step (by rw [← q1]) q2 HLT.out⟩
                                have hdn : ([] : List DL).length ≤ 1048576 := by omega
                                have HCC : Keep (slcells (([] : List DL) ++ [⟨120, nm, sm⟩]) = slcells ([] : List DL) ++ [.int .u8 120, .string nm, .string sm]) := ⟨by simp [slcells, slcell]⟩
                                have hws := hbq.size
                                have hnx : (n : Int) + 1 ≤ rs.size := by omega
                                have hnw : IntKind.i64.wrap ((n : Int) + 1) = (n : Int) + 1 := by rw [IntKind.wrap_i64]; omega
                                have hn0 : (0 : Int) ≤ (n : Int) + 1 := by omega
                                go_wp2_with (at_builtin; refine wpList_append_own _ rfl _ _ 40 rfl w.heap.size 46 i0 _ 3 40 Tryd.underlying40 hi hz0 hz1 hz2 rfl (by decide) _ _ _ rfl (rowq.alloc _) ⟨wr.heap.size, 0, none⟩ 1 1 [.int .u8 120, .string nm, .string sm] rfl rfl (cell_three_new _ _ _ _ _) (by simp [Value.oneCell']) (by unfold maxLen; omega) (by omega) (by simp; omega) ?_; intro v4 w4 ho4 hg4 hv4)
                                have hb9 := (hbq.alloc (o := .cells #[.int .u8 120, .string nm, .string sm] 46) hws).grown hg4 (by simp; omega) (fun t e => owns_base rowq t e)
                                have HRZ : Keep ((rs.extract (n + 1) rs.size).size = rs.size - (n + 1) ∧ (rs.extract (n + 1) rs.size).data.toList = rs.data.toList.drop (n + 1)) := ⟨by simp, by rw [extract_mkB, mkB_list, List.take_of_length_le (by rw [List.length_drop, ← Lib.size_eq]; omega)]⟩
                                go_roundw
                                case rel => exact ⟨_, ([] : List DL) ++ [⟨120, nm, sm⟩], rfl, by rw [HRZ.out.1]; omega, by rw [HRZ.out.1, List.length_append]; simp; omega, by rw [HRZ.out.2]; exact HST, by rw [HCC.out, List.length_append]; exact ho4, fun e => by rw [e] at hv4; exact absurd (hv4.1 rfl).2 (by omega), hb9⟩
                                case measure =>
                                  show (rs.extract (n + 1) rs.size).size < rs.size
                                  rw [HRZ.out.1]
                                  omega
                          · have hpos : 0 < ds.length := List.length_pos_iff.2 hd0
                            obtain ⟨m, hmm⟩ : ∃ m, ds.length = m + 1 := ⟨ds.length - 1, by omega⟩
                            have HMM : Keep (ds.length = m + 1) := ⟨hmm⟩
                            obtain ⟨g, hg, hls⟩ := lsp_of_row rowX hpos
                            obtain ⟨L, hL⟩ : ∃ L, L = lstN ds := ⟨_, rfl⟩
                            have HL : Keep (L = lstN ds) := ⟨hL⟩
                            have N2 : ∀ x : Later X, x.world.cell? ⟨g, m * 3 + 1, none⟩ = some (.string L) := fun x => by
                              rw [hL, lstN_last hmm]
                              exact cell_later x.kept (hls m (by omega)).2.1
                            have hl0 : decide ((0 : Int) < (ds.length : Int)) = true := by simp; omega
                            have hl0' : (0 : Int) < (ds.length : Int) := by omega
                            have hl0n : 0 < ds.length := by omega
                            have hm1 : IntKind.i64.wrap ((ds.length : Int) - 1) = (m : Int) := by rw [IntKind.wrap_i64]; omega
                            have hm1' : (ds.length : Int) - 1 = (m : Int) := by omega
                            have hm2 : (m : Int) < (ds.length : Int) := by omega
                            have hm3 : (0 : Int) ≤ (m : Int) := by omega
                            have HG : Keep (ad = some ⟨g, 0, none⟩) := ⟨hg⟩
                            subst hg
                            clear hmm hL hls hpos
                            cases hlt : Op.bytesLess L.toList nm.toList with
                            | true =>
                              have HLT : Keep (Op.bytesLess (lstN ds).toList nm.toList = true) := ⟨by rw [← HL.out]; exact hlt⟩
                              have hle := lessD_total L.toList nm.toList
                              rw [hlt] at hle
                              have hl1 : Op.bytesLess nm.toList L.toList = false := by
                                cases h : Op.bytesLess nm.toList L.toList with
                                | false => rfl
                                | true => rw [h] at hle; simp at hle
                              have hl2 : (nm.toList == L.toList) = false := by
                                rw [hl1] at hle
                                simpa using hle.symm
                              have hl3 : (L.toList == nm.toList) = false := by rw [Bool.beq_comm]; exact hl2
                              clear hle
                              go_upto_region 10 with fail
                              (haveI := later_any; refine wp_region_later (by kernel_rfl) (by kernel_rfl) ?_; (repeat (go_big_quiet_step (first | (go_at_call 30; exact HC.out _)))); refine wpQuiet_nil ?_; intro _ hwq; obtain ⟨xq, hwq2⟩ := hwq; subst hwq2)
                              have hbq := hbX.trans (xq.kept.mono hbX.size)
                              have M0 := cell_later xq.kept x0
                              have M1 := cell_later xq.kept x1
                              have M2 := cell_later xq.kept x2
                              have rowq := owns_below rowX xq.kept
                              generalize xq.world = Y at *
                              go_wp2
                              go_loopw [10] (fun i wq => ∃ (j : Nat), j ≤ sm.size ∧ i = .int .i64 j ∧ Keep (∀ t, t < j → ∀ (h : t < sm.size), hexB sm[t] = true) ∧ wq = Y) (fun i _ => sm.size - (intOf i).toNat)
                              case atStart => exact ⟨0, Nat.zero_le _, rfl, ⟨fun t h => absurd h (Nat.not_lt_zero _)⟩, rfl⟩
                              case round =>
                                obtain ⟨j, hj, rfl, HJ, rfl⟩ := hrel
                                by_cases hjl : j < sm.size
                                · by_cases a1 : (sm[j].toNat : Int) < 48
                                  · have a3 : (sm[j].toNat : Int) < 97 := by omega
                                    have HX : Keep (placeOk wd (rs.data.toList.take n) = false) := ⟨by rw [HPK.out.1, hp, not_all hjl (by simp [hexB]; omega)]; rfl⟩
                                    go_wp2
                                    refine bodyPost_ret (v := .tuple #[.slice (some ⟨g, 0, none⟩) ds.length cp, .bool false]) ?_ rfl (HNO.out _ hbq (HBAD.out HX.out))
                                    go_light
                                    simp [results, Tryd.results13, go_sem]
                                  · by_cases a2 : (57 : Int) < sm[j].toNat
                                    · by_cases a3 : (sm[j].toNat : Int) < 97
                                      · have HX : Keep (placeOk wd (rs.data.toList.take n) = false) := ⟨by rw [HPK.out.1, hp, not_all hjl (by simp [hexB]; omega)]; rfl⟩
                                        go_wp2
                                        refine bodyPost_ret (v := .tuple #[.slice (some ⟨g, 0, none⟩) ds.length cp, .bool false]) ?_ rfl (HNO.out _ hbq (HBAD.out HX.out))
                                        go_light
                                        simp [results, Tryd.results13, go_sem]
                                      · by_cases a4 : (102 : Int) < sm[j].toNat
                                        · have HX : Keep (placeOk wd (rs.data.toList.take n) = false) := ⟨by rw [HPK.out.1, hp, not_all hjl (by simp [hexB]; omega)]; rfl⟩
                                          go_wp2
                                          refine bodyPost_ret (v := .tuple #[.slice (some ⟨g, 0, none⟩) ds.length cp, .bool false]) ?_ rfl (HNO.out _ hbq (HBAD.out HX.out))
                                          go_light
                                          simp [results, Tryd.results13, go_sem]
                                        · go_wp2
                                          go_roundw
                                          case rel => exact ⟨j + 1, by omega, by go_num, ⟨fun t ht h => by
                                            by_cases e : t < j
                                            · exact HJ.out t e h
                                            · obtain rfl : t = j := by omega
                                              simp [hexB]
                                              omega⟩, trivial⟩
                                          case measure => simp [intOf]; omega
                                    · go_wp2
                                      go_roundw
                                      case rel => exact ⟨j + 1, by omega, by go_num, ⟨fun t ht h => by
                                        by_cases e : t < j
                                        · exact HJ.out t e h
                                        · obtain rfl : t = j := by omega
                                          simp [hexB]
                                          omega⟩, trivial⟩
                                      case measure => simp [intOf]; omega
                                · obtain rfl : j = sm.size := by omega
                                  have HOK : Keep (placeOk wd (rs.data.toList.take n) = true) := ⟨by rw [HPK.out.1, hp, all_of (fun t h => HJ.out t h h)]; rfl⟩
                                  have HST : Keep (RdS wd (linesL s.data.toList) (ds ++ [⟨120, nm, sm⟩]) (linesL (rs.data.toList.drop (n + 1)))) := ⟨by
                                    obtain ⟨q1, q2⟩ := placeOk_line HOK.out
                                    rw [HPK.out.2] at q1 q2
                                    have h := HS.out
                                    rw [HLL.out] at h
                                    exact h.step (by rw [← q1]) q2 HLT.out⟩
                                  have hdn : ds.length ≤ 1048576 := by omega
                                  have HCC : Keep (slcells (ds ++ [⟨120, nm, sm⟩]) = slcells ds ++ [.int .u8 120, .string nm, .string sm]) := ⟨by simp [slcells, slcell]⟩
                                  have hws := hbq.size
                                  have hnx : (n : Int) + 1 ≤ rs.size := by omega
                                  have hnw : IntKind.i64.wrap ((n : Int) + 1) = (n : Int) + 1 := by rw [IntKind.wrap_i64]; omega
                                  have hn0 : (0 : Int) ≤ (n : Int) + 1 := by omega
                                  go_wp2_with (at_builtin; refine wpList_append_own _ rfl _ _ 40 rfl w.heap.size 46 i0 _ 3 40 Tryd.underlying40 hi hz0 hz1 hz2 rfl (by decide) _ _ _ rfl (rowq.alloc _) ⟨wr.heap.size, 0, none⟩ 1 1 [.int .u8 120, .string nm, .string sm] rfl rfl (cell_three_new _ _ _ _ _) (by simp [Value.oneCell']) (by unfold maxLen; omega) (by omega) (by simp; omega) ?_; intro v4 w4 ho4 hg4 hv4)
                                  have hb9 := (hbq.alloc (o := .cells #[.int .u8 120, .string nm, .string sm] 46) hws).grown hg4 (by simp; omega) (fun t e => owns_base rowq t e)
                                  have HRZ : Keep ((rs.extract (n + 1) rs.size).size = rs.size - (n + 1) ∧ (rs.extract (n + 1) rs.size).data.toList = rs.data.toList.drop (n + 1)) := ⟨by simp, by rw [extract_mkB, mkB_list, List.take_of_length_le (by rw [List.length_drop, ← Lib.size_eq]; omega)]⟩
                                  go_roundw
                                  case rel => exact ⟨_, ds ++ [⟨120, nm, sm⟩], rfl, by rw [HRZ.out.1]; omega, by rw [HRZ.out.1, List.length_append]; simp; omega, by rw [HRZ.out.2]; exact HST, by rw [HCC.out, List.length_append]; exact ho4, fun e => by rw [e] at hv4; exact absurd (hv4.1 rfl).2 (by omega), hb9⟩
                                  case measure =>
                                    show (rs.extract (n + 1) rs.size).size < rs.size
                                    rw [HRZ.out.1]
                                    omega
                            | false =>
                              have HORD : Keep (∀ es, ¬ RdR wd ⟨#[]⟩ (linesL s.data.toList) es) := ⟨by
                                have h := HS.out
                                rw [HLL.out] at h
                                refine h.bad (fun d' e hk hl => ?_)
                                have e1 := List.append_cancel_right e
                                have q0 := line_placeOk hk
                                rw [← e1] at q0
                                obtain ⟨q1, q2⟩ := placeOk_line q0
                                have e2 : placeL wd (rs.data.toList.take n) = d' := lnT_inj q2 hk (q1.symm.trans e1)
                                rw [HPK.out.2] at e2
                                rw [← e2, ← HL.out, hlt] at hl
                                cases hl⟩
                              have hle := lessD_total L.toList nm.toList
                              rw [hlt] at hle
                              cases hl1 : Op.bytesLess nm.toList L.toList with
                              | true =>
                                have hl2 : (nm.toList == L.toList) = false := by
                                  rw [Bool.eq_false_iff]
                                  intro h
                                  rw [beq_iff_eq] at h
                                  rw [h, lessD_irrefl] at hl1
                                  cases hl1
                                have hl3 : (L.toList == nm.toList) = false := by rw [Bool.beq_comm]; exact hl2
                                clear hle
                                go_upto_region 10 with fail
                                (haveI := later_any; refine wp_region_later (by kernel_rfl) (by kernel_rfl) ?_; (repeat (go_big_quiet_step (first | (go_at_call 30; exact HC.out _)))); refine wpQuiet_nil ?_; intro _ hwq; obtain ⟨xq, hwq2⟩ := hwq; subst hwq2)
                                have hbq := hbX.trans (xq.kept.mono hbX.size)
                                go_wp2
                                refine bodyPost_ret (v := .tuple #[.slice (some ⟨g, 0, none⟩) ds.length cp, .bool false]) ?_ rfl (HNO.out _ hbq HORD.out)
                                go_light
                                simp [results, Tryd.results13, go_sem]
                              | false =>
                                have hl2 : (nm.toList == L.toList) = true := by rw [hl1] at hle; simpa using hle.symm
                                have hl3 : (L.toList == nm.toList) = true := by rw [Bool.beq_comm]; exact hl2
                                clear hle
                                go_upto_region 10 with fail
                                (haveI := later_any; refine wp_region_later (by kernel_rfl) (by kernel_rfl) ?_; (repeat (go_big_quiet_step (first | (go_at_call 30; exact HC.out _)))); refine wpQuiet_nil ?_; intro _ hwq; obtain ⟨xq, hwq2⟩ := hwq; subst hwq2)
                                have hbq := hbX.trans (xq.kept.mono hbX.size)
                                go_wp2
                                refine bodyPost_ret (v := .tuple #[.slice (some ⟨g, 0, none⟩) ds.length cp, .bool false]) ?_ rfl (HNO.out _ hbq HORD.out)
                                go_light
                                simp [results, Tryd.results13, go_sem]
                      · have g2' : ¬ (rs[k].toNat : Int) = 32 := nat_ne g2
                        have g2b : ((rs[k].toNat : Int) == 32) = false := by simpa using g2'
                        have g2c : ((rs[k].toNat : Int) != 32) = true := by simp [g2']
                        have HX : Keep (placeOk wd (rs.data.toList.take n) = false) := ⟨HPL.out (.inr (.inr (.inr g2)))⟩
                        go_wp2
                        refine bodyPost_ret (v := .tuple #[.slice ad ds.length cp, .bool false]) ?_ rfl (HNO.out _ hb (HBAD.out HX.out))
                        go_light
                        simp [results, Tryd.results13, go_sem]
                    · have g1' : ¬ (rs[1].toNat : Int) = 32 := nat_ne g1
                      have g1b : ((rs[1].toNat : Int) == 32) = false := by simpa using g1'
                      have HX : Keep (placeOk wd (rs.data.toList.take n) = false) := ⟨HPL.out (.inr (.inr (.inl g1)))⟩
                      go_wp2
                      refine bodyPost_ret (v := .tuple #[.slice ad ds.length cp, .bool false]) ?_ rfl (HNO.out _ hb (HBAD.out HX.out))
                      go_light
                      simp [results, Tryd.results13, go_sem]
                  · have f3' : ¬ (rs[0].toNat : Int) = 120 := nat_ne k3
                    have f3 : ((rs[0].toNat : Int) == 120) = false := by simpa using f3'
                    have HX : Keep (placeOk wd (rs.data.toList.take n) = false) := ⟨HPL.out (.inr (.inl ⟨k1, k2, k3⟩))⟩
                    go_wp2
                    refine bodyPost_ret (v := .tuple #[.slice ad ds.length cp, .bool false]) ?_ rfl (HNO.out _ hb (HBAD.out HX.out))
                    go_light
                    simp [results, Tryd.results13, go_sem]
          · have hc10 : ((rs[n].toNat : Int) == 10) = false := by
              simp only [beq_eq_false_iff_ne, ne_eq]
              intro h
              have h2 : rs[n].toNat = 10 := by omega
              exact h10 (UInt8.toNat_inj.1 h2)
            have hc10' : ¬ (rs[n].toNat : Int) = 10 := by simpa using hc10
            go_wp2
            go_roundw
            case rel =>
              refine ⟨n + 1, by omega, by go_num, ⟨fun j hj => ?_⟩, trivial⟩
              by_cases e : j < n
              · exact HN.out j e
              · obtain rfl : j = n := by omega
                rw [List.getElem?_eq_getElem (by rw [← Lib.size_eq]; exact hlt)]
                intro h
                exact h10 (by injection h)
            case measure => simp [intOf]; omega
        · obtain rfl : n = rs.size := by omega
          have HB2 : Keep (∀ es, ¬ RdR wd ⟨#[]⟩ (linesL s.data.toList) es) := ⟨by
            have h := HS.out
            have hne : rs.data.toList ≠ [] := fun e => HZ.out (by rw [toL]; exact e)
            have hno : ∀ k : Nat, rs.data.toList[k]? ≠ some 10 := fun k hk => by
              have hkl := (List.getElem?_eq_some_iff.1 hk).1
              exact HN.out k (by rw [Lib.size_eq]; exact hkl) hk
            rw [linesL_none _ hne hno] at h
            exact h.bad (fun d e _ _ => hno (lnT d).length (by rw [e]; simp))⟩
          go_wp2
          refine bodyPost_ret (v := .tuple #[.slice ad ds.length cp, .bool false]) ?_ rfl (HNO.out _ hb HB2.out)
          go_light
          simp [results, Tryd.results13, go_sem]
end Go.Proofs.YtlgdfeacnalekaaDoor
