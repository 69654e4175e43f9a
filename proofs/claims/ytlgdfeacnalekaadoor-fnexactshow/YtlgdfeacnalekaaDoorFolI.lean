/-
  impl.follow: along a path, directory by directory.
-/
import Derived.Test.YtlgdfeacnalekaaDoorShowQ
import Derived.Test.YtlgdfeacnalekaaDoorCollect
import Derived.Test.YtlgdfeacnalekaaDoorLaterQ
import Derived.Test.YtlgdfeacnalekaaDoorSpecPath
namespace Go.Proofs.YtlgdfeacnalekaaDoor
open Go.RowKit

/-- Directories that are read. -/
def SDS (w : World) (b : Nat) (xs : List SD) : Prop := ∀ i (h : i < xs.length), w.cell? ⟨b, i * 2, none⟩ = some (.map (some xs[i].mb)) ∧ w.cell? ⟨b, i * 2 + 1, none⟩ = some (.string xs[i].sum)
theorem sdc_get : ∀ (xs : List SD) (i : Nat) (h : i < xs.length), (sdc xs)[i * 2]? = some (.map (some xs[i].mb)) ∧ (sdc xs)[i * 2 + 1]? = some (.string xs[i].sum)
  | [], i, h => by simp at h
  | p :: xs, 0, h => by simp [sdc]
  | p :: xs, i + 1, h => by
    have ih := sdc_get xs i (by simpa using h)
    have e : sdc (p :: xs) = .map (some p.mb) :: .string p.sum :: sdc xs := by simp [sdc]
    rw [e, show (i + 1) * 2 = i * 2 + 1 + 1 by omega]
    simpa using ih
theorem sds_of_row {w : World} {base : Nat} {ad : Option Addr} {cp : Nat} {xs : List SD} (h : w.ownsRow base 59 2 (.slice ad xs.length cp) xs.length (sdc xs)) (h0 : 0 < xs.length) : ∃ b, ad = some ⟨b, 0, none⟩ ∧ SDS w b xs ∧ xs.length ≤ cp := by
  rcases h.2 with ⟨_, h1⟩ | ⟨g, c, cur, hv, _, _, hc, _⟩
  · omega
  · cases hv
    refine ⟨g, rfl, fun i hi => ⟨?_, ?_⟩, hc⟩
    · rw [h.cellAt (i * 2) (by omega)]; exact (sdc_get xs i hi).1
    · rw [h.cellAt (i * 2 + 1) (by omega)]; exact (sdc_get xs i hi).2
theorem SDS.later {w w' : World} {b : Nat} {xs : List SD} (h : SDS w b xs) (hb : Below w.heap.size w w') : SDS w' b xs := fun i hi => ⟨cell_later hb (h i hi).1, cell_later hb (h i hi).2⟩
def plainD (xs : List SD) : List (List DL × ByteArray) := xs.map fun x => (x.ds, x.sum)
/-- A directory in memory that can be asked. -/
def MapOk (x : SD) (W : World) : Prop := ∃ D wd ps last, W.ownsMap Tryd.prog 9 dlR x.mb x.ds.length D ∧ DirD x.ds D ∧ RdR wd last ps x.ds
theorem MapOk.later {x : SD} {W W' : World} (h : MapOk x W) (hb : Below W.heap.size W W') : MapOk x W' := by
  obtain ⟨D, wd, ps, last, h1, h2, h3⟩ := h
  exact ⟨D, wd, ps, last, h1.kept (grown_below hb) (fun e => by cases e), h2, h3⟩
/-- What a look gives. -/
theorem MapOk.look {x : SD} {W : World} (h : MapOk x W) (n : ByteArray) (hn : n.size ≤ 1099511627776) : ∃ m a d, (Instr.lookup 57 (.map (some x.mb)) (.string n) false).run Tryd.prog W = .ok (.agg #[.string m, .string a, .string d]) W ∧ (Instr.lookup 57 (.map (some x.mb)) (.string n) false).run Tryd.prog W.drew = .ok (.agg #[.string m, .string a, .string d]) W.drew ∧
    ((∃ l, lk x.ds n = some l ∧ m = ⟨#[l.kind]⟩ ∧ a = l.name ∧ d = l.dig) ∨ (lk x.ds n = none ∧ m = ⟨#[]⟩ ∧ a = ⟨#[]⟩ ∧ d = ⟨#[]⟩)) := by
  obtain ⟨D, wd, ps, last, h1, h2, h3⟩ := h
  obtain ⟨v, ps', hrun, hv⟩ := h1.lookup dKeyed Tryd.underlying57 (dzero W) (dlR_mk ⟨#[]⟩ ⟨#[]⟩ ⟨#[]⟩) (dkey n hn)
  obtain ⟨v2, ps2, hrun2, hv2⟩ := h1.drew.lookup dKeyed Tryd.underlying57 (dzero W.drew) (dlR_mk ⟨#[]⟩ ⟨#[]⟩ ⟨#[]⟩) (dkey n hn)
  rcases h2.at h3 n with ⟨l, e1, e2⟩ | ⟨e1, e2⟩
  · have e2' : D.atKey (.string n.data.toList) (dlT ⟨#[]⟩ ⟨#[]⟩ ⟨#[]⟩) = dlT ⟨#[l.kind]⟩ l.name l.dig := e2
    rw [e2'] at hv hv2
    rw [dlR_inv hv] at hrun
    rw [dlR_inv hv2] at hrun2
    exact ⟨_, _, _, hrun, hrun2, .inl ⟨l, e1, rfl, rfl, rfl⟩⟩
  · have e2' : D.atKey (.string n.data.toList) (dlT ⟨#[]⟩ ⟨#[]⟩ ⟨#[]⟩) = dlT ⟨#[]⟩ ⟨#[]⟩ ⟨#[]⟩ := e2
    rw [e2'] at hv hv2
    rw [dlR_inv hv] at hrun
    rw [dlR_inv hv2] at hrun2
    exact ⟨_, _, _, hrun, hrun2, .inr ⟨e1, rfl, rfl, rfl⟩⟩
/-- Three cells of a box, written. -/
theorem ret3 {w W : World} {g : Nat} {u0 u1 u2 : Value} (m n d : Value) (h0 : W.cell? ⟨g, 0, none⟩ = some u0) (h1 : W.cell? ⟨g, 1, none⟩ = some u1) (h2 : W.cell? ⟨g, 2, none⟩ = some u2) (hb : Below w.heap.size w W) (hg : w.heap.size ≤ g) :
    (((W.setCell ⟨g, 0, none⟩ m).setCell ⟨g, 1, none⟩ n).setCell ⟨g, 2, none⟩ d).cell? ⟨g, 0, none⟩ = some m ∧ (((W.setCell ⟨g, 0, none⟩ m).setCell ⟨g, 1, none⟩ n).setCell ⟨g, 2, none⟩ d).cell? ⟨g, 1, none⟩ = some n ∧ (((W.setCell ⟨g, 0, none⟩ m).setCell ⟨g, 1, none⟩ n).setCell ⟨g, 2, none⟩ d).cell? ⟨g, 2, none⟩ = some d ∧
    Below w.heap.size w (((W.setCell ⟨g, 0, none⟩ m).setCell ⟨g, 1, none⟩ n).setCell ⟨g, 2, none⟩ d) := by
  have q : ∀ {Y : World} {i j : Nat} {v u : Value}, i ≠ j → Y.cell? ⟨g, j, none⟩ = some u → (Y.setCell ⟨g, i, none⟩ v).cell? ⟨g, j, none⟩ = some u := fun hn hc => (World.cell?_setCell_other _ _ _ _ (fun e => hn (by injection e))).trans hc
  exact ⟨q (by omega) (q (by omega) (World.cell?_setCell_same _ _ _ h0)), q (by omega) (World.cell?_setCell_same _ _ _ (q (by omega) h1)), World.cell?_setCell_same _ _ _ (q (by omega) (q (by omega) h2)), ((hb.setCell (p := ⟨g, 0, none⟩) hg _).setCell (p := ⟨g, 1, none⟩) hg _).setCell (p := ⟨g, 2, none⟩) hg _⟩

theorem row_roomD {W : World} {B z : Nat} {e : TypeId} {ad : Option Addr} {n cp : Nat} {xs : List Value} (h : W.ownsRow B e z (.slice ad n cp) n xs) : n ≤ cp := by
  rcases h.2 with ⟨h0, _⟩ | ⟨_, _, _, h0, _, _, h1, _⟩
  · cases h0; exact Nat.le_refl _
  · cases h0; exact h1
section
variable {xs : List SD} {ps : List ByteArray} {k : Nat} (hx : k < xs.length) (hp : k < ps.length)
theorem drop_X (hx : k < xs.length) : (plainD xs).drop k = (xs[k].ds, xs[k].sum) :: (plainD xs).drop (k + 1) := by
  unfold plainD
  rw [← List.map_drop, ← List.map_drop, List.drop_eq_getElem_cons hx]
  rfl
theorem dropX_nil (h : ¬ k + 1 < xs.length) : (plainD xs).drop (k + 1) = [] := by
  unfold plainD
  rw [← List.map_drop, List.drop_eq_nil_of_le (by omega)]
  rfl
theorem dropX_emp : ((plainD xs).drop (k + 1)).isEmpty = decide (¬ k + 1 < xs.length) := by
  by_cases h : k + 1 < xs.length
  · rw [drop_X h]
    simp [h]
  · rw [dropX_nil h]
    simp [h]
theorem fw_last (hn : ps.length = k + 1) : fw ((plainD xs).drop k) (ps.drop k) = if k + 1 < xs.length then none else some (lk xs[k].ds ps[k]) := by
  have e : ps.drop k = [ps[k]] := by
    rw [List.drop_eq_getElem_cons hp, List.drop_eq_nil_of_le (by omega)]
  rw [drop_X hx, e]
  unfold fw
  rw [dropX_emp]
  by_cases h : k + 1 < xs.length <;> simp [h]
theorem fw_dir (hn : k + 1 < ps.length) {l : DL} (hl : lk xs[k].ds ps[k] = some l) (hk : l.kind = 100) (h1 : k + 1 < xs.length) : fw ((plainD xs).drop k) (ps.drop k) = if hexL xs[k + 1].sum.data.toList == l.dig.data.toList then fw ((plainD xs).drop (k + 1)) (ps.drop (k + 1)) else none := by
  have e : ps.drop k = ps[k] :: ps[k + 1] :: ps.drop (k + 2) := by
    rw [List.drop_eq_getElem_cons hp, List.drop_eq_getElem_cons hn]
  have e1 : ps.drop (k + 1) = ps[k + 1] :: ps.drop (k + 2) := List.drop_eq_getElem_cons hn
  rw [drop_X hx, e, e1, drop_X h1]
  conv => lhs; unfold fw
  simp [hl, hk]
theorem fw_end (hn : k + 1 < ps.length) {l : DL} (hl : lk xs[k].ds ps[k] = some l) (hk : l.kind = 100) (h1 : ¬ k + 1 < xs.length) : fw ((plainD xs).drop k) (ps.drop k) = none := by
  have e : ps.drop k = ps[k] :: ps[k + 1] :: ps.drop (k + 2) := by
    rw [List.drop_eq_getElem_cons hp, List.drop_eq_getElem_cons hn]
  rw [drop_X hx, e, dropX_nil h1]
  unfold fw
  simp [hl, hk]
theorem fw_off (hn : k + 1 < ps.length) (hl : ∀ l, lk xs[k].ds ps[k] = some l → l.kind ≠ 100) : fw ((plainD xs).drop k) (ps.drop k) = if k + 1 < xs.length then none else some none := by
  have e : ps.drop k = ps[k] :: ps[k + 1] :: ps.drop (k + 2) := by
    rw [List.drop_eq_getElem_cons hp, List.drop_eq_getElem_cons hn]
  rw [drop_X hx, e]
  unfold fw
  rw [dropX_emp]
  cases hk : lk xs[k].ds ps[k] with
  | none => by_cases h : k + 1 < xs.length <;> simp [h]
  | some l =>
    have := hl l hk
    by_cases h : k + 1 < xs.length <;> simp [h, this]
end
theorem mark_is (x c : UInt8) : ((⟨#[x]⟩ : ByteArray).toList == [c]) = (x == c) := by
  rw [toL]
  by_cases h : x = c <;> simp [h]
def FolPost (xs : List SD) (ps : List ByteArray) (w : World) (e : Ending) (w' : World) : Prop :=
  Below w.heap.size w w' ∧ ((fw (plainD xs) ps = none ∧ ∃ m n d, e = .returned (.tuple #[.agg #[.string m, .string n, .string d], .bool false])) ∨
    (fw (plainD xs) ps = some none ∧ e = .returned (.tuple #[dlZ, .bool true])) ∨ (∃ l, fw (plainD xs) ps = some (some l) ∧ e = .returned (.tuple #[dlV l, .bool true])))

set_option maxRecDepth 20000 in
set_option maxHeartbeats 4000000 in
theorem follow_any (b cp : Nat) (xs : List SD) (path : ByteArray) (w : World) (hx : SDS w b xs) (hxl : 0 < xs.length) (hx7 : xs.length ≤ 7) (hm : ∀ x ∈ xs, MapOk x w) (hsum : ∀ x ∈ xs, x.sum.size ≤ 1048576) (hpz : path.size ≤ 1000000) :
    Calls Tryd.prog 23 #[.slice (some ⟨b, 0, none⟩) xs.length cp, .string path] w fun e w' => FolPost xs (partsB path) w e w' := by
  go_enter Tryd.func23, Tryd.ntmps23
  go_wp2_with fail
  refine (partsOf_any path _).mono ?_
  rintro e w1 ⟨rfl, rfl⟩
  go_wp2_with fail
  refine (collect_any _ path hpz _ (by simp) (by simp [go_sem])).mono ?_
  rintro e w3 ⟨ap, cq, rfl, op, hb3⟩
  have hbA : Below w.heap.size w ((w.alloc (.cells #[.string ⟨#[]⟩, .string ⟨#[]⟩, .string ⟨#[]⟩] 61)).alloc (.cells #[.string path] 9)) := ((Below.refl _ _).alloc (Nat.le_refl _) _).alloc (by simp) _
  have hb := hbA.trans (hb3.mono hbA.size)
  have r0 : w3.cell? ⟨w.heap.size, 0, none⟩ = some (.string ⟨#[]⟩) := cell_later hb3 (by simp [go_sem])
  have r1 : w3.cell? ⟨w.heap.size, 1, none⟩ = some (.string ⟨#[]⟩) := cell_later hb3 (by simp [go_sem])
  have r2 : w3.cell? ⟨w.heap.size, 2, none⟩ = some (.string ⟨#[]⟩) := cell_later hb3 (by simp [go_sem])
  have rf : ∀ j, w3.frozen? ⟨w.heap.size, j, none⟩ = false := fun j => (hb3.frozen (p := ⟨w.heap.size, j, none⟩) (by simp; omega)).trans (by simp [go_sem])
  have hx3 := hx.later hb
  have hm3 : ∀ x ∈ xs, MapOk x w3 := fun x hx => (hm x hx).later hb
  have hpl : 0 < (partsB path).length := (by rw [partsB_cut]; simp)
  obtain ⟨bp, rfl, hq⟩ : ∃ bp, ap = some ⟨bp, 0, none⟩ ∧ ∀ i (h : i < (partsB path).length), w3.cell? ⟨bp, i, none⟩ = some (.string (partsB path)[i]) := by
    obtain ⟨b', e, _⟩ := own_cell op 0 hpl
    refine ⟨b', e, fun i hi => ?_⟩
    obtain ⟨b2, e2, h⟩ := own_cell op i hi
    rw [e] at e2
    cases e2
    exact h
  have hcq := row_roomD op
  have hps : ∀ q ∈ partsB path, q.size ≤ 1099511627776 := fun q hq => Nat.le_trans (parts_size hq) (by omega)
  have hpn : (partsB path).length ≤ 1000001 := Nat.le_trans (partsB_le path) (by omega)
  clear hb3 hbA op hx hm
  obtain ⟨ps, hpe⟩ : ∃ x, partsB path = x := ⟨_, rfl⟩
  rw [hpe] at hpl hq hcq hps hpn ⊢
  have HPE : Keep (partsB path = ps) := ⟨hpe⟩
  clear hpe
  obtain ⟨n, hn⟩ : ∃ n, ps.length = n + 1 := ⟨ps.length - 1, by omega⟩
  rw [hn] at hcq ⊢
  obtain ⟨rb, hrb⟩ : ∃ rb, rb = w.heap.size := ⟨_, rfl⟩
  rw [← hrb] at r0 r1 r2 rf ⊢
  have HRB : Keep (rb = w.heap.size) := ⟨hrb⟩
  clear hrb
  have hw1 : IntKind.i64.wrap ((n : Int) + 1 - 1) = n := by rw [IntKind.wrap_i64]; omega
  have c1 : (n : Int) ≤ cq := by omega
  have c2 : (0 : Int) ≤ (n : Int) := by omega
  go_wp2
  go_loopw [22] (fun i wr => ∃ (k : Nat), k ≤ n ∧ k < xs.length ∧ i = .int .i64 k ∧ Keep (fw (plainD xs) ps = fw ((plainD xs).drop k) (ps.drop k)) ∧ Below w3.heap.size w3 wr) (fun i _ => n - (intOf i).toNat)
  case atStart => exact ⟨0, Nat.zero_le _, hxl, rfl, ⟨by simp⟩, Below.refl _ _⟩
  case round =>
    obtain ⟨k, hk, hkx, rfl, HF, hbr⟩ := hrel
    have R0 := cell_later hbr r0
    have R1 := cell_later hbr r1
    have R2 := cell_later hbr r2
    have RF : ∀ j, wr.frozen? ⟨rb, j, none⟩ = false := fun j => (hbr.frozen (p := ⟨rb, j, none⟩) (lt_of_cell r0)).trans (rf j)
    obtain ⟨X0, X1⟩ := (hx3.later hbr) k hkx
    have hkp : k < ps.length := by omega
    have Q0 := cell_later hbr (hq k hkp)
    obtain ⟨m, a, d, hrun, hru, hlk⟩ := ((hm3 _ (List.getElem_mem hkx)).later hbr).look ps[k] (hps _ (List.getElem_mem hkp))
    have HLK : Keep _ := ⟨hlk⟩
    clear hlk
    have HN : Keep (k + 1 < ps.length ∨ k = n) := ⟨by omega⟩
    have hbw := hb.trans (hbr.mono hb.size)
    by_cases hlt : k < n
    · have hbx := hbw.alloc (o := .cells #[.string m, .string a, .string d] 61) hbw.size
      have S0 : (wr.alloc (.cells #[.string m, .string a, .string d] 61)).cell? ⟨rb, 0, none⟩ = some (.string ⟨#[]⟩) := cell_later (belowS_one _ _) R0
      have S1 : (wr.alloc (.cells #[.string m, .string a, .string d] 61)).cell? ⟨rb, 1, none⟩ = some (.string ⟨#[]⟩) := cell_later (belowS_one _ _) R1
      have S2 : (wr.alloc (.cells #[.string m, .string a, .string d] 61)).cell? ⟨rb, 2, none⟩ = some (.string ⟨#[]⟩) := cell_later (belowS_one _ _) R2
      have SF : ∀ j, (wr.alloc (.cells #[.string m, .string a, .string d] 61)).frozen? ⟨rb, j, none⟩ = false := fun j => ((belowS_one wr _).frozen (p := ⟨rb, j, none⟩) (lt_of_cell R0)).trans (RF j)
      by_cases hfx : k + 1 < xs.length
      · have hfd : decide ((k : Int) + 1 < xs.length) = true := by simp; omega
        cases hmd : (m.toList == [100]) with
        | false =>
          obtain ⟨k0, k1, k2, kb⟩ := ret3 (.string ⟨#[]⟩) (.string ⟨#[]⟩) (.string ⟨#[]⟩) S0 S1 S2 hbx (Nat.le_of_eq HRB.out.symm)
          have HO : Keep (fw (plainD xs) (partsB path) = if k + 1 < xs.length then none else some none) := ⟨by
            rw [HPE.out, HF.out, fw_off hkx hkp (by omega) (fun l hl hk => by
              rcases HLK.out with ⟨l', h1, rfl, _⟩ | ⟨h1, _⟩
              · rw [hl] at h1
                cases h1
                rw [mark_is, hk] at hmd
                cases hmd
              · rw [hl] at h1; cases h1)]⟩
          have HP : Keep (FolPost xs (partsB path) w (.returned (.tuple #[.agg #[.string ⟨#[]⟩, .string ⟨#[]⟩, .string ⟨#[]⟩], .bool false])) ((((wr.alloc (.cells #[.string m, .string a, .string d] 61)).setCell ⟨rb, 0, none⟩ (.string ⟨#[]⟩)).setCell ⟨rb, 1, none⟩ (.string ⟨#[]⟩)).setCell ⟨rb, 2, none⟩ (.string ⟨#[]⟩))) := ⟨kb, .inl ⟨by rw [HO.out, if_pos hfx], _, _, _, rfl⟩⟩
          clear kb
          go_wp2
          refine bodyPost_ret (v := .tuple #[.agg #[.string ⟨#[]⟩, .string ⟨#[]⟩, .string ⟨#[]⟩], .bool false]) ?_ rfl HP.out
          go_light
          simp [results, Tryd.results23, go_sem, k0, k1, k2]
        | true =>
          obtain ⟨l, hl1, hl2, hl3⟩ : ∃ l, lk xs[k].ds ps[k] = some l ∧ l.kind = 100 ∧ Keep (d = l.dig) := by
            rcases HLK.out with ⟨l', h1, rfl, _, h3⟩ | ⟨h1, rfl, _⟩
            · rw [mark_is] at hmd
              exact ⟨l', h1, by simpa using hmd, ⟨h3⟩⟩
            · rw [toL] at hmd; cases hmd
          obtain ⟨Y0, Y1⟩ := (hx3.later hbr) (k + 1) hfx
          have Y1' := cell_later (belowS_one wr (.cells #[.string m, .string a, .string d] 61)) Y1
          have d2 : (wr.alloc (.cells #[.string m, .string a, .string d] 61)).cell? ⟨wr.heap.size, 2, none⟩ = some (.string d) := by simp [go_sem]
          have hsz : xs[k + 1].sum.size ≤ 1048576 := hsum _ (List.getElem_mem hfx)
          clear Y0 Y1
          have hfi : (k : Int) + 1 < xs.length := by omega
          have hw2 : IntKind.i64.wrap ((k : Int) + 1) = (k : Int) + 1 := by rw [IntKind.wrap_i64]; omega
          have c5 : (0 : Int) ≤ (k : Int) + 1 := by omega
          obtain ⟨H, hH⟩ : ∃ H, H = lnB (hexL xs[k + 1].sum.data.toList) := ⟨_, rfl⟩
          have HH : Keep (H = lnB (hexL xs[k + 1].sum.data.toList)) := ⟨hH⟩
          have HE : Keep ((H.toList == d.toList) = (hexL xs[k + 1].sum.data.toList == l.dig.data.toList)) := ⟨by rw [hH, toL, lnB_list, hl3.out, toL]⟩
          clear hH
          cases hhx : (H.toList == d.toList) with
          | true =>
            have HG : Keep (fw (plainD xs) ps = fw ((plainD xs).drop (k + 1)) (ps.drop (k + 1))) := ⟨by rw [HF.out, fw_dir hkx hkp (by omega) hl1 hl2 hfx, ← HE.out, hhx, if_pos rfl]⟩
            have hbx3 := hbr.alloc (o := .cells #[.string m, .string a, .string d] 61) hbr.size
            go_upto_region 10 with fail
            generalize (wr.alloc (.cells #[.string m, .string a, .string d] 61)) = X at *
            generalize wr.heap.size = xb at *
            have HC : Keep (∀ x : Later X, Calls Tryd.prog 37 #[.string xs[k + 1].sum] x.world fun e w'' => e = .returned (.string H) ∧ ∃ y : Later X, w'' = y.world) := ⟨fun x => x.call (by rw [HH.out]; exact digitsOf_any _ _ hsz)⟩
            have D2 : ∀ x : Later X, x.world.cell? ⟨xb, 2, none⟩ = some (.string d) := fun x => cell_later x.kept d2
            have Y2 : ∀ x : Later X, x.world.cell? ⟨b, (k + 1) * 2 + 1, none⟩ = some (.string xs[k + 1].sum) := fun x => cell_later x.kept Y1'
            (haveI := later_any; refine wp_region_later (by kernel_rfl) (by kernel_rfl) ?_; (repeat (go_big_quiet_step (first | (go_at_call 37; exact HC.out _)))); refine wpQuiet_nil ?_; intro _ hwq; obtain ⟨xq, hwq2⟩ := hwq; subst hwq2)
            have hbq3 := hbx3.trans (xq.kept.mono hbx3.size)
            go_wp2
            go_roundw
            case rel => exact ⟨k + 1, by omega, hfx, by go_num, HG, hbq3⟩
            case measure => simp [intOf]; omega
          | false =>
            have HO : Keep (fw (plainD xs) (partsB path) = none) := ⟨by rw [HPE.out, HF.out, fw_dir hkx hkp (by omega) hl1 hl2 hfx, ← HE.out, hhx]; rfl⟩
            go_upto_region 10 with fail
            generalize (wr.alloc (.cells #[.string m, .string a, .string d] 61)) = X at *
            generalize wr.heap.size = xb at *
            have HC : Keep (∀ x : Later X, Calls Tryd.prog 37 #[.string xs[k + 1].sum] x.world fun e w'' => e = .returned (.string H) ∧ ∃ y : Later X, w'' = y.world) := ⟨fun x => x.call (by rw [HH.out]; exact digitsOf_any _ _ hsz)⟩
            have D2 : ∀ x : Later X, x.world.cell? ⟨xb, 2, none⟩ = some (.string d) := fun x => cell_later x.kept d2
            have Y2 : ∀ x : Later X, x.world.cell? ⟨b, (k + 1) * 2 + 1, none⟩ = some (.string xs[k + 1].sum) := fun x => cell_later x.kept Y1'
            (haveI := later_any; refine wp_region_later (by kernel_rfl) (by kernel_rfl) ?_; (repeat (go_big_quiet_step (first | (go_at_call 37; exact HC.out _)))); refine wpQuiet_nil ?_; intro _ hwq; obtain ⟨xq, hwq2⟩ := hwq; subst hwq2)
            have hbq := hbx.trans (xq.kept.mono hbx.size)
            obtain ⟨k0, k1, k2, kb⟩ := ret3 (.string ⟨#[]⟩) (.string ⟨#[]⟩) (.string ⟨#[]⟩) (cell_later xq.kept S0) (cell_later xq.kept S1) (cell_later xq.kept S2) hbq (Nat.le_of_eq HRB.out.symm)
            have T0 := cell_later xq.kept S0
            have T1 := cell_later xq.kept S1
            have T2 := cell_later xq.kept S2
            have TF : ∀ j, xq.world.frozen? ⟨rb, j, none⟩ = false := fun j => (xq.kept.frozen (p := ⟨rb, j, none⟩) (lt_of_cell S0)).trans (SF j)
            have HP : Keep (FolPost xs (partsB path) w (.returned (.tuple #[.agg #[.string ⟨#[]⟩, .string ⟨#[]⟩, .string ⟨#[]⟩], .bool false])) (((xq.world.setCell ⟨rb, 0, none⟩ (.string ⟨#[]⟩)).setCell ⟨rb, 1, none⟩ (.string ⟨#[]⟩)).setCell ⟨rb, 2, none⟩ (.string ⟨#[]⟩))) := ⟨kb, .inl ⟨HO.out, _, _, _, rfl⟩⟩
            clear kb
            go_wp2
            refine bodyPost_ret (v := .tuple #[.agg #[.string ⟨#[]⟩, .string ⟨#[]⟩, .string ⟨#[]⟩], .bool false]) ?_ rfl HP.out
            go_light
            simp [results, Tryd.results23, go_sem, k0, k1, k2]
      · have hfd : decide ((k : Int) + 1 < xs.length) = false := by simp; omega
        cases hmd : (m.toList == [100]) with
        | false =>
          obtain ⟨k0, k1, k2, kb⟩ := ret3 (.string ⟨#[]⟩) (.string ⟨#[]⟩) (.string ⟨#[]⟩) S0 S1 S2 hbx (Nat.le_of_eq HRB.out.symm)
          have HO : Keep (fw (plainD xs) (partsB path) = if k + 1 < xs.length then none else some none) := ⟨by
            rw [HPE.out, HF.out, fw_off hkx hkp (by omega) (fun l hl hk => by
              rcases HLK.out with ⟨l', h1, rfl, _⟩ | ⟨h1, _⟩
              · rw [hl] at h1
                cases h1
                rw [mark_is, hk] at hmd
                cases hmd
              · rw [hl] at h1; cases h1)]⟩
          have HP : Keep (FolPost xs (partsB path) w (.returned (.tuple #[.agg #[.string ⟨#[]⟩, .string ⟨#[]⟩, .string ⟨#[]⟩], .bool true])) ((((wr.alloc (.cells #[.string m, .string a, .string d] 61)).setCell ⟨rb, 0, none⟩ (.string ⟨#[]⟩)).setCell ⟨rb, 1, none⟩ (.string ⟨#[]⟩)).setCell ⟨rb, 2, none⟩ (.string ⟨#[]⟩))) := ⟨kb, .inr (.inl ⟨by rw [HO.out, if_neg hfx], rfl⟩)⟩
          clear kb
          go_wp2
          refine bodyPost_ret (v := .tuple #[.agg #[.string ⟨#[]⟩, .string ⟨#[]⟩, .string ⟨#[]⟩], .bool true]) ?_ rfl HP.out
          go_light
          simp [results, Tryd.results23, go_sem, k0, k1, k2]
        | true =>
          obtain ⟨l, hl1, hl2, hl3⟩ : ∃ l, lk xs[k].ds ps[k] = some l ∧ l.kind = 100 ∧ Keep (d = l.dig) := by
            rcases HLK.out with ⟨l', h1, rfl, _, h3⟩ | ⟨h1, rfl, _⟩
            · rw [mark_is] at hmd
              exact ⟨l', h1, by simpa using hmd, ⟨h3⟩⟩
            · rw [toL] at hmd; cases hmd
          have HO : Keep (fw (plainD xs) (partsB path) = none) := ⟨by rw [HPE.out, HF.out, fw_end hkx hkp (by omega) hl1 hl2 hfx]⟩
          go_upto_region 10 with fail
          generalize (wr.alloc (.cells #[.string m, .string a, .string d] 61)) = X at *
          generalize wr.heap.size = xb at *
          (haveI := later_any; refine wp_region_later (by kernel_rfl) (by kernel_rfl) ?_; (repeat (go_big_quiet_step (first | (go_at_call 37; exact HC.out _)))); refine wpQuiet_nil ?_; intro _ hwq; obtain ⟨xq, hwq2⟩ := hwq; subst hwq2)
          have hbq := hbx.trans (xq.kept.mono hbx.size)
          obtain ⟨k0, k1, k2, kb⟩ := ret3 (.string ⟨#[]⟩) (.string ⟨#[]⟩) (.string ⟨#[]⟩) (cell_later xq.kept S0) (cell_later xq.kept S1) (cell_later xq.kept S2) hbq (Nat.le_of_eq HRB.out.symm)
          have T0 := cell_later xq.kept S0
          have T1 := cell_later xq.kept S1
          have T2 := cell_later xq.kept S2
          have TF : ∀ j, xq.world.frozen? ⟨rb, j, none⟩ = false := fun j => (xq.kept.frozen (p := ⟨rb, j, none⟩) (lt_of_cell S0)).trans (SF j)
          have HP : Keep (FolPost xs (partsB path) w (.returned (.tuple #[.agg #[.string ⟨#[]⟩, .string ⟨#[]⟩, .string ⟨#[]⟩], .bool false])) (((xq.world.setCell ⟨rb, 0, none⟩ (.string ⟨#[]⟩)).setCell ⟨rb, 1, none⟩ (.string ⟨#[]⟩)).setCell ⟨rb, 2, none⟩ (.string ⟨#[]⟩))) := ⟨kb, .inl ⟨HO.out, _, _, _, rfl⟩⟩
          clear kb
          go_wp2
          refine bodyPost_ret (v := .tuple #[.agg #[.string ⟨#[]⟩, .string ⟨#[]⟩, .string ⟨#[]⟩], .bool false]) ?_ rfl HP.out
          go_light
          simp [results, Tryd.results23, go_sem, k0, k1, k2]
    · obtain rfl : k = n := by omega
      have HL : Keep (fw (plainD xs) (partsB path) = if k + 1 < xs.length then none else some (lk xs[k].ds ps[k])) := ⟨by rw [HPE.out, HF.out, fw_last hkx hkp hn]⟩
      obtain ⟨k0, k1, k2, kb⟩ := ret3 (.string m) (.string a) (.string d) R0 R1 R2 hbw (Nat.le_of_eq HRB.out.symm)
      by_cases hfx : k + 1 < xs.length
      · have hfe : ((xs.length : Int) == (k : Int) + 1) = false := by simp; omega
        have hfe2 : ¬ (xs.length : Int) = (k : Int) + 1 := by omega
        have HP : Keep (FolPost xs (partsB path) w (.returned (.tuple #[.agg #[.string m, .string a, .string d], .bool false])) (((wr.setCell ⟨rb, 0, none⟩ (.string m)).setCell ⟨rb, 1, none⟩ (.string a)).setCell ⟨rb, 2, none⟩ (.string d)).drew) := ⟨kb.drew, .inl ⟨by rw [HL.out, if_pos hfx], _, _, _, rfl⟩⟩
        clear kb
        go_upto_region 13 with fail
        go_region
        go_wp2
        refine bodyPost_ret (v := .tuple #[.agg #[.string m, .string a, .string d], .bool false]) ?_ rfl HP.out
        go_light
        simp [results, Tryd.results23, go_sem, k0, k1, k2]
      · have hfe : ((xs.length : Int) == (k : Int) + 1) = true := by simp; omega
        have hfe2 : (xs.length : Int) = (k : Int) + 1 := by omega
        have HM : Keep ((fw (plainD xs) (partsB path) = some none ∧ m = ⟨#[]⟩ ∧ a = ⟨#[]⟩ ∧ d = ⟨#[]⟩) ∨ ∃ l, fw (plainD xs) (partsB path) = some (some l) ∧ m = ⟨#[l.kind]⟩ ∧ a = l.name ∧ d = l.dig) := ⟨by
          rw [HL.out, if_neg hfx]
          rcases HLK.out with ⟨l, h1, h2, h3, h4⟩ | ⟨h1, h2, h3, h4⟩
          · exact .inr ⟨l, by rw [h1], h2, h3, h4⟩
          · exact .inl ⟨by rw [h1], h2, h3, h4⟩⟩
        clear hfe2
        have HP : Keep (FolPost xs (partsB path) w (.returned (.tuple #[.agg #[.string m, .string a, .string d], .bool true])) (((wr.setCell ⟨rb, 0, none⟩ (.string m)).setCell ⟨rb, 1, none⟩ (.string a)).setCell ⟨rb, 2, none⟩ (.string d)).drew) := ⟨kb.drew, .inr (by rcases HM.out with ⟨h1, rfl, rfl, rfl⟩ | ⟨l, h1, rfl, rfl, rfl⟩; exact .inl ⟨h1, rfl⟩; exact .inr ⟨l, h1, rfl⟩)⟩
        clear kb
        go_upto_region 13 with fail
        go_region
        go_wp2
        refine bodyPost_ret (v := .tuple #[.agg #[.string m, .string a, .string d], .bool true]) ?_ rfl HP.out
        go_light
        simp [results, Tryd.results23, go_sem, k0, k1, k2]
end Go.Proofs.YtlgdfeacnalekaaDoor
