/-
  SpecTree, ApS, AppI, OrderP: laid as one text.
-/
import Derived.Test.YtjlflmbifeocbaaTreeP
import Derived.Test.YtjlflmbifeocbaaZbd
import Derived.Test.YtjlflmbifeocbaaLaterQ
import Derived.Deep.QuietTactic
import Derived.BigQuiet
import Derived.Deep.DeepCutAuto
import Derived.Deep.RegionWith
import Derived.Test.YtjlflmbifeocbaaZbc
import Derived.Deep.CutRange
import Derived.Test.YtjlflmbifeocbaaRowR
import Derived.Sort.CutIn
import Derived.Test.YtjlflmbifeocbaaTreeU
namespace Go.Proofs.Ytjlflmbifeocbaa
open Go.RowKit

theorem begins_spelled {d p : ByteArray} : Begins d p ↔ ∃ h : d.size < p.size, (p.extract 0 d.size).toList = d.toList ∧ p[d.size] = 47 := by
  have hsz : ∀ x : ByteArray, x.data.toList.length = x.size := fun x => rfl
  simp only [Lib.toList_data]
  have hex : (p.extract 0 d.size).data.toList = p.data.toList.take d.size := by
    simp [ByteArray.data_extract]
  rw [hex]
  constructor
  · rintro ⟨r, hr⟩
    have hl := congrArg List.length hr
    rw [hsz, List.length_append, hsz, List.length_cons] at hl
    refine ⟨by omega, by rw [hr, List.take_left' (hsz d)], ?_⟩
    have : p[d.size]'(by omega) = p.data.toList[d.size]'(by rw [hsz]; omega) := by simp [ByteArray.getElem_eq_getElem_data]
    rw [this]
    have h2 : p.data.toList[d.size]? = some 47 := by rw [hr, List.getElem?_append_right (by rw [hsz]; omega), hsz]; simp
    exact List.getElem_eq_iff _ |>.2 h2
  · rintro ⟨h, h1, h2⟩
    refine ⟨p.data.toList.drop (d.size + 1), ?_⟩
    have hlt : d.size < p.data.toList.length := by rw [hsz]; exact h
    conv => lhs; rw [← List.take_append_drop d.size p.data.toList, List.drop_eq_getElem_cons hlt, h1]
    have : p.data.toList[d.size] = p[d.size] := by simp [ByteArray.getElem_eq_getElem_data]
    rw [this, h2]

def BgPost (d p : ByteArray) (w : World) (e : Ending) (w' : World) : Prop := ∃ bl : Bool, e = .returned (.bool bl) ∧ (bl = true ↔ Begins d p) ∧ w = w'

set_option maxRecDepth 100000 in
set_option maxHeartbeats 1000000 in
theorem begins_any (d p : ByteArray) (w : World) :
    Calls Try.prog 37 #[.string d, .string p] w fun e w' => BgPost d p w e w' := by
  by_cases h1 : d.size < p.size
  · have hd1 : decide (d.size < p.size) = true := by simp [h1]
    have h1' : (d.size : Int) < p.size := by omega
    cases h2 : ((p.extract 0 d.size).toList == d.toList) with
    | true =>
      cases h3 : ((p[d.size].toNat : Int) == 47) with
      | true =>
        go_enter Try.func37, Try.ntmps37
        go_wp2
        go_ret
        exact ⟨true, rfl, ⟨fun _ => begins_spelled.2 ⟨h1, by simpa using h2, UInt8.toNat_inj.1 (by have h3' := eq_of_beq h3; show p[d.size].toNat = 47; omega)⟩, fun _ => rfl⟩, rfl⟩
      | false =>
        go_enter Try.func37, Try.ntmps37
        go_wp2
        go_ret
        exact ⟨false, rfl, ⟨fun h => (by cases h), fun h => by
          obtain ⟨_, _, h5⟩ := begins_spelled.1 h
          rw [h5] at h3; simp at h3⟩, rfl⟩
    | false =>
      go_enter Try.func37, Try.ntmps37
      go_wp2
      go_ret
      exact ⟨false, rfl, ⟨fun h => (by cases h), fun h => by
        obtain ⟨_, h4, _⟩ := begins_spelled.1 h
        rw [h4] at h2; simp at h2⟩, rfl⟩
  · have hd1 : decide (d.size < p.size) = false := by simp [h1]
    have h1' : ¬ (d.size : Int) < p.size := by omega
    go_enter Try.func37, Try.ntmps37
    go_wp2
    go_ret
    exact ⟨false, rfl, ⟨fun h => (by cases h), fun h => absurd (begins_spelled.1 h).1 h1⟩, rfl⟩

theorem begins_lit {d p : ByteArray} (bl : Bool) (h : bl = true ↔ Begins d p) (w : World) :
    Calls Try.prog 37 #[.string d, .string p] w fun e w' => e = .returned (.bool bl) ∧ Below w.heap.size w w' := by
  refine (begins_any d p w).mono ?_
  rintro e w' ⟨b2, rfl, h2, rfl⟩
  have : b2 = bl := by
    have := h2.trans h.symm
    cases b2 <;> cases bl <;> simp at this ⊢
  exact ⟨by rw [this], Below.refl _ _⟩
theorem kept_below {w w1 w2 : World} (h : Below w.heap.size w w1) (h2 : Below w1.heap.size w1 w2) : Below w.heap.size w w2 := h.trans (h2.mono h.size)

def TvPost (ts : List En) (w : World) (e : Ending) (w' : World) : Prop := ∃ bl : Bool, e = .returned (.bool bl) ∧ (bl = true ↔ ValidTs ts) ∧ Below w.heap.size w w'
theorem TvPost.no {ts : List En} {w w' : World} (h : ¬ ValidTs ts) (hb : Below w.heap.size w w') : TvPost ts w (.returned (.bool false)) w' :=
  ⟨false, rfl, ⟨fun e => (by cases e), fun e => absurd e h⟩, hb⟩
theorem TvPost.yes {ts : List En} {w w' : World} (h : ValidTs ts) (hb : Below w.heap.size w w') : TvPost ts w (.returned (.bool true)) w' :=
  ⟨true, rfl, ⟨fun _ => h, fun _ => rfl⟩, hb⟩

set_option maxRecDepth 100000 in
set_option maxHeartbeats 4000000 in
theorem specTree_any (a : Option Addr) (cap : Nat) (ts : List En) (w : World) (hts : ES w a ts) (hn : ts.length ≤ 1048576) :
    Calls Try.prog 9 #[.agg #[.slice a ts.length cap]] w fun e w' => TvPost ts w e w' := by
  have hbT : Below w.heap.size w (w.alloc (.cells #[.slice a ts.length cap] 25)) := (Below.refl _ _).alloc (Nat.le_refl _) _
  by_cases h100 : (100 : Int) < ts.length
  · go_enter Try.func9, Try.ntmps9
    go_wp2
    go_ret
    exact TvPost.no (fun h => by have := h.1; omega) hbT
  have htT := hts.below hbT
  have hcT : (w.alloc (.cells #[.slice a ts.length cap] 25)).cell? ⟨w.heap.size, 0, none⟩ = some (.slice a ts.length cap) := by simp
  go_enter Try.func9, Try.ntmps9
  go_wp2
  generalize hwT : w.alloc (.cells #[.slice a ts.length cap] 25) = wT at *
  clear hwT
  go_loopw [3] (fun i wr => ∃ (k : Nat), i = .int .i64 k ∧ k ≤ ts.length ∧ Keep (∀ i, i < k → OkAt ts i) ∧ Below wT.heap.size wT wr) (fun i _ => ts.length - (intOf i).toNat)
  case atStart => exact ⟨0, rfl, Nat.zero_le _, ⟨fun i hi => by omega⟩, Below.refl _ _⟩
  case round =>
    obtain ⟨k, rfl, hk, hok, hB⟩ := hrel
    have hE := htT.below hB
    have hcT' := cell_later hB hcT
    have hBw := kept_below hbT hB
    by_cases hlt : k < ts.length
    · have hlt' : (k : Int) < ts.length := by omega
      obtain ⟨b, off, rfl, hc⟩ := hE.at hlt
      obtain ⟨x0, x1, x2⟩ := hc k hlt
      have hals : Below wr.heap.size wr (wr.alloc (.cells #[.string ts[k].path, .string ts[k].text, .bool ts[k].runs] 57)) := (Below.refl _ _).alloc (Nat.le_refl _) _
      have hcT2 := cell_later hals hcT'
      have hBw2 := kept_below hBw hals
      have hB2 := kept_below hB hals
      have hcs : ∀ j (hj : j < ts.length), (wr.alloc (.cells #[.string ts[k].path, .string ts[k].text, .bool ts[k].runs] 57)).cell? ⟨b, off + j * 3, none⟩ = some (.string ts[j].path) := fun j hj => cell_later hals (hc j hj).1
      have y0 : (wr.alloc (.cells #[.string ts[k].path, .string ts[k].text, .bool ts[k].runs] 57)).cell? ⟨wr.heap.size, 0, none⟩ = some (.string ts[k].path) := by simp
      have y1 : (wr.alloc (.cells #[.string ts[k].path, .string ts[k].text, .bool ts[k].runs] 57)).cell? ⟨wr.heap.size, 1, none⟩ = some (.string ts[k].text) := by simp
      have hbad : ¬ OkAt ts k → ¬ ValidTs ts := fun h1 h2 => h1 (h2.2 k hlt)
      clear hc hE htT hts
      go_upto_region 7 with fail
      go_cut [47] (fun v wx => ∃ bl : Bool, v = .bool bl ∧ (bl = false ↔ enOk ts[k] = true ∧ ∀ j, j + 1 = k → ∀ hj : j < ts.length, Op.bytesLess ts[j].path.toList ts[k].path.toList = true) ∧ Below (wr.alloc (.cells #[.string ts[k].path, .string ts[k].text, .bool ts[k].runs] 57)).heap.size (wr.alloc (.cells #[.string ts[k].path, .string ts[k].text, .bool ts[k].runs] 57)) wx)
      case first =>
        generalize hw2 : (wr.alloc (.cells #[.string ts[k].path, .string ts[k].text, .bool ts[k].runs] 57)) = w2 at *
        clear hw2
        have hT : ∀ x : Later w2, x.world.cell? ⟨w.heap.size, 0, none⟩ = some (.slice (some ⟨b, off, none⟩) ts.length cap) := fun x => cell_later x.kept hcT2
        have z0 : ∀ x : Later w2, x.world.cell? ⟨wr.heap.size, 0, none⟩ = some (.string ts[k].path) := fun x => cell_later x.kept y0
        have z1 : ∀ x : Later w2, x.world.cell? ⟨wr.heap.size, 1, none⟩ = some (.string ts[k].text) := fun x => cell_later x.kept y1
        have hcall : ∀ x : Later w2, Calls Try.prog 36 #[.string ts[k].path] x.world fun e w'' => e = .returned (.bool (pathOk pathB ts[k].path)) ∧ ∃ y : Later w2, w'' = y.world := fun x => Later.call x (specPath_any _ _)
        cases hp : pathOk pathB ts[k].path with
        | false =>
          rw [hp] at hcall
          have HC := Keep.mk hcall
          clear hcall
          (haveI := later_any; refine wp_region_later (by kernel_rfl) (by kernel_rfl) ?_; (repeat (go_big_quiet_step (exact HC.out _))); refine wpQuiet_nil ?_; intro _ hwq; obtain ⟨xq, hwq2⟩ := hwq; subst hwq2)
          go_wp2_with fail
          go_meet
          case rel => exact ⟨true, rfl, ⟨fun h => (by cases h), fun h => by simp [enOk, hp] at h⟩, xq.kept⟩
        | true =>
          rw [hp] at hcall
          have HC := Keep.mk hcall
          clear hcall
          by_cases ht : (1500 : Int) < ts[k].text.size
          · (haveI := later_any; refine wp_region_later (by kernel_rfl) (by kernel_rfl) ?_; (repeat (go_big_quiet_step (exact HC.out _))); refine wpQuiet_nil ?_; intro _ hwq; obtain ⟨xq, hwq2⟩ := hwq; subst hwq2)
            go_wp2_with fail
            go_meet
            case rel => exact ⟨true, rfl, ⟨fun h => (by cases h), fun h => by have := h.1; simp [enOk] at this; omega⟩, xq.kept⟩
          have htd : decide (1500 < ts[k].text.size) = false := by simp; omega
          have HE : Keep (enOk ts[k] = true) := ⟨by simp [enOk, hp]; omega⟩
          by_cases hk0 : k = 0
          · have hkd : decide (0 < k) = false := by simp [hk0]
            have HK : Keep (k = 0) := ⟨hk0⟩
            clear hk0
            (haveI := later_any; refine wp_region_later (by kernel_rfl) (by kernel_rfl) ?_; (repeat (go_big_quiet_step (exact HC.out _))); refine wpQuiet_nil ?_; intro _ hwq; obtain ⟨xq, hwq2⟩ := hwq; subst hwq2)
            go_wp2_with fail
            go_meet
            case rel => exact ⟨false, rfl, ⟨fun _ => ⟨HE.out, fun j hj => by have := HK.out; omega⟩, fun _ => rfl⟩, xq.kept⟩
          · obtain ⟨j, rfl⟩ : ∃ j, k = j + 1 := ⟨k - 1, by omega⟩
            have hpv : ∀ x : Later w2, x.world.cell? ⟨b, off + j * 3, none⟩ = some (.string ts[j].path) := fun x => cell_later x.kept (hcs j (by omega))
            have hk0' : (0 : Int) < ((j + 1 : Nat) : Int) := by omega
            have hkd : decide (0 < j + 1) = true := by simp
            (haveI := later_any; refine wp_region_later (by kernel_rfl) (by kernel_rfl) ?_; (repeat (go_big_quiet_step (exact HC.out _))); refine wpQuiet_nil ?_; intro _ hwq; obtain ⟨xq, hwq2⟩ := hwq; subst hwq2)
            go_wp2_with fail
            go_meet
            case rel =>
              refine ⟨_, rfl, ?_, xq.kept⟩
              constructor
              · intro h
                refine ⟨HE.out, fun i hi hj => ?_⟩
                obtain rfl : i = j := by omega
                simpa using h
              · intro h
                have := h.2 j rfl (by omega)
                simp [this]
      case rest =>
        obtain ⟨bl, rfl, hbl, hbc⟩ := hcut
        have HB : Keep (bl = false ↔ enOk ts[k] = true ∧ ∀ j, j + 1 = k → ∀ hj : j < ts.length, Op.bytesLess ts[j].path.toList ts[k].path.toList = true) := ⟨hbl⟩
        have c0 := cell_later hbc y0
        have cT := cell_later hbc hcT2
        have cs : ∀ j (hj : j < ts.length), wc.cell? ⟨b, off + j * 3, none⟩ = some (.string ts[j].path) := fun j hj => cell_later hbc (hcs j hj)
        have hBw3 := kept_below hBw2 hbc
        have hB3 := kept_below hB2 hbc
        clear hbl hcs hbc y0 y1 hcT2 hBw2 hB2 hals x0 x1 x2 hcT' hBw hB
        generalize wr.heap.size = be at *
        cases bl with
        | true =>
          go_wp2
          go_ret
          refine TvPost.no (hbad fun ⟨_, h1, h2, _⟩ => ?_) hBw3
          have := HB.out.2 ⟨h1, h2⟩
          cases this
        | false =>
          have HP : Keep (enOk ts[k] = true ∧ ∀ j, j + 1 = k → ∀ hj : j < ts.length, Op.bytesLess ts[j].path.toList ts[k].path.toList = true) := ⟨HB.out.1 rfl⟩
          clear HB
          go_wp2
          go_loopw [5] (fun v wx => ∃ j : Nat, v = .int .i64 j ∧ j ≤ k ∧ Keep (∀ e' ∈ ts.take j, ¬ Begins e'.path ts[k].path) ∧ Below wc.heap.size wc wx) (fun v _ => k - (intOf v).toNat)
          case atStart => exact ⟨0, rfl, Nat.zero_le _, ⟨fun e' he => by simp at he⟩, Below.refl _ _⟩
          case round =>
            obtain ⟨j, rfl, hjk, hno, hbx⟩ := hrel
            have hBw4 := kept_below hBw3 hbx
            have hB4 := kept_below hB3 hbx
            by_cases hj : j < k
            · have hj' : (j : Int) < k := by omega
              have hjl : j < ts.length := by omega
              have hjl' : (j : Int) < ts.length := by omega
              have cj : ∀ x : Later wr, x.world.cell? ⟨b, off + j * 3, none⟩ = some (.string ts[j].path) := fun x => cell_later x.kept (cell_later hbx (cs j hjl))
              have z0 : ∀ x : Later wr, x.world.cell? ⟨be, 0, none⟩ = some (.string ts[k].path) := fun x => cell_later x.kept (cell_later hbx c0)
              have zT : ∀ x : Later wr, x.world.cell? ⟨w.heap.size, 0, none⟩ = some (.slice (some ⟨b, off, none⟩) ts.length cap) := fun x => cell_later x.kept (cell_later hbx cT)
              clear cs c0 cT
              by_cases hbg : Begins ts[j].path ts[k].path
              · have HC : Keep (∀ x : Later wr, Calls Try.prog 37 #[.string ts[j].path, .string ts[k].path] x.world fun e w'' => e = .returned (.bool true) ∧ ∃ y : Later wr, w'' = y.world) := ⟨fun x => Later.call x (begins_lit true (by simp [hbg]) _)⟩
                go_wp2_with fail
                (haveI := later_any; refine wp_region_later (by kernel_rfl) (by kernel_rfl) ?_; (repeat (go_big_quiet_step (exact HC.out _))); refine wpQuiet_nil ?_; intro _ hwq; obtain ⟨xq, hwq2⟩ := hwq; subst hwq2)
                go_wp2
                go_ret
                refine TvPost.no (hbad fun ⟨_, _, _, h3⟩ => h3 ts[j] ?_ hbg) (kept_below hBw4 xq.kept)
                exact List.mem_take_iff_getElem.2 ⟨j, by omega, rfl⟩
              · have HC : Keep (∀ x : Later wr, Calls Try.prog 37 #[.string ts[j].path, .string ts[k].path] x.world fun e w'' => e = .returned (.bool false) ∧ ∃ y : Later wr, w'' = y.world) := ⟨fun x => Later.call x (begins_lit false (by simp [hbg]) _)⟩
                go_wp2_with fail
                (haveI := later_any; refine wp_region_later (by kernel_rfl) (by kernel_rfl) ?_; (repeat (go_big_quiet_step (exact HC.out _))); refine wpQuiet_nil ?_; intro _ hwq; obtain ⟨xq, hwq2⟩ := hwq; subst hwq2)
                go_wp2
                go_roundw
                case rel => exact ⟨j + 1, by go_num, by omega, ⟨by
                  rw [List.take_succ_eq_append_getElem hjl]
                  intro e' he
                  rcases List.mem_append.1 he with h | h
                  · exact hno.out e' h
                  · rw [List.mem_singleton.1 h]; exact hbg⟩, kept_below hbx xq.kept⟩
                case measure => simp only [intOf]; omega
            · obtain rfl : j = k := by omega
              clear cs
              go_wp2
              go_roundw
              case rel =>
                refine ⟨j + 1, by go_num, by omega, ⟨fun i hi => ?_⟩, hB4⟩
                by_cases e : i = j
                · subst e; exact ⟨hlt, HP.out.1, HP.out.2, hno.out⟩
                · exact hok.out i (by omega)
              case measure => simp only [intOf]; omega
    · have hkn : k = ts.length := by omega
      have HV : Keep (ValidTs ts) := ⟨by omega, fun i hi => hok.out i (by omega)⟩
      clear hkn
      go_wp2
      go_ret
      exact TvPost.yes HV.out hBw
end Go.Proofs.Ytjlflmbifeocbaa

namespace Go.Proofs.Ytjlflmbifeocbaa
open Go.RowKit

def ApplyRel (ts : List En) (cs : List Ch) (us : List En) (c : Int) : Prop :=
  (¬ (ValidTs ts ∧ ValidP cs) ∧ us = [] ∧ c = 1) ∨ (ValidTs ts ∧ ValidP cs ∧
    (((∃ x ∈ cs, sameF (atL ts x.path) x.old = false) ∧ us = [] ∧ c = 2) ∨
     ((∀ x ∈ cs, sameF (atL ts x.path) x.old = true) ∧ ∃ vs, AppRel ts cs vs ∧ ((¬ ValidTs vs ∧ us = [] ∧ c = 3) ∨ (ValidTs vs ∧ us = vs ∧ c = 0)))))
theorem apply_one {ts : List En} {cs : List Ch} {us us' : List En} {c c' : Int} (h : ApplyRel ts cs us c) (h' : ApplyRel ts cs us' c') : us = us' ∧ c = c' := by
  rcases h with ⟨h1, rfl, rfl⟩ | ⟨h1, h2, h⟩
  · rcases h' with ⟨_, rfl, rfl⟩ | ⟨h3, h4, _⟩
    · exact ⟨rfl, rfl⟩
    · exact absurd ⟨h3, h4⟩ h1
  · rcases h' with ⟨h3, _⟩ | ⟨_, _, h'⟩
    · exact absurd ⟨h1, h2⟩ h3
    · rcases h with ⟨⟨x, hx, hs⟩, rfl, rfl⟩ | ⟨ha, vs, hv, h⟩
      · rcases h' with ⟨_, rfl, rfl⟩ | ⟨ha, _⟩
        · exact ⟨rfl, rfl⟩
        · rw [ha x hx] at hs; cases hs
      · rcases h' with ⟨⟨x, hx, hs⟩, _⟩ | ⟨_, vs', hv', h'⟩
        · rw [ha x hx] at hs; cases hs
        · obtain rfl := hv.one hv'
          rcases h with ⟨h5, rfl, rfl⟩ | ⟨h5, rfl, rfl⟩
          · rcases h' with ⟨_, rfl, rfl⟩ | ⟨h6, _⟩
            · exact ⟨rfl, rfl⟩
            · exact absurd h6 h5
          · rcases h' with ⟨h6, _⟩ | ⟨_, rfl, rfl⟩
            · exact absurd h5 h6
            · exact ⟨rfl, rfl⟩
theorem EL.box {B ob : Nat} {w : World} {ad : Option Addr} {us : List En} {v : Value} (h : EL B w ad us) (hne : us = [] ∨ blk ad ≠ some ob) : EL B (w.setCell ⟨ob, 0, none⟩ v) ad us := by
  rcases hne with h' | h'
  · subst h'; exact .inl rfl
  · exact h.grown (row := some ob) (grown_set0 w ob 0 v) (fun g hg _ _ e => h' (by rw [hg, e]))
theorem EL.apart {B ob : Nat} {w : World} {ad : Option Addr} {us : List En} (h : EL B w ad us) (hb : ob < B ∨ w.heap.size ≤ ob) : us = [] ∨ blk ad ≠ some ob := by
  rcases h with h | ⟨g, rfl, h1, h2, _⟩
  · exact .inl h
  · refine .inr (fun e => ?_)
    have e2 : g = ob := by simpa [blk] using e
    omega

def ApplyPost (ts : List En) (cs : List Ch) (w : World) (e : Ending) (w' : World) : Prop :=
  ∃ us c, ApplyRel ts cs us c ∧ (∃ ad cap, e = .returned (TreeV ad us.length cap c) ∧ EL w.heap.size w' ad us) ∧ Below w.heap.size w w'

theorem ap_asc {cs : List Ch} (h : ValidP cs) : AscK Ch.path cs := by
  have key : ∀ i, i < cs.length → ∀ j, j < i → ∀ (hi : i < cs.length) (hj : j < cs.length), Op.bytesLess cs[j].path.toList cs[i].path.toList = true := by
    intro i
    induction i with
    | zero => intro _ j hj; omega
    | succ i ih =>
      intro hi j hj hi' hj'
      obtain ⟨_, _, h1⟩ := h.2 (i + 1) hi
      have h2 := h1 i rfl (by omega)
      by_cases e : j = i
      · subst e; exact h2
      · exact less_trans (ih (by omega) j (by omega) (by omega) hj') h2
  exact List.pairwise_iff_getElem.2 fun i j hi hj hij => key j hj i hij hj hi

set_option maxRecDepth 100000 in
set_option maxHeartbeats 8000000 in
theorem specApply_any (a b : Option Addr) (ca cb : Nat) (ts : List En) (cs : List Ch) (w : World) (hts : ES w a ts) (hcs : CS w b cs) (hn : ts.length ≤ 1048576) (hnb : cs.length ≤ 1048576) (hca : (∃ ad, a = some ad) ∨ (a = none ∧ ca = 0)) :
    Calls Try.prog 44 #[.agg #[.slice a ts.length ca], .agg #[.slice b cs.length cb]] w fun e w' => ApplyPost ts cs w e w' := by
  have hal : Below w.heap.size w (((w.alloc (.cells #[.slice a ts.length ca] 25)).alloc (.cells #[.slice b cs.length cb] 30)).alloc (.cells #[.slice none 0 0] 25)) := (((Below.refl _ _).alloc (Nat.le_refl _) _).alloc (by simp) _).alloc (by simp; omega) _
  have m0 : (((w.alloc (.cells #[.slice a ts.length ca] 25)).alloc (.cells #[.slice b cs.length cb] 30)).alloc (.cells #[.slice none 0 0] 25)).cell? ⟨w.heap.size, 0, none⟩ = some (.slice a ts.length ca) := by simp [go_sem]
  have m1 : (((w.alloc (.cells #[.slice a ts.length ca] 25)).alloc (.cells #[.slice b cs.length cb] 30)).alloc (.cells #[.slice none 0 0] 25)).cell? ⟨w.heap.size + 1, 0, none⟩ = some (.slice b cs.length cb) := by simp [go_sem]
  have k0 : (((w.alloc (.cells #[.slice a ts.length ca] 25)).alloc (.cells #[.slice b cs.length cb] 30)).alloc (.cells #[.slice none 0 0] 25)).cell? ⟨w.heap.size + 1 + 1, 0, none⟩ = some (.slice none 0 0) := by simp [go_sem]
  have kf : (((w.alloc (.cells #[.slice a ts.length ca] 25)).alloc (.cells #[.slice b cs.length cb] 30)).alloc (.cells #[.slice none 0 0] 25)).frozen? ⟨w.heap.size + 1 + 1, 0, none⟩ = false := by simp [go_sem]
  have os0 : w.heap.size + 1 + 1 < (((w.alloc (.cells #[.slice a ts.length ca] 25)).alloc (.cells #[.slice b cs.length cb] 30)).alloc (.cells #[.slice none 0 0] 25)).heap.size := by simp [go_sem]
  go_enter Try.func44, Try.ntmps44
  go_upto_region 1 with fail
  generalize ((w.alloc (.cells #[.slice a ts.length ca] 25)).alloc (.cells #[.slice b cs.length cb] 30)).alloc (.cells #[.slice none 0 0] 25) = W at *
  obtain ⟨g, hg⟩ : ∃ g, g = w.heap.size + 1 + 1 := ⟨_, rfl⟩
  obtain ⟨tb, htb⟩ : ∃ tb, tb = w.heap.size + 1 := ⟨_, rfl⟩
  obtain ⟨ta, hta⟩ : ∃ ta, ta = w.heap.size := ⟨_, rfl⟩
  rw [← hg] at k0 kf os0 ⊢
  rw [← htb] at m1 ⊢
  rw [← hta] at m0 ⊢
  have HS : Keep (ta = w.heap.size ∧ tb = w.heap.size + 1 ∧ g = w.heap.size + 2) := ⟨by omega⟩
  clear hg htb hta
  go_cut [16] (fun v wx => ∃ nb : Bool, v = .bool nb ∧ Keep (nb = false ↔ ValidTs ts ∧ ValidP cs) ∧ Below W.heap.size W wx)
  case first =>
    go_wp2_with fail
    refine (specTree_any a ca ts W (hts.below hal) hn).mono ?_
    rintro e w1 ⟨va, rfl, hva, hb1⟩
    have m1' := cell_later hb1 m1
    cases va with
    | false =>
      have HV : Keep ((true = false) ↔ ValidTs ts ∧ ValidP cs) := ⟨⟨fun h => (by cases h), fun h => (by have := hva.2 h.1; cases this)⟩⟩
      clear hva
      go_wp2_with fail
      go_meet
      case rel => exact ⟨true, rfl, HV, hb1⟩
    | true =>
      have HV : Keep (ValidTs ts) := ⟨hva.1 rfl⟩
      clear hva
      go_wp2_with fail
      refine (specPatch_any b cb cs w1 ((hcs.below hal).below hb1) hnb).mono ?_
      rintro e w2 ⟨vb, rfl, hvb, hb2⟩
      have HV2 : Keep ((!vb) = false ↔ ValidTs ts ∧ ValidP cs) := ⟨⟨fun h => ⟨HV.out, hvb.1 (by simpa using h)⟩, fun h => by rw [hvb.2 h.2]; rfl⟩⟩
      clear hvb
      go_wp2_with fail
      go_meet
      case rel => exact ⟨_, rfl, HV2, hb1.trans (hb2.mono hb1.size)⟩
  case rest =>
    obtain ⟨nb, rfl, HV, hb1⟩ := hcut
    replace m0 := cell_later hb1 m0
    replace m1 := cell_later hb1 m1
    replace k0 := cell_later hb1 k0
    replace kf : wc.frozen? ⟨g, 0, none⟩ = false := (hb1.frozen (p := ⟨g, 0, none⟩) os0).trans kf
    have os1 : g < wc.heap.size := Nat.lt_of_lt_of_le os0 hb1.size
    have hbw := hal.trans (hb1.mono hal.size)
    clear hb1 hal os0
    cases nb with
    | true =>
      have hnv : ¬ (ValidTs ts ∧ ValidP cs) := fun h => by have := HV.out.2 h; cases this
      go_wp2
      refine bodyPost_ret (v := TreeV none ([] : List En).length 0 1) ?_ rfl ⟨[], 1, .inl ⟨hnv, rfl, rfl⟩, ⟨none, 0, rfl, EL.nil _ _ _⟩, hbw.setCell (p := ⟨g, 0, none⟩) (by have := HS.out; show _ ≤ g; omega) _⟩
      go_light
      simp [results, Try.results44, go_sem, TreeV, k0]
    | false =>
      have hv := HV.out.1 rfl
      have HS1 : Keep (g < wc.heap.size) := ⟨os1⟩
      clear os1
      go_wp2
      go_loopw [6] (fun i wr => ∃ k : Nat, i = .int .i64 k ∧ k ≤ cs.length ∧ Below wc.heap.size wc wr ∧ Keep (∀ x ∈ cs.take k, sameF (atL ts x.path) x.old = true)) (fun i _ => cs.length - (intOf i).toNat)
      case atStart => exact ⟨0, rfl, Nat.zero_le _, Below.refl _ _, ⟨fun x hx => by simp at hx⟩⟩
      case round =>
        obtain ⟨k, rfl, hk, hbk, HSM⟩ := hrel
        have t0 := cell_later hbk m0
        have t1 := cell_later hbk m1
        have hbx := hbw.trans (hbk.mono hbw.size)
        by_cases hlt : k < cs.length
        · have hlt' : (k : Int) < cs.length := by omega
          obtain ⟨b1, o1, rfl, hc1⟩ := (hcs.below hbx).at hlt
          obtain ⟨x0, x1, x2, x3, x4, x5, x6⟩ := hc1 k hlt
          have ct0 : ∀ z : Later wr, z.world.cell? ⟨ta, 0, none⟩ = some (.slice a ts.length ca) := fun z => cell_later z.kept t0
          have ct1 : ∀ z : Later wr, z.world.cell? ⟨tb, 0, none⟩ = some (.slice (some ⟨b1, o1, none⟩) cs.length cb) := fun z => cell_later z.kept t1
          have cx0 : ∀ z : Later wr, z.world.cell? ⟨b1, o1 + k * 7, none⟩ = some (.string cs[k].path) := fun z => cell_later z.kept x0
          have cx1 : ∀ z : Later wr, z.world.cell? ⟨b1, o1 + k * 7 + 1, none⟩ = some (.bool cs[k].old.there) := fun z => cell_later z.kept x1
          have cx2 : ∀ z : Later wr, z.world.cell? ⟨b1, o1 + k * 7 + 2, none⟩ = some (.string cs[k].old.text) := fun z => cell_later z.kept x2
          have cx3 : ∀ z : Later wr, z.world.cell? ⟨b1, o1 + k * 7 + 3, none⟩ = some (.bool cs[k].old.runs) := fun z => cell_later z.kept x3
          have kr := cell_later hbk k0
          have kfr : wr.frozen? ⟨g, 0, none⟩ = false := (hbk.frozen (p := ⟨g, 0, none⟩) HS1.out).trans kf
          have HG : Keep (g < wr.heap.size) := ⟨Nat.lt_of_lt_of_le HS1.out hbk.size⟩
          obtain ⟨f1, hf1⟩ : ∃ f1, f1 = atL ts cs[k].path := ⟨_, rfl⟩
          have HA1 : Keep (∀ z : Later wr, Calls Try.prog 35 #[.agg #[.slice a ts.length ca], .string cs[k].path] z.world fun e w'' => e = .returned (.agg #[.bool f1.there, .string f1.text, .bool f1.runs]) ∧ ∃ q : Later wr, w'' = q.world) := ⟨fun z => by rw [hf1]; exact Later.call z (l6At_any a ca ts cs[k].path z.world ((hts.below hbx).below z.kept) hn)⟩
          have HT : Keep (cs.take (k + 1) = cs.take k ++ [cs[k]]) := ⟨List.take_succ_eq_append_getElem hlt⟩
          clear hc1 x0 x1 x2 x3 x4 x5 x6
          cases hsm : sameF f1 cs[k].old with
          | true =>
            have HN2 : Keep (∀ x ∈ cs.take (k + 1), sameF (atL ts x.path) x.old = true) := ⟨fun x hx => by
              rw [HT.out] at hx
              rcases List.mem_append.1 hx with h' | h'
              · exact HSM.out x h'
              · rw [List.mem_singleton.1 h', ← hf1]; exact hsm⟩
            obtain ⟨⟨h1, h2⟩, h3⟩ : (f1.there = cs[k].old.there ∧ f1.text.toList = cs[k].old.text.toList) ∧ f1.runs = cs[k].old.runs := by simpa [sameF] using hsm
            have h4 : f1.text = cs[k].old.text := WideShapes.bytes_inj (by rw [← Lib.toList_data, ← Lib.toList_data]; exact h2)
            rw [← h1] at cx1
            rw [← h4] at cx2
            rw [← h3] at cx3
            clear hsm h1 h2 h3 h4 hf1
            go_upto_region 6 with fail
            (haveI := later_any; refine wp_region_later (by kernel_rfl) (by kernel_rfl) ?_; (repeat (go_big_quiet_step (first | (go_at_call 35; exact HA1.out _)))); refine wpQuiet_nil ?_; intro _ hwq; obtain ⟨xq, hwq2⟩ := hwq; subst hwq2)
            have hbq := hbk.trans (xq.kept.mono hbk.size)
            clear ct0 ct1 cx0 cx1 cx2 cx3 HA1 t0 t1 hbk hbx kr kfr
            go_wp2
            go_roundw
            case rel => exact ⟨k + 1, by congr 1, hlt, hbq, HN2⟩
            case measure => simp only [intOf]; omega
          | false =>
            have HBad : Keep (∀ X, Below wr.heap.size wr X → ApplyPost ts cs w (.returned (TreeV none ([] : List En).length 0 2)) (X.setCell ⟨g, 0, none⟩ (.slice none 0 0))) := ⟨fun X hX => ⟨[], 2, .inr ⟨hv.1, hv.2, .inl ⟨⟨cs[k], List.getElem_mem hlt, by rw [← hf1]; exact hsm⟩, rfl, rfl⟩⟩, ⟨none, 0, rfl, EL.nil _ _ _⟩, (hbx.trans (hX.mono hbx.size)).setCell (p := ⟨g, 0, none⟩) (by have := HS.out; show _ ≤ g; omega) _⟩⟩
            clear hf1
            by_cases h1 : f1.there = cs[k].old.there
            · by_cases h2 : f1.text.toList = cs[k].old.text.toList
              · by_cases h3 : f1.runs = cs[k].old.runs
                · exfalso
                  rw [Bool.eq_false_iff] at hsm
                  exact hsm (by simp [sameF, h1, h2, h3])
                · clear hsm
                  go_upto_region 6 with fail
                  (haveI := later_any; refine wp_region_later (by kernel_rfl) (by kernel_rfl) ?_; (repeat (go_big_quiet_step (first | (go_at_call 35; exact HA1.out _)))); refine wpQuiet_nil ?_; intro _ hwq; obtain ⟨xq, hwq2⟩ := hwq; subst hwq2)
                  have kq := cell_later xq.kept kr
                  have kfq : xq.world.frozen? ⟨g, 0, none⟩ = false := (xq.kept.frozen (p := ⟨g, 0, none⟩) HG.out).trans kfr
                  have HB : Keep (ApplyPost ts cs w (.returned (TreeV none ([] : List En).length 0 2)) (xq.world.setCell ⟨g, 0, none⟩ (.slice none 0 0))) := ⟨HBad.out xq.world xq.kept⟩
                  go_wp2
                  refine bodyPost_ret (v := TreeV none ([] : List En).length 0 2) ?_ rfl HB.out
                  go_light
                  simp [results, Try.results44, go_sem, TreeV, kq]
              · clear hsm
                go_upto_region 6 with fail
                (haveI := later_any; refine wp_region_later (by kernel_rfl) (by kernel_rfl) ?_; (repeat (go_big_quiet_step (first | (go_at_call 35; exact HA1.out _)))); refine wpQuiet_nil ?_; intro _ hwq; obtain ⟨xq, hwq2⟩ := hwq; subst hwq2)
                have kq := cell_later xq.kept kr
                have kfq : xq.world.frozen? ⟨g, 0, none⟩ = false := (xq.kept.frozen (p := ⟨g, 0, none⟩) HG.out).trans kfr
                have HB : Keep (ApplyPost ts cs w (.returned (TreeV none ([] : List En).length 0 2)) (xq.world.setCell ⟨g, 0, none⟩ (.slice none 0 0))) := ⟨HBad.out xq.world xq.kept⟩
                go_wp2
                refine bodyPost_ret (v := TreeV none ([] : List En).length 0 2) ?_ rfl HB.out
                go_light
                simp [results, Try.results44, go_sem, TreeV, kq]
            · clear hsm
              go_upto_region 6 with fail
              (haveI := later_any; refine wp_region_later (by kernel_rfl) (by kernel_rfl) ?_; (repeat (go_big_quiet_step (first | (go_at_call 35; exact HA1.out _)))); refine wpQuiet_nil ?_; intro _ hwq; obtain ⟨xq, hwq2⟩ := hwq; subst hwq2)
              have kq := cell_later xq.kept kr
              have kfq : xq.world.frozen? ⟨g, 0, none⟩ = false := (xq.kept.frozen (p := ⟨g, 0, none⟩) HG.out).trans kfr
              have HB : Keep (ApplyPost ts cs w (.returned (TreeV none ([] : List En).length 0 2)) (xq.world.setCell ⟨g, 0, none⟩ (.slice none 0 0))) := ⟨HBad.out xq.world xq.kept⟩
              go_wp2
              refine bodyPost_ret (v := TreeV none ([] : List En).length 0 2) ?_ rfl HB.out
              go_light
              simp [results, Try.results44, go_sem, TreeV, kq]
        · obtain rfl : k = cs.length := by omega
          rw [List.take_length] at HSM
          have kr := cell_later hbk k0
          have kfr : wr.frozen? ⟨g, 0, none⟩ = false := (hbk.frozen (p := ⟨g, 0, none⟩) HS1.out).trans kf
          have HG : Keep (g < wr.heap.size) := ⟨Nat.lt_of_lt_of_le HS1.out hbk.size⟩
          have hcp := l5Copy_any a ca ts wr (hts.below hbx) hn hca
          go_wp2_with fail
          refine hcp.mono ?_
          rintro e w2 ⟨⟨ad2, cap2, rfl, hel2⟩, hb2⟩
          have hb3 : Below w2.heap.size w2 (w2.alloc (.cells #[.slice ad2 ts.length cap2] 25)) := (Below.refl _ _).alloc (Nat.le_refl _) _
          have o0 : (w2.alloc (.cells #[.slice ad2 ts.length cap2] 25)).cell? ⟨w2.heap.size, 0, none⟩ = some (.slice ad2 ts.length cap2) := by simp
          have of0 : (w2.alloc (.cells #[.slice ad2 ts.length cap2] 25)).frozen? ⟨w2.heap.size, 0, none⟩ = false := by simp
          have os0 : w2.heap.size < (w2.alloc (.cells #[.slice ad2 ts.length cap2] 25)).heap.size := by simp
          have hap := hel2.apart (ob := w2.heap.size) (.inr (Nat.le_refl _))
          obtain ⟨B0, hB0⟩ : ∃ B0, B0 = wr.heap.size := ⟨_, rfl⟩
          have hel3 : EL B0 (w2.alloc (.cells #[.slice ad2 ts.length cap2] 25)) ad2 ts := by rw [hB0]; exact hel2.below hb3
          have HB0 : Keep (g < B0 ∧ w.heap.size ≤ B0 ∧ B0 ≤ w2.heap.size) := ⟨by have := HG.out; have := hbx.size; have := hb2.size; omega⟩
          clear hB0
          have hbx2 := hbx.trans (hb2.mono hbx.size)
          have m1q := cell_later hb2 t1
          have k0q := cell_later hb2 kr
          have kfq : w2.frozen? ⟨g, 0, none⟩ = false := (hb2.frozen (p := ⟨g, 0, none⟩) HG.out).trans kfr
          have HG2 : Keep (g < w2.heap.size ∧ w.heap.size ≤ g) := ⟨⟨Nat.lt_of_lt_of_le HG.out hb2.size, by have := HS.out; omega⟩⟩
          have hA0 : AppRel ts (cs.take 0) ts := AppRel.start (valid_asc hv.1)
          have ht100 := hv.1.1
          have hc200 := hv.2.1
          have hCK := ap_asc hv.2
          clear hel2 hb2 hcp kr kfr HG t0 t1 hbk hbx
          go_wp2
          generalize w2.alloc (.cells #[.slice ad2 ts.length cap2] 25) = W2 at *
          obtain ⟨ob, hob⟩ : ∃ ob, ob = w2.heap.size := ⟨_, rfl⟩
          rw [← hob] at o0 of0 os0 hap ⊢
          have HOB : Keep (ob = w2.heap.size ∧ ob < W2.heap.size) := ⟨⟨hob, os0⟩⟩
          clear hob os0
          go_loopw [8] (fun i wq => ∃ (k : Nat) (ad : Option Addr) (cp : Nat) (us : List En), i = .int .i64 k ∧ k ≤ cs.length ∧ wq.cell? ⟨ob, 0, none⟩ = some (.slice ad us.length cp) ∧ wq.frozen? ⟨ob, 0, none⟩ = false ∧ EL B0 wq ad us ∧ (us = [] ∨ blk ad ≠ some ob) ∧ Below w2.heap.size w2 wq ∧ AppRel ts (cs.take k) us ∧ us.length ≤ ts.length + k ∧ ob < wq.heap.size) (fun i _ => cs.length - (intOf i).toNat)
          case atStart => exact ⟨0, ad2, cap2, ts, rfl, Nat.zero_le _, o0, of0, hel3, hap, hb3, hA0, Nat.le_refl _, HOB.out.2⟩
          case round =>
            clear o0 of0 hap hel3 hb3 hA0
            obtain ⟨k, ad, cp, us, rfl, hk, o0, of0, hel, hap, hbq, hAR, hul, hobq⟩ := hrel
            have t1 := cell_later hbq m1q
            have hbx3 := hbx2.trans (hbq.mono hbx2.size)
            by_cases hlt : k < cs.length
            · have hlt' : (k : Int) < cs.length := by omega
              obtain ⟨b1, o1, rfl, hc1⟩ := (hcs.below hbx3).at hlt
              obtain ⟨x0, _, _, _, x4, x5, x6⟩ := hc1 k hlt
              have hly := l6Lay_any ad cp us cs[k].path cs[k].new wr.drew (hel.es.below ((Below.refl _ _).drew)) (by omega) hAR.asc
              have HE : Keep (∀ (ad3 : Option Addr) (cp3 : Nat) (vs : List En) (X : World), LayRel us cs[k].path cs[k].new vs → EL wr.heap.size X ad3 vs → Below wr.heap.size wr X → vs.length ≤ us.length + 1 → (X.setCell ⟨ob, 0, none⟩ (.slice ad3 vs.length cp3)).cell? ⟨ob, 0, none⟩ = some (.slice ad3 vs.length cp3) ∧ (X.setCell ⟨ob, 0, none⟩ (.slice ad3 vs.length cp3)).frozen? ⟨ob, 0, none⟩ = false ∧ EL B0 (X.setCell ⟨ob, 0, none⟩ (.slice ad3 vs.length cp3)) ad3 vs ∧ (vs = [] ∨ blk ad3 ≠ some ob) ∧ Below w2.heap.size w2 (X.setCell ⟨ob, 0, none⟩ (.slice ad3 vs.length cp3)) ∧ AppRel ts (cs.take (k + 1)) vs ∧ vs.length ≤ ts.length + (k + 1) ∧ ob < (X.setCell ⟨ob, 0, none⟩ (.slice ad3 vs.length cp3)).heap.size) := ⟨fun ad3 cp3 vs X h1 h2 h3 h4 => by
                have hap3 := h2.apart (ob := ob) (.inl hobq)
                refine ⟨World.cell?_setCell_same _ _ _ (cell_later h3 o0), (World.frozen?_setCell _ _ _ _).trans ((h3.frozen (p := ⟨ob, 0, none⟩) hobq).trans of0), (h2.box hap3).mono (Nat.le_trans HB0.out.2.2 hbq.size), hap3, (hbq.trans (h3.mono hbq.size)).setCell (p := ⟨ob, 0, none⟩) (by have := HOB.out; show _ ≤ ob; omega) _, hAR.step hlt hCK h1, by omega, by have := h3.size; simp; omega⟩⟩
              go_upto_region 12 with fail
              refine (wpIn_wide (n := 0)).1 ?_
              refine wpIn_region_inv0 (by kernel_rfl) (by kernel_rfl) (fun T0 => YV T0 wr (.agg #[.slice ad us.length cp]) (.slice (some ⟨b1, o1, none⟩) cs.length cb) (.int .i64 k) tb b1 (o1 + k * 7) us cs[k].path cs[k].new (fun X => ∃ (ad3 : Option Addr) (cp3 : Nat) (vs : List En), X.cell? ⟨ob, 0, none⟩ = some (.slice ad3 vs.length cp3) ∧ X.frozen? ⟨ob, 0, none⟩ = false ∧ EL B0 X ad3 vs ∧ (vs = [] ∨ blk ad3 ≠ some ob) ∧ Below w2.heap.size w2 X ∧ AppRel ts (cs.take (k + 1)) vs ∧ vs.length ≤ ts.length + (k + 1) ∧ ob < X.heap.size)) ?_ ?_ ?_
              · exact ⟨Sl2.start _, fun _ => rfl, (fun h => by rw [getD_repl] at h; cases h), (fun h => by rw [getD_repl] at h; cases h)⟩
              · intro L a2 w9 hinv hall
                obtain ⟨ad3, cp3, vs, y1, y2, y3, y4, y5, y6, y7, y8⟩ := hinv.w3 (hall 14 (by decide))
                have HX : Keep _ := ⟨hinv.sl.act⟩
                clear hinv hall HE hly x0 x4 x5 x6 t1 o0 of0
                rw [HX.out]
                simp only [updL, yDs, List.contains_cons, List.contains_nil, Nat.reduceAdd, Nat.reduceBEq, Bool.or_false, cond_false, cond_true, Bool.or_true]
                go_wp2
                go_roundw
                case rel => exact ⟨k + 1, ad3, cp3, vs, by congr 1, hlt, y1, y2, y3, y4, y5, y6, y7, y8⟩
                case measure => simp only [intOf]; omega
              · intro L a2 w9 i o hinv hcl hL ho hdep
                have hi15 : i < 15 := (Array.getElem?_eq_some_iff.1 ho).1
                unfold wpOpIn
                rw [ho]
                have q13 : i < 13 → L.getD 13 false = false := fun hi => by
                  cases hb : L.getD 13 false with
                  | false => rfl
                  | true =>
                    exfalso
                    have d0 := hcl 13 _ rfl hb ⟨0, .data⟩ (by simp) rfl
                    have d6 := hcl 13 _ rfl hb ⟨6, .data⟩ (by simp) rfl
                    have d12 := hcl 13 _ rfl hb ⟨12, .data⟩ (by simp) rfl
                    have d5 := hcl 6 _ rfl d6 ⟨5, .data⟩ (by simp) rfl
                    have d4 := hcl 5 _ rfl d5 ⟨4, .data⟩ (by simp) rfl
                    have d3 := hcl 4 _ rfl d4 ⟨3, .data⟩ (by simp) rfl
                    have d2 := hcl 4 _ rfl d4 ⟨2, .data⟩ (by simp) rfl
                    have d1 := hcl 2 _ rfl d2 ⟨1, .data⟩ (by simp) rfl
                    have d11 := hcl 12 _ rfl d12 ⟨11, .data⟩ (by simp) rfl
                    have d10 := hcl 11 _ rfl d11 ⟨10, .data⟩ (by simp) rfl
                    have d9 := hcl 10 _ rfl d10 ⟨9, .data⟩ (by simp) rfl
                    have d8 := hcl 10 _ rfl d10 ⟨8, .data⟩ (by simp) rfl
                    have d7 := hcl 8 _ rfl d8 ⟨7, .data⟩ (by simp) rfl
                    have hf := getD_ft hL
                    match i, hi, hf with
                    | 0, _, hf => rw [d0] at hf; cases hf
                    | 1, _, hf => rw [d1] at hf; cases hf
                    | 2, _, hf => rw [d2] at hf; cases hf
                    | 3, _, hf => rw [d3] at hf; cases hf
                    | 4, _, hf => rw [d4] at hf; cases hf
                    | 5, _, hf => rw [d5] at hf; cases hf
                    | 6, _, hf => rw [d6] at hf; cases hf
                    | 7, _, hf => rw [d7] at hf; cases hf
                    | 8, _, hf => rw [d8] at hf; cases hf
                    | 9, _, hf => rw [d9] at hf; cases hf
                    | 10, _, hf => rw [d10] at hf; cases hf
                    | 11, _, hf => rw [d11] at hf; cases hf
                    | 12, _, hf => rw [d12] at hf; cases hf
                have q14 : L.getD 13 true = false → L.getD 14 false = false := fun h9 => by
                  cases hb : L.getD 14 false with
                  | false => rfl
                  | true => exfalso; have h := hcl 14 _ rfl hb ⟨13, .data⟩ (by simp) rfl; rw [getD_ft h9] at h; cases h
                clear hcl
                match i, hi15, hL, ho, hdep, q13 with
                | 0, _, hL, ho, hdep, q13 =>
                  injection ho with ho; subst ho
                  dsimp only
                  rw [if_pos (by rfl)]
                  refine ⟨fun f _ => trivial, ?_⟩
                  obtain rfl := hinv.w0 (q13 (by omega))
                  have e7 : a2.tmps[7]?.getD undef = .pointer (some ⟨ob, 0, none⟩) := hinv.sl.old (by decide)
                  go_simp
                  exact hinv.step (i := 0) rfl (by omega) rfl
                | 1, _, hL, ho, hdep, q13 =>
                  injection ho with ho; subst ho
                  dsimp only
                  rw [if_pos (by rfl)]
                  refine ⟨fun f _ => trivial, ?_⟩
                  obtain rfl := hinv.w0 (q13 (by omega))
                  have e3 : a2.tmps[3]?.getD undef = .pointer (some ⟨tb, 0, none⟩) := hinv.sl.old (by decide)
                  go_simp
                  exact hinv.step (i := 1) rfl (by omega) rfl
                | 2, _, hL, ho, hdep, q13 =>
                  injection ho with ho; subst ho
                  dsimp only
                  rw [if_pos (by rfl)]
                  refine ⟨fun f _ => trivial, ?_⟩
                  obtain rfl := hinv.w0 (q13 (by omega))
                  have e51 : a2.tmps[51]?.getD undef = .pointer (some ⟨tb, 0, none⟩) := hinv.sl.new (i := 1) (by decide) rfl (hdep ⟨1, .data⟩ (by simp) rfl)
                  go_simp
                  exact hinv.step (i := 2) rfl (by omega) rfl
                | 3, _, hL, ho, hdep, q13 =>
                  injection ho with ho; subst ho
                  dsimp only
                  rw [if_pos (by rfl)]
                  refine ⟨fun f _ => trivial, ?_⟩
                  obtain rfl := hinv.w0 (q13 (by omega))
                  have e8 : a2.tmps[8]?.getD undef = .int .i64 k := hinv.sl.old (by decide)
                  go_simp
                  exact hinv.step (i := 3) rfl (by omega) rfl
                | 4, _, hL, ho, hdep, q13 =>
                  injection ho with ho; subst ho
                  dsimp only
                  rw [if_pos (by rfl)]
                  refine ⟨fun f _ => trivial, ?_⟩
                  obtain rfl := hinv.w0 (q13 (by omega))
                  have e52 : a2.tmps[52]?.getD undef = .slice (some ⟨b1, o1, none⟩) cs.length cb := hinv.sl.new (i := 2) (by decide) rfl (hdep ⟨2, .data⟩ (by simp) rfl)
                  have e53 : a2.tmps[53]?.getD undef = .int .i64 k := hinv.sl.new (i := 3) (by decide) rfl (hdep ⟨3, .data⟩ (by simp) rfl)
                  go_simp
                  exact hinv.step (i := 4) rfl (by omega) rfl
                | 5, _, hL, ho, hdep, q13 =>
                  injection ho with ho; subst ho
                  dsimp only
                  rw [if_pos (by rfl)]
                  refine ⟨fun f _ => trivial, ?_⟩
                  obtain rfl := hinv.w0 (q13 (by omega))
                  have e54 : a2.tmps[54]?.getD undef = .pointer (some ⟨b1, o1 + k * 7, none⟩) := hinv.sl.new (i := 4) (by decide) rfl (hdep ⟨4, .data⟩ (by simp) rfl)
                  go_simp
                  exact hinv.step (i := 5) rfl (by omega) rfl
                | 6, _, hL, ho, hdep, q13 =>
                  injection ho with ho; subst ho
                  dsimp only
                  rw [if_pos (by rfl)]
                  refine ⟨fun f _ => trivial, ?_⟩
                  obtain rfl := hinv.w0 (q13 (by omega))
                  have e55 : a2.tmps[55]?.getD undef = .pointer (some ⟨b1, o1 + k * 7, none⟩) := hinv.sl.new (i := 5) (by decide) rfl (hdep ⟨5, .data⟩ (by simp) rfl)
                  go_simp
                  exact hinv.step (i := 6) rfl (by omega) rfl
                | 7, _, hL, ho, hdep, q13 =>
                  injection ho with ho; subst ho
                  dsimp only
                  rw [if_pos (by rfl)]
                  refine ⟨fun f _ => trivial, ?_⟩
                  obtain rfl := hinv.w0 (q13 (by omega))
                  have e3 : a2.tmps[3]?.getD undef = .pointer (some ⟨tb, 0, none⟩) := hinv.sl.old (by decide)
                  go_simp
                  exact hinv.step (i := 7) rfl (by omega) rfl
                | 8, _, hL, ho, hdep, q13 =>
                  injection ho with ho; subst ho
                  dsimp only
                  rw [if_pos (by rfl)]
                  refine ⟨fun f _ => trivial, ?_⟩
                  obtain rfl := hinv.w0 (q13 (by omega))
                  have e57 : a2.tmps[57]?.getD undef = .pointer (some ⟨tb, 0, none⟩) := hinv.sl.new (i := 7) (by decide) rfl (hdep ⟨7, .data⟩ (by simp) rfl)
                  go_simp
                  exact hinv.step (i := 8) rfl (by omega) rfl
                | 9, _, hL, ho, hdep, q13 =>
                  injection ho with ho; subst ho
                  dsimp only
                  rw [if_pos (by rfl)]
                  refine ⟨fun f _ => trivial, ?_⟩
                  obtain rfl := hinv.w0 (q13 (by omega))
                  have e8 : a2.tmps[8]?.getD undef = .int .i64 k := hinv.sl.old (by decide)
                  go_simp
                  exact hinv.step (i := 9) rfl (by omega) rfl
                | 10, _, hL, ho, hdep, q13 =>
                  injection ho with ho; subst ho
                  dsimp only
                  rw [if_pos (by rfl)]
                  refine ⟨fun f _ => trivial, ?_⟩
                  obtain rfl := hinv.w0 (q13 (by omega))
                  have e58 : a2.tmps[58]?.getD undef = .slice (some ⟨b1, o1, none⟩) cs.length cb := hinv.sl.new (i := 8) (by decide) rfl (hdep ⟨8, .data⟩ (by simp) rfl)
                  have e59 : a2.tmps[59]?.getD undef = .int .i64 k := hinv.sl.new (i := 9) (by decide) rfl (hdep ⟨9, .data⟩ (by simp) rfl)
                  go_simp
                  exact hinv.step (i := 10) rfl (by omega) rfl
                | 11, _, hL, ho, hdep, q13 =>
                  injection ho with ho; subst ho
                  dsimp only
                  rw [if_pos (by rfl)]
                  refine ⟨fun f _ => trivial, ?_⟩
                  obtain rfl := hinv.w0 (q13 (by omega))
                  have e60 : a2.tmps[60]?.getD undef = .pointer (some ⟨b1, o1 + k * 7, none⟩) := hinv.sl.new (i := 10) (by decide) rfl (hdep ⟨10, .data⟩ (by simp) rfl)
                  go_simp
                  exact hinv.step (i := 11) rfl (by omega) rfl
                | 12, _, hL, ho, hdep, q13 =>
                  injection ho with ho; subst ho
                  dsimp only
                  rw [if_pos (by rfl)]
                  refine ⟨fun f _ => trivial, ?_⟩
                  obtain rfl := hinv.w0 (q13 (by omega))
                  have e61 : a2.tmps[61]?.getD undef = .pointer (some ⟨b1, o1 + k * 7 + 4, none⟩) := hinv.sl.new (i := 11) (by decide) rfl (hdep ⟨11, .data⟩ (by simp) rfl)
                  go_simp
                  exact hinv.step (i := 12) rfl (by omega) rfl
                | 13, _, hL, ho, hdep, q13 =>
                  injection ho with ho; subst ho
                  dsimp only
                  rw [if_pos (by rfl)]
                  refine ⟨fun f _ => trivial, ?_⟩
                  obtain rfl := hinv.w0 (getD_ft hL)
                  have e50 : a2.tmps[50]?.getD undef = .agg #[.slice ad us.length cp] := hinv.sl.new (i := 0) (by decide) rfl (hdep ⟨0, .data⟩ (by simp) rfl)
                  have e56 : a2.tmps[56]?.getD undef = .string cs[k].path := hinv.sl.new (i := 6) (by decide) rfl (hdep ⟨6, .data⟩ (by simp) rfl)
                  have e62 : a2.tmps[62]?.getD undef = .agg #[.bool cs[k].new.there, .string cs[k].new.text, .bool cs[k].new.runs] := hinv.sl.new (i := 12) (by decide) rfl (hdep ⟨12, .data⟩ (by simp) rfl)
                  go_simp
                  refine ⟨rfl, CallsIn.mono (callsIn_wide.2 hly) ?_⟩
                  rintro e w' ⟨ad3, cp3, vs, rfl, h1, h2, h3, h4⟩
                  exact hinv.call rfl hL (q14 hL) h1 h2 ((Below.refl wr.heap.size wr).drew.trans (h3.mono (Nat.le_refl _))) h4
                | 14, _, hL, ho, hdep, q13 =>
                  injection ho with ho; subst ho
                  dsimp only
                  rw [if_pos (by rfl)]
                  refine ⟨fun f _ => trivial, ?_⟩
                  obtain ⟨ad3, cp3, vs, ex, h1, h2, h3, h4⟩ := hinv.w1 (hdep ⟨13, .data⟩ (by simp) rfl) (getD_ft hL)
                  have e63 := evalD2 ex
                  have e7 : a2.tmps[7]?.getD undef = .pointer (some ⟨ob, 0, none⟩) := hinv.sl.old (by decide)
                  have oc := cell_later h3 o0
                  have ofc : w9.frozen? ⟨ob, 0, none⟩ = false := (h3.frozen (p := ⟨ob, 0, none⟩) hobq).trans of0
                  go_simp
                  exact hinv.last (hdep ⟨13, .data⟩ (by simp) rfl) hL ⟨ad3, cp3, vs, HE.out ad3 cp3 vs w9 h1 h2 h3 h4⟩
            · obtain rfl : k = cs.length := by omega
              rw [List.take_length] at hAR
              have r2 := cell_later hbq k0q
              have rf2 : wr.frozen? ⟨g, 0, none⟩ = false := (hbq.frozen (p := ⟨g, 0, none⟩) HG2.out.1).trans kfq
              have hgl : g < wr.heap.size := Nat.lt_of_lt_of_le HG2.out.1 hbq.size
              have hst := specTree_any ad cp us wr hel.es (by omega)
              go_wp2_with fail
              refine hst.mono ?_
              rintro e w5 ⟨vb, rfl, hvb, hb5⟩
              have HVB : Keep (vb = true ↔ ValidTs us) := ⟨hvb⟩
              replace r2 := cell_later hb5 r2
              replace o0 := cell_later hb5 o0
              replace rf2 : w5.frozen? ⟨g, 0, none⟩ = false := (hb5.frozen (p := ⟨g, 0, none⟩) hgl).trans rf2
              have hbx5 := hbx3.trans (hb5.mono hbx3.size)
              have hap5 := hel.apart (ob := g) (.inl HB0.out.1)
              have hel5 := hel.below hb5
              cases vb with
              | false =>
                have hnv : ¬ ValidTs us := fun h => by have := HVB.out.2 h; cases this
                have HB : Keep (ApplyPost ts cs w (.returned (TreeV none ([] : List En).length 0 3)) (w5.setCell ⟨g, 0, none⟩ (.slice none 0 0))) := ⟨⟨[], 3, .inr ⟨hv.1, hv.2, .inr ⟨HSM.out, us, hAR, .inl ⟨hnv, rfl, rfl⟩⟩⟩, ⟨none, 0, rfl, EL.nil _ _ _⟩, hbx5.setCell (p := ⟨g, 0, none⟩) HG2.out.2 _⟩⟩
                clear hst hvb hel hel5 hAR hap hap5
                go_wp2
                refine bodyPost_ret (v := TreeV none ([] : List En).length 0 3) ?_ rfl HB.out
                go_light
                simp [results, Try.results44, go_sem, TreeV, r2]
              | true =>
                have hvv := HVB.out.1 rfl
                have HB : Keep (ApplyPost ts cs w (.returned (TreeV ad us.length cp 0)) (w5.setCell ⟨g, 0, none⟩ (.slice ad us.length cp))) := ⟨⟨us, 0, .inr ⟨hv.1, hv.2, .inr ⟨HSM.out, us, hAR, .inr ⟨hvv, rfl, rfl⟩⟩⟩, ⟨ad, cp, rfl, (hel5.box hap5).mono HB0.out.2.1⟩, hbx5.setCell (p := ⟨g, 0, none⟩) HG2.out.2 _⟩⟩
                clear hst hvb hel hel5 hAR hap hap5
                go_wp2
                refine bodyPost_ret (v := TreeV ad us.length cp 0) ?_ rfl HB.out
                go_light
                simp [results, Try.results44, go_sem, TreeV, r2]
end Go.Proofs.Ytjlflmbifeocbaa

namespace Go.Proofs.Ytjlflmbifeocbaa
open Go.RowKit Go.Shelf

attribute [local go_sem] Oper.semAt_some

def ApI (wl : World) (ob : Nat) (pre : List PEC) (W : World) : Prop :=
  (∀ x ∈ pre, badA x.2.1 x.2.2 = false) ∧ ∃ Wz v, Wz.heap.size = wl.heap.size + 2 ∧ Below wl.heap.size wl Wz ∧ OutSt ob Wz v (outsA pre) W
def ApX (w : World) (g h : Nat) (pre : List PEC) (W : World) : Prop :=
  (∃ x ∈ pre, badA x.2.1 x.2.2 = true) ∧ Below w.heap.size w W ∧ W.cell? ⟨g, 0, none⟩ = some (.slice none 0 0) ∧ W.cell? ⟨h, 0, none⟩ = some (.int .i64 2)

/-- What Apply gives, its room besides. -/
def ApplyPostC (ts : List En) (cs : List Ch) (w : World) (e : Ending) (w' : World) : Prop :=
  ∃ us c, ApplyRel ts cs us c ∧ (∃ ad cap, e = .returned (TreeV ad us.length cap c) ∧ EL w.heap.size w' ad us ∧ us.length ≤ cap) ∧ Below w.heap.size w w'

set_option maxRecDepth 100000 in
set_option maxHeartbeats 40000000 in
theorem implApplyC_any (a b : Option Addr) (ca cb : Nat) (ps : List En) (qs : List Ch) (w : World) (hps : ES w a ps) (hqs : CS w b qs) (hn : ps.length ≤ 1048576) (hnb : qs.length ≤ 1048576) (hca : ps.length ≤ ca) (hcb : qs.length ≤ cb) (hz : ∀ c ∈ ps, c.path.size ≤ 1048576) (hzb : ∀ c ∈ qs, c.path.size ≤ 1048576) :
    Calls Try.prog 10 #[.agg #[.slice a ps.length ca], .agg #[.slice b qs.length cb]] w fun e w' => ApplyPostC ps qs w e w' := by
  have hal : Below w.heap.size w ((((w.alloc (.cells #[.slice a ps.length ca] 25)).alloc (.cells #[.slice b qs.length cb] 30)).alloc (.cells #[.slice none 0 0] 25)).alloc (.cells #[.int .i64 0] 3)) := ((((Below.refl _ _).alloc (Nat.le_refl _) _).alloc (by simp) _).alloc (by simp; omega) _).alloc (by simp; omega) _
  have m0 : ((((w.alloc (.cells #[.slice a ps.length ca] 25)).alloc (.cells #[.slice b qs.length cb] 30)).alloc (.cells #[.slice none 0 0] 25)).alloc (.cells #[.int .i64 0] 3)).cell? ⟨w.heap.size, 0, none⟩ = some (.slice a ps.length ca) := by simp [go_sem]
  have m1 : ((((w.alloc (.cells #[.slice a ps.length ca] 25)).alloc (.cells #[.slice b qs.length cb] 30)).alloc (.cells #[.slice none 0 0] 25)).alloc (.cells #[.int .i64 0] 3)).cell? ⟨w.heap.size + 1, 0, none⟩ = some (.slice b qs.length cb) := by simp [go_sem]
  have k0 : ((((w.alloc (.cells #[.slice a ps.length ca] 25)).alloc (.cells #[.slice b qs.length cb] 30)).alloc (.cells #[.slice none 0 0] 25)).alloc (.cells #[.int .i64 0] 3)).cell? ⟨w.heap.size + 1 + 1, 0, none⟩ = some (.slice none 0 0) := by simp [go_sem]
  have kf : ((((w.alloc (.cells #[.slice a ps.length ca] 25)).alloc (.cells #[.slice b qs.length cb] 30)).alloc (.cells #[.slice none 0 0] 25)).alloc (.cells #[.int .i64 0] 3)).frozen? ⟨w.heap.size + 1 + 1, 0, none⟩ = false := by simp [go_sem]
  have h0 : ((((w.alloc (.cells #[.slice a ps.length ca] 25)).alloc (.cells #[.slice b qs.length cb] 30)).alloc (.cells #[.slice none 0 0] 25)).alloc (.cells #[.int .i64 0] 3)).cell? ⟨w.heap.size + 1 + 1 + 1, 0, none⟩ = some (.int .i64 0) := by simp [go_sem]
  have hf : ((((w.alloc (.cells #[.slice a ps.length ca] 25)).alloc (.cells #[.slice b qs.length cb] 30)).alloc (.cells #[.slice none 0 0] 25)).alloc (.cells #[.int .i64 0] 3)).frozen? ⟨w.heap.size + 1 + 1 + 1, 0, none⟩ = false := by simp [go_sem]
  have os0 : w.heap.size + 1 + 1 + 1 < ((((w.alloc (.cells #[.slice a ps.length ca] 25)).alloc (.cells #[.slice b qs.length cb] 30)).alloc (.cells #[.slice none 0 0] 25)).alloc (.cells #[.int .i64 0] 3)).heap.size := by simp [go_sem]
  refine (callsIn_wide (n := 5)).1 ?_
  refine callsIn_of_wp_marks Try.func10 rfl trivial ?_ rfl
  simp only [Try.ntmps10, List.size_toArray, List.length_cons, List.length_nil, Nat.reduceAdd, Nat.reduceSub, Array.replicate_succ, Array.replicate_zero, List.push_toArray, List.append_toArray, List.nil_append, List.cons_append]
  gi_wp2_with fail
  refine ⟨trivial, ?_⟩
  refine (callsIn_wide.2 (implTree_any a ca ps _ (hps.below hal) hn hz)).mono ?_
  rintro e w1 ⟨vb, rfl, hvb, hb1⟩
  replace m0 := cell_later hb1 m0
  replace m1 := cell_later hb1 m1
  replace k0 := cell_later hb1 k0
  replace h0 := cell_later hb1 h0
  replace kf : w1.frozen? ⟨w.heap.size + 1 + 1, 0, none⟩ = false := (hb1.frozen (p := ⟨w.heap.size + 1 + 1, 0, none⟩) (by show w.heap.size + 1 + 1 < _; omega)).trans kf
  replace hf : w1.frozen? ⟨w.heap.size + 1 + 1 + 1, 0, none⟩ = false := (hb1.frozen (p := ⟨w.heap.size + 1 + 1 + 1, 0, none⟩) os0).trans hf
  have os1 : w.heap.size + 1 + 1 + 1 < w1.heap.size := Nat.lt_of_lt_of_le os0 hb1.size
  have hbw := hal.trans (hb1.mono hal.size)
  have HV : Keep (vb = true ↔ ValidTs ps) := ⟨hvb⟩
  clear hvb hb1 hal os0
  obtain ⟨ta, hta⟩ : ∃ x, x = w.heap.size := ⟨_, rfl⟩
  obtain ⟨tb, htb⟩ : ∃ x, x = w.heap.size + 1 := ⟨_, rfl⟩
  obtain ⟨g, hg⟩ : ∃ x, x = w.heap.size + 1 + 1 := ⟨_, rfl⟩
  obtain ⟨h, hh⟩ : ∃ x, x = w.heap.size + 1 + 1 + 1 := ⟨_, rfl⟩
  rw [← hh] at h0 hf ⊢
  rw [← hg] at k0 kf ⊢
  rw [← htb] at m1 ⊢
  rw [← hta] at m0 ⊢
  have HS : Keep (ta = w.heap.size ∧ tb = ta + 1 ∧ g = tb + 1 ∧ h = g + 1 ∧ h < w1.heap.size) := ⟨by omega⟩
  have hgh : ¬ g = h := by omega
  have hhg : ¬ h = g := by omega
  clear hta htb hg hh os1
  have HNO : Keep (∀ X : World, Below w.heap.size w X → ¬ (ValidTs ps ∧ ValidP qs) → ApplyPostC ps qs w (.returned (TreeV none ([] : List En).length 0 1)) ((X.setCell ⟨g, 0, none⟩ (.slice none 0 0)).setCell ⟨h, 0, none⟩ (.int .i64 1))) := ⟨fun X hX hnv => ⟨[], 1, .inl ⟨hnv, rfl, rfl⟩, ⟨none, 0, rfl, EL.nil _ _ _, Nat.le_refl _⟩, (hX.setCell (p := ⟨g, 0, none⟩) (by have := HS.out; show _ ≤ g; omega) _).setCell (p := ⟨h, 0, none⟩) (by have := HS.out; show _ ≤ h; omega) _⟩⟩
  cases vb with
  | false =>
    have hnv : ¬ (ValidTs ps ∧ ValidP qs) := fun h => by have := HV.out.2 h.1; cases this
    gi_wp2
    refine ⟨trivial, ?_⟩
    gi_wp2
    refine ⟨TreeV none ([] : List En).length 0 1, ?_, HNO.out _ hbw hnv⟩
    simp [results, Try.f10, go_sem, TreeV, k0, h0]
  | true =>
    have HVT : Keep (ValidTs ps) := ⟨HV.out.1 rfl⟩
    gi_wp2_with fail
    refine ⟨trivial, ?_⟩
    refine (callsIn_wide.2 (implPatch_any b cb qs _ (hqs.below hbw) hnb hzb)).mono ?_
    rintro e w2 ⟨vb, rfl, hvb, hb2⟩
    have HV2 : Keep (vb = true ↔ ValidP qs) := ⟨hvb⟩
    replace m0 := cell_later hb2 m0
    replace m1 := cell_later hb2 m1
    replace k0 := cell_later hb2 k0
    replace h0 := cell_later hb2 h0
    replace kf : w2.frozen? ⟨g, 0, none⟩ = false := (hb2.frozen (p := ⟨g, 0, none⟩) (by have := HS.out; show g < _; omega)).trans kf
    replace hf : w2.frozen? ⟨h, 0, none⟩ = false := (hb2.frozen (p := ⟨h, 0, none⟩) HS.out.2.2.2.2).trans hf
    have HS2 : Keep (ta = w.heap.size ∧ tb = ta + 1 ∧ g = tb + 1 ∧ h = g + 1 ∧ h < w2.heap.size) := ⟨by have := HS.out; have := hb2.size; omega⟩
    replace hbw := hbw.trans (hb2.mono hbw.size)
    clear hvb hb2 HS HV
    cases vb with
    | false =>
      have hnv : ¬ (ValidTs ps ∧ ValidP qs) := fun h => by have := HV2.out.2 h.2; cases this
      gi_wp2
      refine ⟨TreeV none ([] : List En).length 0 1, ?_, HNO.out _ hbw hnv⟩
      simp [results, Try.f10, go_sem, TreeV, k0, h0]
    | true =>
      have HVU : Keep (ValidP qs) := ⟨HV2.out.1 rfl⟩
      have hal2 : Below w2.heap.size w2 (w2.alloc (.cells #[.slice none 0 0] 25)) := (Below.refl _ _).alloc (Nat.le_refl _) _
      replace m0 := cell_later hal2 m0
      replace m1 := cell_later hal2 m1
      have ob0 : (((w2.alloc (.cells #[.slice none 0 0] 25)).alloc (.cells #[.slice a ps.length ca] 23)).alloc (.cells #[.slice b qs.length cb] 28)).cell? ⟨w2.heap.size, 0, none⟩ = some (.slice none 0 0) := by simp [go_sem]
      have of0 : (((w2.alloc (.cells #[.slice none 0 0] 25)).alloc (.cells #[.slice a ps.length ca] 23)).alloc (.cells #[.slice b qs.length cb] 28)).frozen? ⟨w2.heap.size, 0, none⟩ = false := by simp [go_sem]
      have ma : (((w2.alloc (.cells #[.slice none 0 0] 25)).alloc (.cells #[.slice a ps.length ca] 23)).alloc (.cells #[.slice b qs.length cb] 28)).cell? ⟨w2.heap.size + 1, 0, none⟩ = some (.slice a ps.length ca) := by simp [go_sem]
      have mb : (((w2.alloc (.cells #[.slice none 0 0] 25)).alloc (.cells #[.slice a ps.length ca] 23)).alloc (.cells #[.slice b qs.length cb] 28)).cell? ⟨w2.heap.size + 1 + 1, 0, none⟩ = some (.slice b qs.length cb) := by simp [go_sem]
      have wsz : (((w2.alloc (.cells #[.slice none 0 0] 25)).alloc (.cells #[.slice a ps.length ca] 23)).alloc (.cells #[.slice b qs.length cb] 28)).heap.size = w2.heap.size + 3 := by simp [go_sem]
      have hb3 : Below w2.heap.size w2 (((w2.alloc (.cells #[.slice none 0 0] 25)).alloc (.cells #[.slice a ps.length ca] 23)).alloc (.cells #[.slice b qs.length cb] 28)) := (((Below.refl _ _).alloc (Nat.le_refl _) _).alloc (by simp) _).alloc (by simp; omega) _
      gi_wp2_with (refine ⟨trivial, ?_⟩; gi_at_call 38; refine (callsIn_wide.2 (sideEC_any a b ps.length qs.length ca cb _)).mono ?_; rintro e w' ⟨rfl, rfl⟩)
      generalize hwl : (((w2.alloc (.cells #[.slice none 0 0] 25)).alloc (.cells #[.slice a ps.length ca] 23)).alloc (.cells #[.slice b qs.length cb] 28)) = wl at *
      clear hwl
      have hbl := hbw.trans (hb3.mono hbw.size)
      have kl := cell_later hb3 k0
      have hl0 := cell_later hb3 h0
      have kfl : wl.frozen? ⟨g, 0, none⟩ = false := (hb3.frozen (p := ⟨g, 0, none⟩) (by have := HS2.out; show g < _; omega)).trans kf
      have hfl : wl.frozen? ⟨h, 0, none⟩ = false := (hb3.frozen (p := ⟨h, 0, none⟩) HS2.out.2.2.2.2).trans hf
      obtain ⟨ob, hob⟩ : ∃ ob, ob = w2.heap.size := ⟨_, rfl⟩
      rw [← hob] at ob0 of0 ma mb wsz HS2 ⊢
      have HL : Keep (ta = w.heap.size ∧ tb = ta + 1 ∧ g = tb + 1 ∧ h = g + 1 ∧ h < ob ∧ wl.heap.size = ob + 3) := ⟨by have := HS2.out; omega⟩
      have hI0 : ∀ o1 o2, ApI wl ob [] ((wl.alloc o1).alloc o2) := fun o1 o2 => by
        have hb : Below wl.heap.size wl ((wl.alloc o1).alloc o2) := ((Below.refl _ _).alloc (Nat.le_refl _) _).alloc (by simp) _
        exact ⟨(fun x hx => by cases hx), _, _, by simp, hb, OutSt.start (cell_later hb ob0) ((hb.frozen (p := ⟨ob, 0, none⟩) (by show ob < _; omega)).trans of0) (by simp; omega)⟩
      clear hb3 hob k0 kf m0 m1 HS2 HV2 hbw hal2 h0 hf
      refine range_iter2 (sideEC_iter (ob + 1) (ob + 1 + 1) a b ca cb ps qs hca hcb hn hnb) (enters_of Try.func61 (by kernel_rfl) rfl) (n := 5) (by omega) rfl (fun x => rfl) (ApI wl ob) (ApX w g h)
        (fun pre W ⟨_, Wz, v, hz1, hz2, hst⟩ => ⟨hst.keep (cell_later hz2 ma) (by omega) (by omega), hst.keep (cell_later hz2 mb) (by omega) (by omega), hps.below (hst.below (hbl.trans (hz2.mono hbl.size)) (by have := HL.out; omega)), hqs.below (hst.below (hbl.trans (hz2.mono hbl.size)) (by have := HL.out; omega))⟩)
        (fun pre W W' ⟨hc, Wz, v, hz1, hz2, hst⟩ hb => ⟨hc, Wz, v, hz1, hz2, hst.later hb⟩)
        (fun pre W l o hl ⟨hc, Wz, v, hz1, hz2, hst⟩ => ⟨hc, Wz.putObj l o, v, by simpa using hz1, hz2.grown (row := some l) ⟨rfl, rfl, rfl, by simp, fun k _ hk => World.putObj_heap_other (fun e => hk (by rw [e]))⟩ hz2.size (fun j e => by cases e; omega), hst.putJ o (by omega) (by omega)⟩)
        (fun pre W l o hl ⟨hc, hb, c1, c2⟩ => ⟨hc, hb.grown (row := some l) ⟨rfl, rfl, rfl, by simp, fun k _ hk => World.putObj_heap_other (fun e => hk (by rw [e]))⟩ hb.size (fun j e => by cases e; have := HL.out; omega), (World.cell?_of_block (World.putObj_heap_other (fun e => by have := HL.out; have e2 : g = l := e; omega))).trans c1, (World.cell?_of_block (World.putObj_heap_other (fun e => by have := HL.out; have e2 : h = l := e; omega))).trans c2⟩) hI0
        (fun x B a' W => a' = { tmps := #[.agg #[.slice a ps.length ca], .agg #[.slice b qs.length cb], .pointer (some ⟨ta, 0, none⟩), .pointer (some ⟨tb, 0, none⟩), .pointer (some ⟨g, 0, none⟩), .pointer (some ⟨h, 0, none⟩), .pointer (some ⟨ob, 0, none⟩), .pointer (some ⟨B, 0, none⟩), .pointer (some ⟨B + 1, 0, none⟩), .agg #[.slice a ps.length ca], .bool true, .bool false, .bool false, .agg #[.slice b qs.length cb], .bool true, .bool false, .bool false, undef, .pointer (some ⟨ta, 0, none⟩), .slice a ps.length ca, .pointer (some ⟨tb, 0, none⟩), .slice b qs.length cb, .func (.func 61) #[] #[.pointer (some ⟨ob + 1, 0, none⟩), .pointer (some ⟨ob + 1 + 1, 0, none⟩)], cutEV (x.2.1.getD zeroE), cutCV (x.2.2.getD noCh), undef, undef, undef, undef, undef, undef, undef, undef, undef, undef, undef, undef, undef, undef, undef, undef, undef, undef, undef, undef, undef, undef, undef, undef, undef, undef, undef, undef, undef, undef, undef, undef], defers := [] } ∧ EBox B (x.2.1.getD zeroE) W ∧ CBox (B + 1) (x.2.2.getD noCh) W)
        (fun x B a' W l o hl ⟨h1, h2, h3⟩ => ⟨h1, h2.put o (by omega), h3.put o (by omega)⟩) ?assign ?body ?done ?stop
      case assign =>
        intro l x W K hK
        unfold yEC cutEV cutCV
        gi_wp2
        exact hK _ _ (((Below.refl _ _).alloc (Nat.le_refl _) _).alloc (by simp) _) ⟨rfl, ⟨by simp [go_sem], by simp [go_sem], by simp [go_sem]⟩, ⟨by simp [go_sem], by simp [go_sem], by simp [go_sem], by simp [go_sem], by simp [go_sem], by simp [go_sem], by simp [go_sem], fun j => by simp [go_sem], by simp [go_sem]⟩⟩
      case body =>
        rintro l pre x a' Wb W ⟨hnc, Wz, v, hz1, hz2, hst⟩ ⟨r, hr⟩ hB1 hbW ⟨rfl, hx, hy⟩
        have hul : (outsA pre).length ≤ 1048576 := by
          have h1 := outsA_len pre
          have h2 := congrArg List.length hr
          have h3 := mrg_lenA En.path Ch.path (ps.length + qs.length) ps qs
          have h4 := HVT.out.1
          have h5 := HVU.out.1
          simp only [List.length_append] at h2
          unfold mrgEC at h2
          omega
        have hmx : x ∈ mrgEC ps qs := by rw [hr]; simp
        have hvB1 : v.ownBlock ≠ some (Wb.heap.size + 1) := fun e => by have := hst.own_lt e; omega
        have st := hst.later hbW
        have HE : Keep (∀ v' w', badA x.2.1 x.2.2 = false → OutSt ob Wz v' (outsA pre ++ outA zeroE x.2.1 x.2.2) w' → TwoB wl.heap.size W w' ∧ ApI wl ob (pre ++ [x]) w') := ⟨fun v' w' hc h => ⟨⟨(h.grown.block _ (by omega) (fun e => by have := HL.out; cases e; omega)).trans (st.grown.block _ (by omega) (fun e => by have := HL.out; cases e; omega)).symm, (h.grown.block _ (by omega) (fun e => by have := HL.out; cases e; omega)).trans (st.grown.block _ (by omega) (fun e => by have := HL.out; cases e; omega)).symm⟩, (fun y hy => by
            rcases List.mem_append.1 hy with h' | h'
            · exact hnc y h'
            · rw [List.mem_singleton.1 h']; exact hc), Wz, v', hz1, hz2, by rw [outsA_snoc]; exact h⟩⟩
        have HR : Keep (∀ X, badA x.2.1 x.2.2 = true → OutSt ob Wz v (outsA pre) X → TwoB wl.heap.size W ((X.setCell ⟨g, 0, none⟩ (.slice none 0 0)).setCell ⟨h, 0, none⟩ (.int .i64 2)) ∧ ApX w g h (pre ++ [x]) ((X.setCell ⟨g, 0, none⟩ (.slice none 0 0)).setCell ⟨h, 0, none⟩ (.int .i64 2))) := ⟨fun X hc st' => by
          have hbk : ∀ k, k ≠ g → k ≠ h → ((X.setCell ⟨g, 0, none⟩ (.slice none 0 0)).setCell ⟨h, 0, none⟩ (.int .i64 2)).heap[k]? = X.heap[k]? := fun k h1 h2 => (Below.heap_setCell _ _ _ _ h2).trans (Below.heap_setCell _ _ _ _ h1)
          have kX := st'.keep (cell_later hz2 kl) (by have := HL.out; omega) (by have := HL.out; omega)
          have hX := st'.keep (cell_later hz2 hl0) (by have := HL.out; omega) (by have := HL.out; omega)
          refine ⟨⟨(hbk _ (by have := HL.out; omega) (by have := HL.out; omega)).trans ((st'.grown.block _ (by omega) (fun e => by have := HL.out; cases e; omega)).trans (st.grown.block _ (by omega) (fun e => by have := HL.out; cases e; omega)).symm), (hbk _ (by have := HL.out; omega) (by have := HL.out; omega)).trans ((st'.grown.block _ (by omega) (fun e => by have := HL.out; cases e; omega)).trans (st.grown.block _ (by omega) (fun e => by have := HL.out; cases e; omega)).symm)⟩, ⟨x, by simp, hc⟩, ?_, ?_, ?_⟩
          · exact ((st'.below (hbl.trans (hz2.mono hbl.size)) (by have := HL.out; omega)).setCell (p := ⟨g, 0, none⟩) (by have := HL.out; show _ ≤ g; omega) _).setCell (p := ⟨h, 0, none⟩) (by have := HL.out; show _ ≤ h; omega) _
          · exact (World.cell?_setCell_other _ _ _ _ (by intro e; exact hhg (congrArg Addr.block e))).trans (World.cell?_setCell_same _ _ _ kX)
          · exact World.cell?_setCell_same _ _ _ ((World.cell?_setCell_other _ _ _ _ (by intro e; exact hgh (congrArg Addr.block e))).trans hX)⟩
        have HK : Keep (∀ X, OutSt ob Wz v (outsA pre) X → (X.cell? ⟨g, 0, none⟩ = some (.slice none 0 0) ∧ X.cell? ⟨h, 0, none⟩ = some (.int .i64 0)) ∧ X.frozen? ⟨g, 0, none⟩ = false ∧ X.frozen? ⟨h, 0, none⟩ = false) := ⟨fun X st' => ⟨⟨st'.keep (cell_later hz2 kl) (by have := HL.out; omega) (by have := HL.out; omega), st'.keep (cell_later hz2 hl0) (by have := HL.out; omega) (by have := HL.out; omega)⟩, frozen_of (st'.grown.block g (by have := HL.out; omega) (fun e => by have := HL.out; cases e; omega)) ((hz2.frozen (p := ⟨g, 0, none⟩) (by have := HL.out; show g < _; omega)).trans kfl), frozen_of (st'.grown.block h (by have := HL.out; omega) (fun e => by have := HL.out; cases e; omega)) ((hz2.frozen (p := ⟨h, 0, none⟩) (by have := HL.out; show h < _; omega)).trans hfl)⟩⟩
        have HB : Keep (Wz.heap.size ≤ Wb.heap.size) := ⟨hst.grown.size⟩
        obtain ⟨hF1, hF2, hF3, hF4, hF5⟩ := round_facts HVT.out HVU.out hmx
        have HF1 : Keep (badA x.2.1 x.2.2 = !sameF (fileE (x.2.1.getD zeroE)) (chA x.2.1 x.2.2).old) := ⟨hF1⟩
        have HF2 : Keep (outA zeroE x.2.1 x.2.2 = (if (chA x.2.1 x.2.2).new.there = true then [⟨(chA x.2.1 x.2.2).path, (chA x.2.1 x.2.2).new.text, (chA x.2.1 x.2.2).new.runs⟩] else [])) := ⟨hF2⟩
        have HF5 : Keep ((x.2.2.getD noCh = noCh ∧ chA x.2.1 x.2.2 = ⟨(x.2.1.getD zeroE).path, fileE (x.2.1.getD zeroE), fileE (x.2.1.getD zeroE)⟩) ∨ (x.2.2.getD noCh = chA x.2.1 x.2.2 ∧ ((chA x.2.1 x.2.2).path.toList == ([] : List UInt8)) = false)) := ⟨by
          rcases hF5 with h5 | ⟨d, h5, h6⟩
          · exact .inl ⟨by rw [h5]; rfl, by unfold chA; rw [h5]; rfl⟩
          · exact .inr ⟨by unfold chA; rw [h5]; rfl, by unfold chA; rw [h5]; exact h6⟩⟩
        clear hst hbW hr hI0 ma mb of0 ob0 kl kfl hl0 hfl hbl hps hqs HNO hB1 wsz hmx hF1 hF2 hF5 hnc hz1 hz2
        generalize Wb.heap.size = B at *
        generalize x.2.1.getD zeroE = e at *
        generalize chA x.2.1 x.2.2 = c at *
        generalize x.2.2.getD noCh = c0 at *
        have hBn : ¬ B = B + 1 := by omega
        have hBn2 : ¬ B + 1 = B := by omega
        obtain ⟨nz, hnz⟩ : ∃ nz : Bool, (nz = true ∧ c0 = noCh ∧ c = ⟨e.path, fileE e, fileE e⟩) ∨ (nz = false ∧ c0 = c ∧ (c.path.toList == ([] : List UInt8)) = false) := by
          rcases HF5.out with ⟨h1, h2⟩ | ⟨h1, h2⟩
          · exact ⟨true, .inl ⟨rfl, h1, h2⟩⟩
          · exact ⟨false, .inr ⟨rfl, h1, h2⟩⟩
        have HNZ : Keep _ := ⟨hnz⟩
        clear hnz HF5
        have HX : Keep (EBox B e W) := ⟨hx⟩
        have HY : Keep (CBox (B + 1) c0 W) := ⟨hy⟩
        have HST : Keep (OutSt ob Wz v (outsA pre) W) := ⟨st⟩
        have a0 := hx.c0
        have a1 := hx.c1
        have a2 := hx.c2
        have b0 := hy.c0
        have b1 := hy.c1
        have b2 := hy.c2
        have b3 := hy.c3
        have b4 := hy.c4
        have b5 := hy.c5
        have b6 := hy.c6
        clear hx hy st
        gi_upto_region 7 with fail
        dsimp only
        gi_cut [27] from 28 (fun u wx => u = .bool nz ∧ wx = W)
        case first =>
          rcases HNZ.out with ⟨rfl, rfl, _⟩ | ⟨rfl, rfl, hp0⟩
          · replace b0 : W.cell? ⟨B + 1, 0, none⟩ = some (.string ⟨#[]⟩) := b0
            replace b1 : W.cell? ⟨B + 1, 1, none⟩ = some (.bool false) := b1
            replace b2 : W.cell? ⟨B + 1, 2, none⟩ = some (.string ⟨#[]⟩) := b2
            replace b3 : W.cell? ⟨B + 1, 3, none⟩ = some (.bool false) := b3
            replace b4 : W.cell? ⟨B + 1, 4, none⟩ = some (.bool false) := b4
            replace b5 : W.cell? ⟨B + 1, 5, none⟩ = some (.string ⟨#[]⟩) := b5
            replace b6 : W.cell? ⟨B + 1, 6, none⟩ = some (.bool false) := b6
            gi_wp2
            gi_meet
            case rel => exact ⟨rfl, rfl⟩
          · gi_wp2
            gi_meet
            case rel => exact ⟨rfl, rfl⟩
        case rest =>
          obtain ⟨rfl, rfl⟩ := hcut
          gi_upto_if 27 with fail
          gi_cut [] from 28 (fun wx => EBox B e wx ∧ CBox (B + 1) c wx ∧ OutSt ob Wz v (outsA pre) wx)
          case first =>
            rcases HNZ.out with ⟨rfl, rfl, rfl⟩ | ⟨rfl, rfl, hp0⟩
            · have a2c := a2
              clear a2
              gi_upto_region 8 with fail
              refine wpIn_region_inv0 (by kernel_rfl) (by kernel_rfl) (fun T0 => RX T0 sDs (sTab B e) wc 5 (fun wx => EBox B e wx ∧ CBox (B + 1) ⟨e.path, fileE e, fileE e⟩ wx ∧ OutSt ob Wz v (outsA pre) wx)) ?_ ?_ ?_
              · exact ⟨Sl2.start _, fun _ => (Below.refl _ _).drew, fun h => by rw [getD_repl] at h; cases h⟩
              · intro L a2 w9 hinv hall
                have hE := hinv.fin (hall 5 (by decide))
                have HXX : Keep _ := ⟨hinv.sl.act⟩
                have HEE : Keep _ := ⟨hE⟩
                clear hinv hall hE
                rw [HXX.out]
                simp only [updL, sDs, List.contains_cons, List.contains_nil, Nat.reduceAdd, Nat.reduceBEq, Bool.or_false, cond_false, cond_true, Bool.or_true]
                gi_wp2
                gi_meet
                case rel => exact HEE.out
              · intro L a2 w9 i o hinv hcl hL ho hdep
                have hi6 : i < 6 := (Array.getElem?_eq_some_iff.1 ho).1
                have h5 : i ≠ 5 → L.getD 5 false = false := fun hne => by
                  cases hb : L.getD 5 false with
                  | false => rfl
                  | true =>
                    exfalso
                    have d4 := hcl 5 _ rfl hb ⟨4, .data⟩ (by simp) rfl
                    have d3 := hcl 4 _ rfl d4 ⟨3, .data⟩ (by simp) rfl
                    have d1 := hcl 4 _ rfl d4 ⟨1, .data⟩ (by simp) rfl
                    have d2 := hcl 3 _ rfl d3 ⟨2, .data⟩ (by simp) rfl
                    have d0 := hcl 1 _ rfl d1 ⟨0, .data⟩ (by simp) rfl
                    have hf := getD_ft hL
                    match i, hi6, hne, hf with
                    | 0, _, _, hf => rw [d0] at hf; cases hf
                    | 1, _, _, hf => rw [d1] at hf; cases hf
                    | 2, _, _, hf => rw [d2] at hf; cases hf
                    | 3, _, _, hf => rw [d3] at hf; cases hf
                    | 4, _, _, hf => rw [d4] at hf; cases hf
                    | 5, _, hne, _ => exact hne rfl
                unfold wpOpIn
                rw [ho]
                clear hcl
                match i, hi6, hL, ho, hdep, h5 with
                | 0, _, hL, ho, hdep, h5 =>
                  injection ho with ho; subst ho
                  dsimp only
                  rw [if_pos (by rfl)]
                  refine ⟨fun f _ => trivial, ?_⟩
                  have e7 : a2.tmps[7]?.getD undef = .pointer (some ⟨B, 0, none⟩) := hinv.sl.old (by decide)
                  go_simp
                  exact hinv.step sNd (i := 0) (by decide) (by show 28 < 57; decide) (by omega) (h5 (by omega)) rfl (Below.refl _ _)
                | 1, _, hL, ho, hdep, h5 =>
                  injection ho with ho; subst ho
                  dsimp only
                  rw [if_pos (by rfl)]
                  refine ⟨fun f _ => trivial, ?_⟩
                  have hb9 := hinv.wd (h5 (by omega))
                  have e28 : a2.tmps[28]?.getD undef = .pointer (some ⟨B, 0, none⟩) := hinv.sl.new (i := 0) (by decide) rfl (hdep ⟨0, .data⟩ (by simp) rfl)
                  have z0 := cell_later hb9 a0
                  go_simp
                  exact hinv.step sNd (i := 1) (by decide) (by show 29 < 57; decide) (by omega) (h5 (by omega)) rfl (Below.refl _ _)
                | 2, _, hL, ho, hdep, h5 =>
                  injection ho with ho; subst ho
                  dsimp only
                  rw [if_pos (by rfl)]
                  refine ⟨fun f _ => trivial, ?_⟩
                  have hb9 := hinv.wd (h5 (by omega))
                  have e7 : a2.tmps[7]?.getD undef = .pointer (some ⟨B, 0, none⟩) := hinv.sl.old (by decide)
                  have z0 := cell_later hb9 a0
                  have z1 := cell_later hb9 a1
                  have z2 := cell_later hb9 a2c
                  go_simp
                  exact hinv.step sNd (i := 2) (by decide) (by show 30 < 57; decide) (by omega) (h5 (by omega)) rfl (Below.refl _ _)
                | 3, _, hL, ho, hdep, h5 =>
                  injection ho with ho; subst ho
                  dsimp only
                  rw [if_pos (by rfl)]
                  refine ⟨fun f _ => trivial, ?_⟩
                  have hb9 := hinv.wd (h5 (by omega))
                  have e30 : a2.tmps[30]?.getD undef = .agg #[.string e.path, .string e.text, .bool e.runs] := hinv.sl.new (i := 2) (by decide) rfl (hdep ⟨2, .data⟩ (by simp) rfl)
                  go_simp
                  refine CallsIn.mono (CallsIn.inRound l (callsIn_wide.2 (fileE_any e _))) ?_
                  rintro e' w' ⟨rfl, hb'⟩
                  exact hinv.step sNd (i := 3) (by decide) (by show 31 < 57; decide) (by omega) (h5 (by omega)) rfl hb'
                | 4, _, hL, ho, hdep, h5 =>
                  injection ho with ho; subst ho
                  dsimp only
                  rw [if_pos (by rfl)]
                  refine ⟨fun f _ => trivial, ?_⟩
                  have hb9 := hinv.wd (h5 (by omega))
                  have e29 : a2.tmps[29]?.getD undef = .string e.path := hinv.sl.new (i := 1) (by decide) rfl (hdep ⟨1, .data⟩ (by simp) rfl)
                  have e31 : a2.tmps[31]?.getD undef = .agg #[.bool (fileE e).there, .string (fileE e).text, .bool (fileE e).runs] := hinv.sl.new (i := 3) (by decide) rfl (hdep ⟨3, .data⟩ (by simp) rfl)
                  go_simp
                  refine CallsIn.mono (CallsIn.inRound l (callsIn_wide.2 (stay_any e.path (fileE e) _))) ?_
                  rintro e' w' ⟨rfl, hb'⟩
                  exact hinv.step sNd (i := 4) (by decide) (by show 32 < 57; decide) (by omega) (h5 (by omega)) rfl hb'
                | 5, _, hL, ho, hdep, h5 =>
                  injection ho with ho; subst ho
                  dsimp only
                  rw [if_pos (by rfl)]
                  refine ⟨fun f _ => trivial, ?_⟩
                  have hb9 := hinv.wd (getD_ft hL)
                  have e8 : a2.tmps[8]?.getD undef = .pointer (some ⟨B + 1, 0, none⟩) := hinv.sl.old (by decide)
                  have e32 : a2.tmps[32]?.getD undef = .agg #[.string e.path, .bool (fileE e).there, .string (fileE e).text, .bool (fileE e).runs, .bool (fileE e).there, .string (fileE e).text, .bool (fileE e).runs] := hinv.sl.new (i := 4) (by decide) rfl (hdep ⟨4, .data⟩ (by simp) rfl)
                  have hy9 := HY.out.later hb9
                  have z0 : w9.cell? ⟨B + 1, 0, none⟩ = some (.string ⟨#[]⟩) := hy9.c0
                  have z1 : w9.cell? ⟨B + 1, 1, none⟩ = some (.bool false) := hy9.c1
                  have z2 : w9.cell? ⟨B + 1, 2, none⟩ = some (.string ⟨#[]⟩) := hy9.c2
                  have z3 : w9.cell? ⟨B + 1, 3, none⟩ = some (.bool false) := hy9.c3
                  have z4 : w9.cell? ⟨B + 1, 4, none⟩ = some (.bool false) := hy9.c4
                  have z5 : w9.cell? ⟨B + 1, 5, none⟩ = some (.string ⟨#[]⟩) := hy9.c5
                  have z6 : w9.cell? ⟨B + 1, 6, none⟩ = some (.bool false) := hy9.c6
                  have fz := hy9.fz
                  have hE : EBox B e (((((((w9.setCell ⟨B + 1, 0, none⟩ (.string e.path)).setCell ⟨B + 1, 1, none⟩ (.bool (fileE e).there)).setCell ⟨B + 1, 2, none⟩ (.string (fileE e).text)).setCell ⟨B + 1, 3, none⟩ (.bool (fileE e).runs)).setCell ⟨B + 1, 4, none⟩ (.bool (fileE e).there)).setCell ⟨B + 1, 5, none⟩ (.string (fileE e).text)).setCell ⟨B + 1, 6, none⟩ (.bool (fileE e).runs)) ∧ CBox (B + 1) ⟨e.path, fileE e, fileE e⟩ (((((((w9.setCell ⟨B + 1, 0, none⟩ (.string e.path)).setCell ⟨B + 1, 1, none⟩ (.bool (fileE e).there)).setCell ⟨B + 1, 2, none⟩ (.string (fileE e).text)).setCell ⟨B + 1, 3, none⟩ (.bool (fileE e).runs)).setCell ⟨B + 1, 4, none⟩ (.bool (fileE e).there)).setCell ⟨B + 1, 5, none⟩ (.string (fileE e).text)).setCell ⟨B + 1, 6, none⟩ (.bool (fileE e).runs)) ∧ OutSt ob Wz v (outsA pre) (((((((w9.setCell ⟨B + 1, 0, none⟩ (.string e.path)).setCell ⟨B + 1, 1, none⟩ (.bool (fileE e).there)).setCell ⟨B + 1, 2, none⟩ (.string (fileE e).text)).setCell ⟨B + 1, 3, none⟩ (.bool (fileE e).runs)).setCell ⟨B + 1, 4, none⟩ (.bool (fileE e).there)).setCell ⟨B + 1, 5, none⟩ (.string (fileE e).text)).setCell ⟨B + 1, 6, none⟩ (.bool (fileE e).runs)) := ⟨(HX.out.later hb9).grown (box7_grown (.string e.path) (.bool (fileE e).there) (.string (fileE e).text) (.bool (fileE e).runs) (.bool (fileE e).there) (.string (fileE e).text) (.bool (fileE e).runs)) (by simp), hy9.set ⟨e.path, fileE e, fileE e⟩, (HST.out.later hb9).other (box7_grown (.string e.path) (.bool (fileE e).there) (.string (fileE e).text) (.bool (fileE e).runs) (.bool (fileE e).there) (.string (fileE e).text) (.bool (fileE e).runs)) (by have := HB.out; omega) hvB1⟩
                  have HEE : Keep _ := ⟨hE⟩
                  clear hE hy9
                  go_simp
                  exact hinv.last rfl hL HEE.out
            · gi_wp2
              gi_meet
              case rel => exact ⟨HX.out, HY.out, HST.out⟩
          case rest =>
            obtain ⟨hx, hy, st⟩ := hcut
            clear HX HY HST hvB1 a0 a1 a2 b0 b1 b2 b3 b4 b5 b6 HNZ
            have a0 := hx.c0
            have a1 := hx.c1
            have a2c := hx.c2
            have b0 := hy.c0
            have b1 := hy.c1
            have b2 := hy.c2
            have b3 := hy.c3
            have b4 := hy.c4
            have b5 := hy.c5
            have b6 := hy.c6
            have HX : Keep (EBox B e wc) := ⟨hx⟩
            have HY : Keep (CBox (B + 1) c wc) := ⟨hy⟩
            have HST : Keep (OutSt ob Wz v (outsA pre) wc) := ⟨st⟩
            clear hx hy st
            obtain ⟨nb, hnb⟩ : ∃ nb : Bool, nb = !sameF (fileE e) c.old := ⟨_, rfl⟩
            have HNB : Keep (nb = !sameF (fileE e) c.old) := ⟨hnb⟩
            clear hnb
            gi_upto_region 9 with fail
            refine wpIn_region_inv0 (by kernel_rfl) (by kernel_rfl) (fun T0 => QV T0 fDs (fTab B e c.old nb) wc) ?_ ?_ ?_
            · exact ⟨Sl2.start _, (Below.refl _ _).drew⟩
            · intro L a2 w9 hinv hall
              have hb9 := hinv.wd
              have e37 : a2.tmps.getD 37 undef = .bool nb := hinv.sl.sl 4 (by decide) _ rfl (hall 4 (by decide))
              have HXX : Keep _ := ⟨hinv.sl.act⟩
              clear hinv hall
              rw [HXX.out]
              simp only [updL, fDs, List.contains_cons, List.contains_nil, Nat.reduceAdd, Nat.reduceBEq, Bool.or_false, cond_false, cond_true, Bool.or_true, e37]
              generalize a2.tmps.getD 33 undef = s33
              generalize a2.tmps.getD 34 undef = s34
              generalize a2.tmps.getD 35 undef = s35
              generalize a2.tmps.getD 36 undef = s36
              have HY9 := HY.out.later hb9
              have HST9 := HST.out.later hb9
              clear HXX e37 HX HY HST a0 a1 a2c b0 b1 b2 b3 b4 b5 b6 hb9
              cases nb with
              | true =>
                obtain ⟨⟨kX, hX⟩, kfX, hfX⟩ := HK.out w9 HST9
                have HS9 : Keep _ := ⟨HST9⟩
                clear HST9 HY9
                gi_wp2
                exact HR.out w9 (by rw [HF1.out]; exact HNB.out.symm) HS9.out
              | false =>
                have hbad : badA x.2.1 x.2.2 = false := by rw [HF1.out]; exact HNB.out.symm
                have HBAD : Keep _ := ⟨hbad⟩
                clear hbad HNB HK HR HF1
                have HST : Keep (OutSt ob Wz v (outsA pre) w9) := ⟨HST9⟩
                have oc := HST9.cell
                have b0 := HY9.c0
                have b4 := HY9.c4
                have b5 := HY9.c5
                have b6 := HY9.c6
                clear HST9 HY9
                cases hth : c.new.there with
                | false =>
                  rw [hth] at b4
                  gi_wp2
                  exact HE.out v w9 HBAD.out (by rw [HF2.out, hth]; simpa using HST.out)
                | true =>
                  rw [hth] at b4
                  obtain ⟨i0, hi, hz0, hz1', hzb'⟩ := info_parts Try.infoEntry
                  have HE2 : Keep (∀ v' w', OutSt ob Wz v' (outsA pre ++ [⟨c.path, c.new.text, c.new.runs⟩]) w' → TwoB wl.heap.size _ w' ∧ ApI wl ob (pre ++ [x]) w') := ⟨fun v' w' h' => HE.out v' w' HBAD.out (by rw [HF2.out, hth]; exact h')⟩
                  gi_upto_region 12 with fail
                  refine wpIn_region_inv0 (by kernel_rfl) (by kernel_rfl) (fun T0 => NV T0 ob B Wz w9 v c.path c.new.text c.new.runs (outsA pre)) ?_ ?_ ?_
                  · exact ⟨Sl2.start _, fun _ => (Below.refl _ _).drew, (fun h => by rw [getD_repl] at h; cases h), (fun h => by rw [getD_repl] at h; cases h), (fun h => by rw [getD_repl] at h; cases h)⟩
                  · intro L a2 wx hinv hall
                    obtain ⟨v', h'⟩ := hinv.w3 (hall 10 (by decide))
                    have HXX : Keep _ := ⟨hinv.sl.act⟩
                    have HHH : Keep _ := ⟨h'⟩
                    clear hinv hall h'
                    rw [HXX.out]
                    simp only [updL, nDs, List.contains_cons, List.contains_nil, Nat.reduceAdd, Nat.reduceBEq, Bool.or_false, cond_false, cond_true, Bool.or_true]
                    clear HXX oc b0 b4 b5 b6
                    gi_wp2
                    exact HE2.out _ _ HHH.out
                  · intro L a2 wx i o hinv hcl hL ho hdep
                    have hi11 : i < 11 := (Array.getElem?_eq_some_iff.1 ho).1
                    unfold wpOpIn
                    rw [ho]
                    have q87 : L.getD 8 false = true → L.getD 7 false = true := fun hb => hcl 8 _ rfl hb ⟨7, .data⟩ (by simp) rfl
                    have q108 : L.getD 10 false = true → L.getD 8 false = true := fun hb => hcl 10 _ rfl hb ⟨8, .data⟩ (by simp) rfl
                    have q76 : L.getD 7 false = true → L.getD 6 false = true := fun hb => hcl 7 _ rfl hb ⟨6, .data⟩ (by simp) rfl
                    have q7 : (L.getD 6 true = false ∨ L.getD 3 true = false ∨ L.getD 5 true = false) → L.getD 7 false = false := fun h9 => by
                      cases hb : L.getD 7 false with
                      | false => rfl
                      | true =>
                        exfalso
                        have h6 := q76 hb
                        rcases h9 with h9 | h9 | h9
                        · rw [getD_ft h9] at h6; cases h6
                        · have h := hcl 6 _ rfl h6 ⟨3, .data⟩ (by simp) rfl; rw [getD_ft h9] at h; cases h
                        · have h := hcl 6 _ rfl h6 ⟨5, .data⟩ (by simp) rfl; rw [getD_ft h9] at h; cases h
                    have q8 : (L.getD 1 true = false ∨ L.getD 7 true = false ∨ L.getD 6 true = false) → L.getD 8 false = false := fun h9 => by
                      cases hb : L.getD 8 false with
                      | false => rfl
                      | true =>
                        exfalso
                        rcases h9 with h9 | h9 | h9
                        · have h := hcl 8 _ rfl hb ⟨1, .data⟩ (by simp) rfl; rw [getD_ft h9] at h; cases h
                        · have h := q87 hb; rw [getD_ft h9] at h; cases h
                        · have h := q76 (q87 hb); rw [getD_ft h9] at h; cases h
                    have q10 : (L.getD 8 true = false ∨ L.getD 7 true = false ∨ L.getD 6 true = false) → L.getD 10 false = false := fun h9 => by
                      cases hb : L.getD 10 false with
                      | false => rfl
                      | true =>
                        exfalso
                        rcases h9 with h9 | h9 | h9
                        · have h := q108 hb; rw [getD_ft h9] at h; cases h
                        · have h := q87 (q108 hb); rw [getD_ft h9] at h; cases h
                        · have h := q76 (q87 (q108 hb)); rw [getD_ft h9] at h; cases h
                    clear hcl
                    match i, hi11, hL, ho, hdep with
                        | 0, _, hL, ho, hdep =>
                          injection ho with ho; subst ho
                          dsimp only
                          rw [if_pos (by rfl)]
                          refine ⟨fun f _ => trivial, ?_⟩
                          have e6 : a2.tmps[6]?.getD undef = .pointer (some ⟨ob, 0, none⟩) := hinv.sl.old (by decide)
                          go_simp
                          exact hinv.step (i := 0) rfl (by omega) (by omega) (by omega) rfl (.inl rfl)
                        | 1, _, hL, ho, hdep =>
                          injection ho with ho; subst ho
                          dsimp only
                          rw [if_pos (by rfl)]
                          refine ⟨fun f _ => trivial, ?_⟩
                          have e42 : a2.tmps[42]?.getD undef = .pointer (some ⟨ob, 0, none⟩) := hinv.sl.new (i := 0) (by decide) rfl (hdep ⟨0, .data⟩ (by simp) rfl)
                          have z0 := cell_later (hinv.below (q8 (.inl hL))) oc
                          go_simp
                          exact hinv.step (i := 1) rfl (by omega) (by omega) (by omega) rfl (.inl rfl)
                        | 2, _, hL, ho, hdep =>
                          injection ho with ho; subst ho
                          dsimp only
                          rw [if_pos (by rfl)]
                          refine ⟨fun f _ => trivial, ?_⟩
                          have e8 : a2.tmps[8]?.getD undef = .pointer (some ⟨B + 1, 0, none⟩) := hinv.sl.old (by decide)
                          go_simp
                          exact hinv.step (i := 2) rfl (by omega) (by omega) (by omega) rfl (.inl rfl)
                        | 3, _, hL, ho, hdep =>
                          injection ho with ho; subst ho
                          dsimp only
                          rw [if_pos (by rfl)]
                          refine ⟨fun f _ => trivial, ?_⟩
                          have e44 : a2.tmps[44]?.getD undef = .pointer (some ⟨B + 1, 4, none⟩) := hinv.sl.new (i := 2) (by decide) rfl (hdep ⟨2, .data⟩ (by simp) rfl)
                          have hb := hinv.w0 (q7 (.inr (.inl hL)))
                          have z0 := cell_later hb b4
                          have z1 := cell_later hb b5
                          have z2 := cell_later hb b6
                          go_simp
                          exact hinv.step (i := 3) rfl (by omega) (by omega) (by omega) rfl (.inl rfl)
                        | 4, _, hL, ho, hdep =>
                          injection ho with ho; subst ho
                          dsimp only
                          rw [if_pos (by rfl)]
                          refine ⟨fun f _ => trivial, ?_⟩
                          have e8 : a2.tmps[8]?.getD undef = .pointer (some ⟨B + 1, 0, none⟩) := hinv.sl.old (by decide)
                          go_simp
                          exact hinv.step (i := 4) rfl (by omega) (by omega) (by omega) rfl (.inl rfl)
                        | 5, _, hL, ho, hdep =>
                          injection ho with ho; subst ho
                          dsimp only
                          rw [if_pos (by rfl)]
                          refine ⟨fun f _ => trivial, ?_⟩
                          have e46 : a2.tmps[46]?.getD undef = .pointer (some ⟨B + 1, 0, none⟩) := hinv.sl.new (i := 4) (by decide) rfl (hdep ⟨4, .data⟩ (by simp) rfl)
                          have z0 := cell_later (hinv.w0 (q7 (.inr (.inr hL)))) b0
                          go_simp
                          exact hinv.step (i := 5) rfl (by omega) (by omega) (by omega) rfl (.inl rfl)
                        | 6, _, hL, ho, hdep =>
                          injection ho with ho; subst ho
                          dsimp only
                          rw [if_pos (by rfl)]
                          refine ⟨fun f _ => trivial, ?_⟩
                          have e45 : a2.tmps[45]?.getD undef = .agg #[.bool true, .string c.new.text, .bool c.new.runs] := hinv.sl.new (i := 3) (by decide) rfl (hdep ⟨3, .data⟩ (by simp) rfl)
                          have e47 : a2.tmps[47]?.getD undef = .string c.path := hinv.sl.new (i := 5) (by decide) rfl (hdep ⟨5, .data⟩ (by simp) rfl)
                          go_simp
                          refine CallsIn.mono (CallsIn.inRound l (callsIn_wide.2 (entry_any c.path c.new.text c.new.runs _ (by omega) (by omega)))) ?_
                          rintro e' w' ⟨rfl, hb'⟩
                          exact hinv.step (i := 6) rfl (by omega) (by omega) (by omega) rfl (.inr ⟨hb', q7 (.inl hL), q8 (.inr (.inr hL)), q10 (.inr (.inr hL))⟩)
                        | 7, _, hL, ho, hdep =>
                          injection ho with ho; subst ho
                          dsimp only
                          rw [if_pos (by rfl)]
                          refine ⟨fun f _ => trivial, ?_⟩
                          have e48 : a2.tmps[48]?.getD undef = .agg #[.string c.path, .string c.new.text, .bool c.new.runs] := hinv.sl.new (i := 6) (by decide) rfl (hdep ⟨6, .data⟩ (by simp) rfl)
                          go_simp
                          exact hinv.build rfl (q8 (.inr (.inl hL))) (q10 (.inr (.inl hL))) hL
                        | 8, _, hL, ho, hdep =>
                          injection ho with ho; subst ho
                          dsimp only
                          rw [if_pos (by rfl)]
                          have h7 := hdep ⟨7, .data⟩ (by simp) rfl
                          obtain ⟨y, hby, rfl, ex⟩ := hinv.w1 h7 (getD_ft hL)
                          have ev := hinv.sl.sl 1 (by decide) _ rfl (hdep ⟨1, .data⟩ (by simp) rfl)
                          have hbz : Below w9.heap.size w9 (y.alloc (.cells #[.string c.path, .string c.new.text, .bool c.new.runs] 57)) := hby.alloc hby.size _
                          have hgs := HST.out.grown.size
                          have hys := hby.size
                          obtain ⟨g3, cap3, w7, hr3, hown3, hgrow3, _, _⟩ := run_append_lies (P := Try.prog) (y.alloc (.cells #[.string c.path, .string c.new.text, .bool c.new.runs] 57)) 23 23 Wz.heap.size 57 i0 _ 3 40 Try.underlying23 hi hz0 hz1' hzb' rfl (by decide) v (outsA pre).length (ecells (outsA pre)) (owns_below HST.out.row hbz) ⟨y.heap.size, 0, none⟩ 1 1 (ecell ⟨c.path, c.new.text, c.new.runs⟩) rfl (news_3 y ⟨c.path, c.new.text, c.new.runs⟩ _ _ rfl) (one_3 _) (by omega) (by unfold maxLen; omega) (by omega) (by simp; omega) (y.heap.size + 1) (by simp)
                          exact wpIn_appendR _ _ _ rfl ev ex hr3 (hinv.app rfl h7 (q10 (.inl hL)) hL hbz hown3 hgrow3)
                        | 9, _, hL, ho, hdep =>
                          injection ho with ho; subst ho
                          dsimp only
                          rw [if_pos (by rfl)]
                          refine ⟨fun f _ => trivial, ?_⟩
                          have e6 : a2.tmps[6]?.getD undef = .pointer (some ⟨ob, 0, none⟩) := hinv.sl.old (by decide)
                          go_simp
                          exact hinv.step (i := 9) rfl (by omega) (by omega) (by omega) rfl (.inl rfl)
                        | 10, _, hL, ho, hdep =>
                          injection ho with ho; subst ho
                          dsimp only
                          rw [if_pos (by rfl)]
                          refine ⟨fun f _ => trivial, ?_⟩
                          have h8 := hdep ⟨8, .data⟩ (by simp) rfl
                          obtain ⟨W1, g3, cap3, ex, hbx, hown3, hgrow3⟩ := hinv.w2 h8 (getD_ft hL)
                          have e50 := evalD2 ex
                          have e51 : a2.tmps[51]?.getD undef = .pointer (some ⟨ob, 0, none⟩) := hinv.sl.new (i := 9) (by decide) rfl (hdep ⟨9, .data⟩ (by simp) rfl)
                          obtain ⟨oc3, of3⟩ := HST.out.mid hbx hgrow3
                          go_simp
                          exact hinv.last (q87 h8) h8 hL ⟨_, HST.out.append hbx hgrow3 hown3⟩
            · intro L a2 w9 i o hinv hcl hL ho hdep
              have hi5 : i < 5 := (Array.getElem?_eq_some_iff.1 ho).1
              unfold wpOpIn
              rw [ho]
              clear hcl
              match i, hi5, hL, ho, hdep with
                | 0, _, hL, ho, hdep =>
                  injection ho with ho; subst ho
                  dsimp only
                  rw [if_pos (by rfl)]
                  refine ⟨fun f _ => trivial, ?_⟩
                  have e7 : a2.tmps[7]?.getD undef = .pointer (some ⟨B, 0, none⟩) := hinv.sl.old (by decide)
                  have z0 := cell_later hinv.wd a0
                  have z1 := cell_later hinv.wd a1
                  have z2 := cell_later hinv.wd a2c
                  go_simp
                  exact hinv.step fNd (i := 0) (by decide) (by show 33 < 57; decide) rfl (Below.refl _ _)
                | 1, _, hL, ho, hdep =>
                  injection ho with ho; subst ho
                  dsimp only
                  rw [if_pos (by rfl)]
                  refine ⟨fun f _ => trivial, ?_⟩
                  have e33 : a2.tmps[33]?.getD undef = .agg #[.string e.path, .string e.text, .bool e.runs] := hinv.sl.new (i := 0) (by decide) rfl (hdep ⟨0, .data⟩ (by simp) rfl)
                  go_simp
                  refine CallsIn.mono (CallsIn.inRound l (callsIn_wide.2 (fileE_any e _))) ?_
                  rintro e' w' ⟨rfl, hb'⟩
                  exact hinv.step fNd (i := 1) (by decide) (by show 34 < 57; decide) rfl hb'
                | 2, _, hL, ho, hdep =>
                  injection ho with ho; subst ho
                  dsimp only
                  rw [if_pos (by rfl)]
                  refine ⟨fun f _ => trivial, ?_⟩
                  have e8 : a2.tmps[8]?.getD undef = .pointer (some ⟨B + 1, 0, none⟩) := hinv.sl.old (by decide)
                  go_simp
                  exact hinv.step fNd (i := 2) (by decide) (by show 35 < 57; decide) rfl (Below.refl _ _)
                | 3, _, hL, ho, hdep =>
                  injection ho with ho; subst ho
                  dsimp only
                  rw [if_pos (by rfl)]
                  refine ⟨fun f _ => trivial, ?_⟩
                  have e35 : a2.tmps[35]?.getD undef = .pointer (some ⟨B + 1, 1, none⟩) := hinv.sl.new (i := 2) (by decide) rfl (hdep ⟨2, .data⟩ (by simp) rfl)
                  have z0 := cell_later hinv.wd b1
                  have z1 := cell_later hinv.wd b2
                  have z2 := cell_later hinv.wd b3
                  go_simp
                  exact hinv.step fNd (i := 3) (by decide) (by show 36 < 57; decide) rfl (Below.refl _ _)
                | 4, _, hL, ho, hdep =>
                  injection ho with ho; subst ho
                  dsimp only
                  rw [if_pos (by rfl)]
                  refine ⟨fun f _ => trivial, ?_⟩
                  have e34 : a2.tmps[34]?.getD undef = .agg #[.bool (fileE e).there, .string (fileE e).text, .bool (fileE e).runs] := hinv.sl.new (i := 1) (by decide) rfl (hdep ⟨1, .data⟩ (by simp) rfl)
                  have e36 : a2.tmps[36]?.getD undef = .agg #[.bool c.old.there, .string c.old.text, .bool c.old.runs] := hinv.sl.new (i := 3) (by decide) rfl (hdep ⟨3, .data⟩ (by simp) rfl)
                  have hfin := fun v (hv : v = Value.bool nb) => hinv.step fNd (i := 4) (v := v) (by decide) (by show 37 < 57; decide) (by rw [hv]; rfl) (Below.refl _ _)
                  clear hinv a0 a1 a2c b0 b1 b2 b3 b4 b5 b6
                  generalize fileE e = f at *
                  generalize c.old = fo at *
                  obtain ⟨f1, f2, f3⟩ := f
                  obtain ⟨g1, g2, g3⟩ := fo
                  dsimp only at e34 e36
                  by_cases q1 : f1 = g1
                  · by_cases q2 : f2.toList = g2.toList
                    · by_cases q3 : f3 = g3
                      · have q4 : f2 = g2 := WideShapes.bytes_inj (by rw [← Lib.toList_data, ← Lib.toList_data]; exact q2)
                        subst q1 q3 q4
                        go_simp
                        exact hfin _ (by rw [HNB.out, sameF_self]; rfl)
                      · go_simp
                        exact hfin _ (by rw [HNB.out]; simp [sameF, q3])
                    · go_simp
                      exact hfin _ (by rw [HNB.out]; simp [sameF, q2])
                  · go_simp
                    exact hfin _ (by rw [HNB.out]; simp [sameF, q1])
      case done =>
        rintro W ⟨hnc, Wz, v, hz1, hz2, hst⟩ hK
        have hAR := outs_app HVT.out HVU.out
        have hlen : (outsA (mrgEC ps qs)).length ≤ 1048576 := by
          have h1 := outsA_len (mrgEC ps qs)
          have h2 : (mrgEC ps qs).length ≤ ps.length + qs.length := mrg_lenA En.path Ch.path (ps.length + qs.length) ps qs
          have h3 := HVT.out.1
          have h4 := HVU.out.1
          omega
        have HNB : Keep (∀ x ∈ qs, sameF (atL ps x.path) x.old = true) := ⟨fun x hx => by
          cases hb : sameF (atL ps x.path) x.old with
          | true => rfl
          | false =>
            obtain ⟨y, hy, hyb⟩ := (bad_iff HVT.out HVU.out).2 ⟨x, hx, hb⟩
            rw [hnc y hy] at hyb
            cases hyb⟩
        have hzu : ∀ e ∈ outsA (mrgEC ps qs), e.path.size ≤ 1048576 := fun e he => by
          rcases (hAR.mem e).1 he with ⟨c, hc, _, rfl⟩ | ⟨h1, _⟩
          · exact hzb c hc
          · exact hz e h1
        have kW := hst.keep (cell_later hz2 kl) (by have := HL.out; omega) (by have := HL.out; omega)
        have hW := hst.keep (cell_later hz2 hl0) (by have := HL.out; omega) (by have := HL.out; omega)
        have kfW : W.frozen? ⟨g, 0, none⟩ = false := frozen_of (hst.grown.block g (by have := HL.out; omega) (fun e => by have := HL.out; cases e; omega)) ((hz2.frozen (p := ⟨g, 0, none⟩) (by have := HL.out; show g < _; omega)).trans kfl)
        have hfW : W.frozen? ⟨h, 0, none⟩ = false := frozen_of (hst.grown.block h (by have := HL.out; omega) (fun e => by have := HL.out; cases e; omega)) ((hz2.frozen (p := ⟨h, 0, none⟩) (by have := HL.out; show h < _; omega)).trans hfl)
        have oW := hst.cell
        have hbW := hst.below (hbl.trans (hz2.mono hbl.size)) (show w.heap.size ≤ ob by have := HL.out; omega)
        obtain ⟨ad, cap, rfl⟩ := owns_slice hst.row
        have hrm := row_roomO hst.row
        have hcl := el_of_row hst.row
        have HZ : Keep (w.heap.size ≤ g ∧ h = g + 1 ∧ h < wl.heap.size ∧ Wz.heap.size = wl.heap.size + 2 ∧ Wz.heap.size ≤ W.heap.size) := ⟨by have := HL.out; have := hst.grown.size; omega⟩
        clear hst hz2 hI0 hps hqs HNO hnc wsz
        generalize outsA (mrgEC ps qs) = us at *
        have hvt := implTree_any ad cap us W hcl.es hlen hzu
        gi_wp2_with fail
        refine ⟨trivial, ?_⟩
        refine (callsIn_wide.2 hvt).mono ?_
        rintro e W5 ⟨vb, rfl, hvb, hb5⟩
        have HVB : Keep (vb = true ↔ ValidTs us) := ⟨hvb⟩
        replace kW := cell_later hb5 kW
        replace hW := cell_later hb5 hW
        replace oW := cell_later hb5 oW
        have hgl : h < W.heap.size := by have := HZ.out; omega
        replace kfW : W5.frozen? ⟨g, 0, none⟩ = false := (hb5.frozen (p := ⟨g, 0, none⟩) (by have := HZ.out; show g < _; omega)).trans kfW
        replace hfW : W5.frozen? ⟨h, 0, none⟩ = false := (hb5.frozen (p := ⟨h, 0, none⟩) hgl).trans hfW
        replace hcl := hcl.below hb5
        replace hbW := hbW.trans (hb5.mono hbW.size)
        replace hK := (hb5.block wl.heap.size (by have := HZ.out; omega)).trans hK
        have fin : ∀ (vs : List En) (c : Int) (ad2 : Option Addr) (cap2 : Nat), ApplyRel ps qs vs c → EL Wz.heap.size W5 ad2 vs → vs.length ≤ cap2 → ∃ W3, W3 = (W5.setCell ⟨g, 0, none⟩ (.slice ad2 vs.length cap2)).setCell ⟨h, 0, none⟩ (.int .i64 c) ∧ W3.heap[wl.heap.size]? = some (.deferred (some [])) ∧ (W3.putObj wl.heap.size (.deferred none)).cell? ⟨g, 0, none⟩ = some (.slice ad2 vs.length cap2) ∧ (W3.putObj wl.heap.size (.deferred none)).cell? ⟨h, 0, none⟩ = some (.int .i64 c) ∧ ApplyPostC ps qs w (.returned (TreeV ad2 vs.length cap2 c)) (W3.putObj wl.heap.size (.deferred none)) := fun vs c ad2 cap2 hrel hcs hrm2 => by
          have hzz := HZ.out
          have hbk : ∀ k, k ≠ g → k ≠ h → ((W5.setCell ⟨g, 0, none⟩ (.slice ad2 vs.length cap2)).setCell ⟨h, 0, none⟩ (.int .i64 c)).heap[k]? = W5.heap[k]? := fun k h1 h2 => (Below.heap_setCell _ _ _ _ h2).trans (Below.heap_setCell _ _ _ _ h1)
          have hg1 := hcs.grown (row := some g) (grown_set0 W5 g 0 (.slice ad2 vs.length cap2)) (fun j _ hj _ e => by cases e; omega)
          have hg2 := hg1.grown (row := some h) (grown_set0 _ h 0 (.int .i64 c)) (fun j _ hj _ e => by cases e; omega)
          have hbW2 := (hbW.setCell (p := ⟨g, 0, none⟩) hzz.1 (.slice ad2 vs.length cap2)).setCell (p := ⟨h, 0, none⟩) (by show _ ≤ h; omega) (.int .i64 c)
          have kc : ((W5.setCell ⟨g, 0, none⟩ (.slice ad2 vs.length cap2)).setCell ⟨h, 0, none⟩ (.int .i64 c)).cell? ⟨g, 0, none⟩ = some (.slice ad2 vs.length cap2) := (World.cell?_setCell_other _ _ _ _ (by intro e; exact hhg (congrArg Addr.block e))).trans (World.cell?_setCell_same _ _ _ kW)
          have hc : ((W5.setCell ⟨g, 0, none⟩ (.slice ad2 vs.length cap2)).setCell ⟨h, 0, none⟩ (.int .i64 c)).cell? ⟨h, 0, none⟩ = some (.int .i64 c) := World.cell?_setCell_same _ _ _ ((World.cell?_setCell_other _ _ _ _ (by intro e; exact hgh (congrArg Addr.block e))).trans hW)
          refine ⟨_, rfl, (hbk _ (by omega) (by omega)).trans hK, ?_⟩
          generalize (W5.setCell ⟨g, 0, none⟩ (.slice ad2 vs.length cap2)).setCell ⟨h, 0, none⟩ (.int .i64 c) = W3 at *
          have hgp : W3.grownBy (W3.putObj wl.heap.size (.deferred none)) (some wl.heap.size) := ⟨rfl, rfl, rfl, by simp, fun k _ hk => World.putObj_heap_other (fun e => hk (by rw [e]))⟩
          exact ⟨(World.cell?_of_block (World.putObj_heap_other (fun e => by have e2 : g = wl.heap.size := e; omega))).trans kc, (World.cell?_of_block (World.putObj_heap_other (fun e => by have e2 : h = wl.heap.size := e; omega))).trans hc, vs, c, hrel, ⟨ad2, cap2, rfl, (hg2.grown hgp (fun j _ hj _ e => by cases e; omega)).mono (by omega), hrm2⟩, hbW2.grown hgp hbW2.size (fun j e => by cases e; omega)⟩
        cases vb with
        | true =>
          have hvv := HVB.out.1 rfl
          obtain ⟨W3, hW3, hK3, kc, hc, hpost⟩ := fin us 0 ad cap (.inr ⟨HVT.out, HVU.out, .inr ⟨HNB.out, us, hAR, .inr ⟨hvv, rfl, rfl⟩⟩⟩) hcl hrm
          have HP : Keep _ := ⟨hpost⟩
          clear fin hcl hbW hpost hvt hAR hzu hvb hrm
          gi_wp2
          rw [← hW3]
          refine ⟨by simp, .inl ⟨_, _, rfl, run_takeDeferred hK3, ?_⟩⟩
          refine ⟨_, ?_, HP.out⟩
          simp [results, Try.f10, go_sem, TreeV, kc, hc]
        | false =>
          have hvv : ¬ ValidTs us := fun h => by have := HVB.out.2 h; cases this
          obtain ⟨W3, hW3, hK3, kc, hc, hpost⟩ := fin [] 3 none 0 (.inr ⟨HVT.out, HVU.out, .inr ⟨HNB.out, us, hAR, .inl ⟨hvv, rfl, rfl⟩⟩⟩) (EL.nil _ _ _) (Nat.le_refl _)
          have HP : Keep _ := ⟨hpost⟩
          replace hW3 : W3 = (W5.setCell ⟨g, 0, none⟩ (.slice none 0 0)).setCell ⟨h, 0, none⟩ (.int .i64 3) := hW3
          clear fin hcl hbW hpost hvt hAR hzu hvb hrm
          gi_wp2
          rw [← hW3]
          refine ⟨by simp, .inl ⟨_, _, rfl, run_takeDeferred hK3, ?_⟩⟩
          refine ⟨_, ?_, HP.out⟩
          simp [results, Try.f10, go_sem, TreeV, kc, hc]
      case stop =>
        rintro pre W hpre ⟨⟨x, hx, hcl⟩, hb, c1, c2⟩ hK
        have hcn : ∃ c ∈ qs, sameF (atL ps c.path) c.old = false := (bad_iff HVT.out HVU.out).1 ⟨x, hpre.subset hx, hcl⟩
        clear wsz
        gi_wp2
        refine ⟨by simp, .inl ⟨_, _, rfl, run_takeDeferred hK, ?_⟩⟩
        have hgp : W.grownBy (W.putObj wl.heap.size (.deferred none)) (some wl.heap.size) := ⟨rfl, rfl, rfl, by simp, fun k _ hk => World.putObj_heap_other (fun e => hk (by rw [e]))⟩
        have kc : (W.putObj wl.heap.size (.deferred none)).cell? ⟨g, 0, none⟩ = some (.slice none 0 0) := (World.cell?_of_block (World.putObj_heap_other (fun e => by have := HL.out; have e2 : g = wl.heap.size := e; omega))).trans c1
        have hc : (W.putObj wl.heap.size (.deferred none)).cell? ⟨h, 0, none⟩ = some (.int .i64 2) := (World.cell?_of_block (World.putObj_heap_other (fun e => by have := HL.out; have e2 : h = wl.heap.size := e; omega))).trans c2
        refine ⟨TreeV none ([] : List En).length 0 2, ?_, [], 2, .inr ⟨HVT.out, HVU.out, .inl ⟨hcn, rfl, rfl⟩⟩, ⟨none, 0, rfl, EL.nil _ _ _, Nat.le_refl _⟩, hb.grown hgp hb.size (fun j e => by have := HL.out; cases e; omega)⟩
        simp [results, Try.f10, go_sem, TreeV, kc, hc]
theorem implApply_any (a b : Option Addr) (ca cb : Nat) (ps : List En) (qs : List Ch) (w : World) (hps : ES w a ps) (hqs : CS w b qs) (hn : ps.length ≤ 1048576) (hnb : qs.length ≤ 1048576) (hca : ps.length ≤ ca) (hcb : qs.length ≤ cb) (hz : ∀ c ∈ ps, c.path.size ≤ 1048576) (hzb : ∀ c ∈ qs, c.path.size ≤ 1048576) :
    Calls Try.prog 10 #[.agg #[.slice a ps.length ca], .agg #[.slice b qs.length cb]] w fun e w' => ApplyPost ps qs w e w' :=
  (implApplyC_any a b ca cb ps qs w hps hqs hn hnb hca hcb hz hzb).mono (fun _ _ ⟨us, c, h1, ⟨ad, cap, h2, h3, _⟩, h4⟩ => ⟨us, c, h1, ⟨ad, cap, h2, h3⟩, h4⟩)
end Go.Proofs.Ytjlflmbifeocbaa

namespace Go.Proofs.Ytjlflmbifeocbaa
open Go.RowKit

theorem less_front : ∀ (f a b : List UInt8), Op.bytesLess (f ++ a) (f ++ b) = Op.bytesLess a b
  | [], _, _ => rfl
  | x :: f, a, b => by
    have h1 : ¬ x < x := by rw [UInt8.lt_iff_toNat_lt]; omega
    simp [Op.bytesLess, h1, less_front f a b]

/-- One that is less and no beginning of the other stays less, whatever follows. -/
theorem less_app : ∀ {a b : List UInt8} (r s : List UInt8), Op.bytesLess a b = true → ¬ a <+: b → Op.bytesLess (a ++ r) (b ++ s) = true
  | [], b, _, _, _, h => absurd (List.nil_prefix) h
  | _ :: _, [], _, _, h, _ => by simp [Op.bytesLess] at h
  | x :: a, y :: b, r, s, h, hn => by
    simp only [Op.bytesLess, Bool.or_eq_true, decide_eq_true_eq, Bool.and_eq_true, beq_iff_eq] at h
    simp only [List.cons_append, Op.bytesLess, Bool.or_eq_true, decide_eq_true_eq, Bool.and_eq_true, beq_iff_eq]
    rcases h with h | ⟨rfl, h⟩
    · exact .inl h
    · exact .inr ⟨rfl, less_app r s h (fun hp => hn ((List.cons_prefix_cons).2 ⟨rfl, hp⟩))⟩

/-- A beginning that is not all is less, whatever follows the other. -/
theorem less_pre {a b : List UInt8} (s : List UInt8) (h : a <+: b) (hne : a ≠ b) : Op.bytesLess a (b ++ s) = true := by
  obtain ⟨t, rfl⟩ := h
  cases t with
  | nil => simp at hne
  | cons c t => rw [List.append_assoc]; exact less_more a c (t ++ s)

/-- What the paths below a kid begin with. -/
def beginL (file : Bool) (name : List UInt8) : List UInt8 := if file then name else name ++ [47]

theorem begin_prefix {f g : Bool} {a b : List UInt8} (ha : 47 ∉ a) (hb : 47 ∉ b) (h : beginL f a <+: beginL g b) (hne : a ≠ b) : f = true ∧ beginL f a ≠ beginL g b := by
  have hf : f = true := by
    cases f with
    | true => rfl
    | false =>
      exfalso
      simp only [beginL, Bool.false_eq_true, if_false] at h
      obtain ⟨t, ht⟩ := h
      cases g with
      | true =>
        simp only [if_true] at ht
        exact hb (by rw [← ht]; simp)
      | false =>
        simp only [Bool.false_eq_true, if_false] at ht
        rcases List.eq_nil_or_concat t with rfl | ⟨t', c, rfl⟩
        · simp at ht; exact hne ht
        · rw [List.concat_eq_append, ← List.append_assoc] at ht
          have h1 := (List.append_inj' ht rfl).1
          exact hb (by rw [← h1]; simp)
  subst hf
  refine ⟨rfl, fun e => ?_⟩
  cases g with
  | true => exact hne e
  | false =>
    simp only [beginL, if_true, Bool.false_eq_true, if_false] at e
    exact ha (by rw [e]; simp)

/-- All paths below a kid are less than all those below one that begins greater. -/
theorem kids_less {f g : Bool} {a b : List UInt8} (front r s : List UInt8) (ha : 47 ∉ a) (hb : 47 ∉ b) (hne : a ≠ b) (h : Op.bytesLess (beginL f a) (beginL g b) = true) (hr : f = true → r = []) :
    Op.bytesLess (front ++ (beginL f a ++ r)) (front ++ (beginL g b ++ s)) = true := by
  rw [less_front]
  by_cases hp : beginL f a <+: beginL g b
  · obtain ⟨h1, h2⟩ := begin_prefix ha hb hp hne
    rw [hr h1, List.append_nil]
    exact less_pre s hp h2
  · exact less_app r s h hp
end Go.Proofs.Ytjlflmbifeocbaa
