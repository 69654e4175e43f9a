/-
  spec.l5Begins, spec.ValidTree.
-/
import Derived.Test.YtockgapdfcapnaaTreeP
import Derived.Test.YtockgapdfcapnaaSpecPath
import Derived.Test.YtockgapdfcapnaaLaterQ
import Derived.Deep.QuietTactic
import Derived.BigQuiet
import Derived.Deep.DeepCutAuto
import Derived.Deep.RegionWith
namespace Go.Proofs.Ytockgapdfcapnaa
open Go.RowKit

theorem begins_spelled {d p : ByteArray} : Begins d p ↔ ∃ h : d.size < p.size, (p.extract 0 d.size).toList = d.toList ∧ p[d.size] = 47 := by
  have hsz : ∀ x : ByteArray, x.data.toList.length = x.size := fun x => rfl
  simp only [Lib.toList_data]
  have hex : (p.extract 0 d.size).data.toList = p.data.toList.take d.size := by
    simp [ByteArray.data_extract]
  rw [hex]
  constructor
  · rintro ⟨r, hr⟩
    have hl := congrArg List.length hr
    rw [hsz, List.length_append, hsz, List.length_cons] at hl
    refine ⟨by omega, by rw [hr, List.take_left' (hsz d)], ?_⟩
    have : p[d.size]'(by omega) = p.data.toList[d.size]'(by rw [hsz]; omega) := by simp [ByteArray.getElem_eq_getElem_data]
    rw [this]
    have h2 : p.data.toList[d.size]? = some 47 := by rw [hr, List.getElem?_append_right (by rw [hsz]; omega), hsz]; simp
    exact List.getElem_eq_iff _ |>.2 h2
  · rintro ⟨h, h1, h2⟩
    refine ⟨p.data.toList.drop (d.size + 1), ?_⟩
    have hlt : d.size < p.data.toList.length := by rw [hsz]; exact h
    conv => lhs; rw [← List.take_append_drop d.size p.data.toList, List.drop_eq_getElem_cons hlt, h1]
    have : p.data.toList[d.size] = p[d.size] := by simp [ByteArray.getElem_eq_getElem_data]
    rw [this, h2]

def BgPost (d p : ByteArray) (w : World) (e : Ending) (w' : World) : Prop := ∃ bl : Bool, e = .returned (.bool bl) ∧ (bl = true ↔ Begins d p) ∧ w = w'

set_option maxRecDepth 100000 in
set_option maxHeartbeats 1000000 in
theorem begins_any (d p : ByteArray) (w : World) :
    Calls Try.prog 47 #[.string d, .string p] w fun e w' => BgPost d p w e w' := by
  by_cases h1 : d.size < p.size
  · have hd1 : decide (d.size < p.size) = true := by simp [h1]
    have h1' : (d.size : Int) < p.size := by omega
    cases h2 : ((p.extract 0 d.size).toList == d.toList) with
    | true =>
      cases h3 : ((p[d.size].toNat : Int) == 47) with
      | true =>
        go_enter Try.func47, Try.ntmps47
        go_wp2
        go_ret
        exact ⟨true, rfl, ⟨fun _ => begins_spelled.2 ⟨h1, by simpa using h2, UInt8.toNat_inj.1 (by have h3' := eq_of_beq h3; show p[d.size].toNat = 47; omega)⟩, fun _ => rfl⟩, rfl⟩
      | false =>
        go_enter Try.func47, Try.ntmps47
        go_wp2
        go_ret
        exact ⟨false, rfl, ⟨fun h => (by cases h), fun h => by
          obtain ⟨_, _, h5⟩ := begins_spelled.1 h
          rw [h5] at h3; simp at h3⟩, rfl⟩
    | false =>
      go_enter Try.func47, Try.ntmps47
      go_wp2
      go_ret
      exact ⟨false, rfl, ⟨fun h => (by cases h), fun h => by
        obtain ⟨_, h4, _⟩ := begins_spelled.1 h
        rw [h4] at h2; simp at h2⟩, rfl⟩
  · have hd1 : decide (d.size < p.size) = false := by simp [h1]
    have h1' : ¬ (d.size : Int) < p.size := by omega
    go_enter Try.func47, Try.ntmps47
    go_wp2
    go_ret
    exact ⟨false, rfl, ⟨fun h => (by cases h), fun h => absurd (begins_spelled.1 h).1 h1⟩, rfl⟩

theorem begins_lit {d p : ByteArray} (bl : Bool) (h : bl = true ↔ Begins d p) (w : World) :
    Calls Try.prog 47 #[.string d, .string p] w fun e w' => e = .returned (.bool bl) ∧ Below w.heap.size w w' := by
  refine (begins_any d p w).mono ?_
  rintro e w' ⟨b2, rfl, h2, rfl⟩
  have : b2 = bl := by
    have := h2.trans h.symm
    cases b2 <;> cases bl <;> simp at this ⊢
  exact ⟨by rw [this], Below.refl _ _⟩
theorem kept_below {w w1 w2 : World} (h : Below w.heap.size w w1) (h2 : Below w1.heap.size w1 w2) : Below w.heap.size w w2 := h.trans (h2.mono h.size)

def TvPost (ts : List En) (w : World) (e : Ending) (w' : World) : Prop := ∃ bl : Bool, e = .returned (.bool bl) ∧ (bl = true ↔ ValidTs ts) ∧ Below w.heap.size w w'
theorem TvPost.no {ts : List En} {w w' : World} (h : ¬ ValidTs ts) (hb : Below w.heap.size w w') : TvPost ts w (.returned (.bool false)) w' :=
  ⟨false, rfl, ⟨fun e => (by cases e), fun e => absurd e h⟩, hb⟩
theorem TvPost.yes {ts : List En} {w w' : World} (h : ValidTs ts) (hb : Below w.heap.size w w') : TvPost ts w (.returned (.bool true)) w' :=
  ⟨true, rfl, ⟨fun _ => h, fun _ => rfl⟩, hb⟩

set_option maxRecDepth 100000 in
set_option maxHeartbeats 4000000 in
theorem specTree_any (a : Option Addr) (cap : Nat) (ts : List En) (w : World) (hts : ES w a ts) (hn : ts.length ≤ 1048576) :
    Calls Try.prog 14 #[.agg #[.slice a ts.length cap]] w fun e w' => TvPost ts w e w' := by
  have hbT : Below w.heap.size w (w.alloc (.cells #[.slice a ts.length cap] 32)) := (Below.refl _ _).alloc (Nat.le_refl _) _
  by_cases h100 : (100 : Int) < ts.length
  · go_enter Try.func14, Try.ntmps14
    go_wp2
    go_ret
    exact TvPost.no (fun h => by have := h.1; omega) hbT
  have htT := hts.below hbT
  have hcT : (w.alloc (.cells #[.slice a ts.length cap] 32)).cell? ⟨w.heap.size, 0, none⟩ = some (.slice a ts.length cap) := by simp
  go_enter Try.func14, Try.ntmps14
  go_wp2
  generalize hwT : w.alloc (.cells #[.slice a ts.length cap] 32) = wT at *
  clear hwT
  go_loopw [3] (fun i wr => ∃ (k : Nat), i = .int .i64 k ∧ k ≤ ts.length ∧ Keep (∀ i, i < k → OkAt ts i) ∧ Below wT.heap.size wT wr) (fun i _ => ts.length - (intOf i).toNat)
  case atStart => exact ⟨0, rfl, Nat.zero_le _, ⟨fun i hi => by omega⟩, Below.refl _ _⟩
  case round =>
    obtain ⟨k, rfl, hk, hok, hB⟩ := hrel
    have hE := htT.below hB
    have hcT' := cell_later hB hcT
    have hBw := kept_below hbT hB
    by_cases hlt : k < ts.length
    · have hlt' : (k : Int) < ts.length := by omega
      obtain ⟨b, off, rfl, hc⟩ := hE.at hlt
      obtain ⟨x0, x1, x2⟩ := hc k hlt
      have hals : Below wr.heap.size wr (wr.alloc (.cells #[.string ts[k].path, .string ts[k].text, .bool ts[k].runs] 72)) := (Below.refl _ _).alloc (Nat.le_refl _) _
      have hcT2 := cell_later hals hcT'
      have hBw2 := kept_below hBw hals
      have hB2 := kept_below hB hals
      have hcs : ∀ j (hj : j < ts.length), (wr.alloc (.cells #[.string ts[k].path, .string ts[k].text, .bool ts[k].runs] 72)).cell? ⟨b, off + j * 3, none⟩ = some (.string ts[j].path) := fun j hj => cell_later hals (hc j hj).1
      have y0 : (wr.alloc (.cells #[.string ts[k].path, .string ts[k].text, .bool ts[k].runs] 72)).cell? ⟨wr.heap.size, 0, none⟩ = some (.string ts[k].path) := by simp
      have y1 : (wr.alloc (.cells #[.string ts[k].path, .string ts[k].text, .bool ts[k].runs] 72)).cell? ⟨wr.heap.size, 1, none⟩ = some (.string ts[k].text) := by simp
      have hbad : ¬ OkAt ts k → ¬ ValidTs ts := fun h1 h2 => h1 (h2.2 k hlt)
      clear hc hE htT hts
      go_upto_region 7 with fail
      go_cut [47] (fun v wx => ∃ bl : Bool, v = .bool bl ∧ (bl = false ↔ enOk ts[k] = true ∧ ∀ j, j + 1 = k → ∀ hj : j < ts.length, Op.bytesLess ts[j].path.toList ts[k].path.toList = true) ∧ Below (wr.alloc (.cells #[.string ts[k].path, .string ts[k].text, .bool ts[k].runs] 72)).heap.size (wr.alloc (.cells #[.string ts[k].path, .string ts[k].text, .bool ts[k].runs] 72)) wx)
      case first =>
        generalize hw2 : (wr.alloc (.cells #[.string ts[k].path, .string ts[k].text, .bool ts[k].runs] 72)) = w2 at *
        clear hw2
        have hT : ∀ x : Later w2, x.world.cell? ⟨w.heap.size, 0, none⟩ = some (.slice (some ⟨b, off, none⟩) ts.length cap) := fun x => cell_later x.kept hcT2
        have z0 : ∀ x : Later w2, x.world.cell? ⟨wr.heap.size, 0, none⟩ = some (.string ts[k].path) := fun x => cell_later x.kept y0
        have z1 : ∀ x : Later w2, x.world.cell? ⟨wr.heap.size, 1, none⟩ = some (.string ts[k].text) := fun x => cell_later x.kept y1
        have hcall : ∀ x : Later w2, Calls Try.prog 46 #[.string ts[k].path] x.world fun e w'' => e = .returned (.bool (pathOk pathB ts[k].path)) ∧ ∃ y : Later w2, w'' = y.world := fun x => Later.call x (specPath_any _ _)
        cases hp : pathOk pathB ts[k].path with
        | false =>
          rw [hp] at hcall
          have HC := Keep.mk hcall
          clear hcall
          (haveI := later_any; refine wp_region_later (by kernel_rfl) (by kernel_rfl) ?_; (repeat (go_big_quiet_step (exact HC.out _))); refine wpQuiet_nil ?_; intro _ hwq; obtain ⟨xq, hwq2⟩ := hwq; subst hwq2)
          go_wp2_with fail
          go_meet
          case rel => exact ⟨true, rfl, ⟨fun h => (by cases h), fun h => by simp [enOk, hp] at h⟩, xq.kept⟩
        | true =>
          rw [hp] at hcall
          have HC := Keep.mk hcall
          clear hcall
          by_cases ht : (1500 : Int) < ts[k].text.size
          · (haveI := later_any; refine wp_region_later (by kernel_rfl) (by kernel_rfl) ?_; (repeat (go_big_quiet_step (exact HC.out _))); refine wpQuiet_nil ?_; intro _ hwq; obtain ⟨xq, hwq2⟩ := hwq; subst hwq2)
            go_wp2_with fail
            go_meet
            case rel => exact ⟨true, rfl, ⟨fun h => (by cases h), fun h => by have := h.1; simp [enOk] at this; omega⟩, xq.kept⟩
          have htd : decide (1500 < ts[k].text.size) = false := by simp; omega
          have HE : Keep (enOk ts[k] = true) := ⟨by simp [enOk, hp]; omega⟩
          by_cases hk0 : k = 0
          · have hkd : decide (0 < k) = false := by simp [hk0]
            have HK : Keep (k = 0) := ⟨hk0⟩
            clear hk0
            (haveI := later_any; refine wp_region_later (by kernel_rfl) (by kernel_rfl) ?_; (repeat (go_big_quiet_step (exact HC.out _))); refine wpQuiet_nil ?_; intro _ hwq; obtain ⟨xq, hwq2⟩ := hwq; subst hwq2)
            go_wp2_with fail
            go_meet
            case rel => exact ⟨false, rfl, ⟨fun _ => ⟨HE.out, fun j hj => by have := HK.out; omega⟩, fun _ => rfl⟩, xq.kept⟩
          · obtain ⟨j, rfl⟩ : ∃ j, k = j + 1 := ⟨k - 1, by omega⟩
            have hpv : ∀ x : Later w2, x.world.cell? ⟨b, off + j * 3, none⟩ = some (.string ts[j].path) := fun x => cell_later x.kept (hcs j (by omega))
            have hk0' : (0 : Int) < ((j + 1 : Nat) : Int) := by omega
            have hkd : decide (0 < j + 1) = true := by simp
            (haveI := later_any; refine wp_region_later (by kernel_rfl) (by kernel_rfl) ?_; (repeat (go_big_quiet_step (exact HC.out _))); refine wpQuiet_nil ?_; intro _ hwq; obtain ⟨xq, hwq2⟩ := hwq; subst hwq2)
            go_wp2_with fail
            go_meet
            case rel =>
              refine ⟨_, rfl, ?_, xq.kept⟩
              constructor
              · intro h
                refine ⟨HE.out, fun i hi hj => ?_⟩
                obtain rfl : i = j := by omega
                simpa using h
              · intro h
                have := h.2 j rfl (by omega)
                simp [this]
      case rest =>
        obtain ⟨bl, rfl, hbl, hbc⟩ := hcut
        have HB : Keep (bl = false ↔ enOk ts[k] = true ∧ ∀ j, j + 1 = k → ∀ hj : j < ts.length, Op.bytesLess ts[j].path.toList ts[k].path.toList = true) := ⟨hbl⟩
        have c0 := cell_later hbc y0
        have cT := cell_later hbc hcT2
        have cs : ∀ j (hj : j < ts.length), wc.cell? ⟨b, off + j * 3, none⟩ = some (.string ts[j].path) := fun j hj => cell_later hbc (hcs j hj)
        have hBw3 := kept_below hBw2 hbc
        have hB3 := kept_below hB2 hbc
        clear hbl hcs hbc y0 y1 hcT2 hBw2 hB2 hals x0 x1 x2 hcT' hBw hB
        generalize wr.heap.size = be at *
        cases bl with
        | true =>
          go_wp2
          go_ret
          refine TvPost.no (hbad fun ⟨_, h1, h2, _⟩ => ?_) hBw3
          have := HB.out.2 ⟨h1, h2⟩
          cases this
        | false =>
          have HP : Keep (enOk ts[k] = true ∧ ∀ j, j + 1 = k → ∀ hj : j < ts.length, Op.bytesLess ts[j].path.toList ts[k].path.toList = true) := ⟨HB.out.1 rfl⟩
          clear HB
          go_wp2
          go_loopw [5] (fun v wx => ∃ j : Nat, v = .int .i64 j ∧ j ≤ k ∧ Keep (∀ e' ∈ ts.take j, ¬ Begins e'.path ts[k].path) ∧ Below wc.heap.size wc wx) (fun v _ => k - (intOf v).toNat)
          case atStart => exact ⟨0, rfl, Nat.zero_le _, ⟨fun e' he => by simp at he⟩, Below.refl _ _⟩
          case round =>
            obtain ⟨j, rfl, hjk, hno, hbx⟩ := hrel
            have hBw4 := kept_below hBw3 hbx
            have hB4 := kept_below hB3 hbx
            by_cases hj : j < k
            · have hj' : (j : Int) < k := by omega
              have hjl : j < ts.length := by omega
              have hjl' : (j : Int) < ts.length := by omega
              have cj : ∀ x : Later wr, x.world.cell? ⟨b, off + j * 3, none⟩ = some (.string ts[j].path) := fun x => cell_later x.kept (cell_later hbx (cs j hjl))
              have z0 : ∀ x : Later wr, x.world.cell? ⟨be, 0, none⟩ = some (.string ts[k].path) := fun x => cell_later x.kept (cell_later hbx c0)
              have zT : ∀ x : Later wr, x.world.cell? ⟨w.heap.size, 0, none⟩ = some (.slice (some ⟨b, off, none⟩) ts.length cap) := fun x => cell_later x.kept (cell_later hbx cT)
              clear cs c0 cT
              by_cases hbg : Begins ts[j].path ts[k].path
              · have HC : Keep (∀ x : Later wr, Calls Try.prog 47 #[.string ts[j].path, .string ts[k].path] x.world fun e w'' => e = .returned (.bool true) ∧ ∃ y : Later wr, w'' = y.world) := ⟨fun x => Later.call x (begins_lit true (by simp [hbg]) _)⟩
                go_wp2_with fail
                (haveI := later_any; refine wp_region_later (by kernel_rfl) (by kernel_rfl) ?_; (repeat (go_big_quiet_step (exact HC.out _))); refine wpQuiet_nil ?_; intro _ hwq; obtain ⟨xq, hwq2⟩ := hwq; subst hwq2)
                go_wp2
                go_ret
                refine TvPost.no (hbad fun ⟨_, _, _, h3⟩ => h3 ts[j] ?_ hbg) (kept_below hBw4 xq.kept)
                exact List.mem_take_iff_getElem.2 ⟨j, by omega, rfl⟩
              · have HC : Keep (∀ x : Later wr, Calls Try.prog 47 #[.string ts[j].path, .string ts[k].path] x.world fun e w'' => e = .returned (.bool false) ∧ ∃ y : Later wr, w'' = y.world) := ⟨fun x => Later.call x (begins_lit false (by simp [hbg]) _)⟩
                go_wp2_with fail
                (haveI := later_any; refine wp_region_later (by kernel_rfl) (by kernel_rfl) ?_; (repeat (go_big_quiet_step (exact HC.out _))); refine wpQuiet_nil ?_; intro _ hwq; obtain ⟨xq, hwq2⟩ := hwq; subst hwq2)
                go_wp2
                go_roundw
                case rel => exact ⟨j + 1, by go_num, by omega, ⟨by
                  rw [List.take_succ_eq_append_getElem hjl]
                  intro e' he
                  rcases List.mem_append.1 he with h | h
                  · exact hno.out e' h
                  · rw [List.mem_singleton.1 h]; exact hbg⟩, kept_below hbx xq.kept⟩
                case measure => simp only [intOf]; omega
            · obtain rfl : j = k := by omega
              clear cs
              go_wp2
              go_roundw
              case rel =>
                refine ⟨j + 1, by go_num, by omega, ⟨fun i hi => ?_⟩, hB4⟩
                by_cases e : i = j
                · subst e; exact ⟨hlt, HP.out.1, HP.out.2, hno.out⟩
                · exact hok.out i (by omega)
              case measure => simp only [intOf]; omega
    · have hkn : k = ts.length := by omega
      have HV : Keep (ValidTs ts) := ⟨by omega, fun i hi => hok.out i (by omega)⟩
      clear hkn
      go_wp2
      go_ret
      exact TvPost.yes HV.out hBw
end Go.Proofs.Ytockgapdfcapnaa
