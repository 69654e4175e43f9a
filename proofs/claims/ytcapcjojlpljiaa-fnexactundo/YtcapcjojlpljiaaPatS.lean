/-
  spec.ValidPatch.
-/
import Derived.Test.YtcapcjojlpljiaaPatV
import Derived.Test.YtcapcjojlpljiaaSpecPath
import Derived.Test.YtcapcjojlpljiaaLaterQ
import Derived.Deep.RegionWith
namespace Go.Proofs.Ytcapcjojlpljiaa
open Go.RowKit

/-- What stands in front of a change is less, or there is nothing. -/
def prevOk (cs : List Ch) (k : Nat) : Prop := ∀ j, j + 1 = k → ∀ (hj : j < cs.length) (hk : k < cs.length), Op.bytesLess cs[j].path.toList cs[k].path.toList = true

theorem same_iff (f g : Fl) : sameF f g = true ↔ f.there = g.there ∧ f.text.toList = g.text.toList ∧ f.runs = g.runs := by
  simp [sameF, and_assoc]

set_option maxRecDepth 100000 in
set_option maxHeartbeats 4000000 in
theorem specPatch_any (a : Option Addr) (cap : Nat) (cs : List Ch) (w : World) (hcs : CS w a cs) (hn : cs.length ≤ 1048576) :
    Calls Try.prog 13 #[.agg #[.slice a cs.length cap]] w fun e w' => VpPost cs w e w' := by
  have hal : Below w.heap.size w (w.alloc (.cells #[.slice a cs.length cap] 40)) := (Below.refl _ _).alloc (Nat.le_refl _) _
  have m0 : (w.alloc (.cells #[.slice a cs.length cap] 40)).cell? ⟨w.heap.size, 0, none⟩ = some (.slice a cs.length cap) := by simp
  by_cases h200 : (200 : Int) < cs.length
  · go_enter Try.func13, Try.ntmps13
    go_wp2
    go_ret
    exact VpPost.no (fun h => by have := h.1; omega) hal
  go_enter Try.func13, Try.ntmps13
  go_wp2
  generalize w.alloc (.cells #[.slice a cs.length cap] 40) = w0 at *
  go_loopw [3] (fun i wr => ∃ k : Nat, i = .int .i64 k ∧ k ≤ cs.length ∧ Keep (∀ j, j < k → POk cs j) ∧ Below w0.heap.size w0 wr) (fun i _ => cs.length - (intOf i).toNat)
  case atStart => exact ⟨0, rfl, Nat.zero_le _, ⟨fun j hj => by omega⟩, Below.refl _ _⟩
  case round =>
    obtain ⟨k, rfl, hk, hok, hb0⟩ := hrel
    have hb := hal.trans (hb0.mono hal.size)
    have mr := cell_later hb0 m0
    by_cases hlt : k < cs.length
    · have hlt' : (k : Int) < cs.length := by omega
      obtain ⟨b, off, rfl, hc⟩ := (hcs.below hb).at hlt
      obtain ⟨c0, c1, c2, c3, c4, c5, c6⟩ := hc k hlt
      have HPREV : Keep (∀ j (hj : j < cs.length), wr.cell? ⟨b, off + j * 7, none⟩ = some (.string cs[j].path)) := ⟨fun j hj => (hc j hj).1⟩
      clear hc
      have hals : Below wr.heap.size wr (wr.alloc (.cells #[.string cs[k].path, .bool cs[k].old.there, .string cs[k].old.text, .bool cs[k].old.runs, .bool cs[k].new.there, .string cs[k].new.text, .bool cs[k].new.runs] 64)) := (Below.refl _ _).alloc (Nat.le_refl _) _
      have hx : ChAt (wr.alloc (.cells #[.string cs[k].path, .bool cs[k].old.there, .string cs[k].old.text, .bool cs[k].old.runs, .bool cs[k].new.there, .string cs[k].new.text, .bool cs[k].new.runs] 64)) wr.heap.size 0 cs[k] := by simp [ChAt]
      have m2 := cell_later hals mr
      have hbx := hb0.trans (hals.mono hb0.size)
      have HP2 : Keep (∀ j (hj : j < cs.length), (wr.alloc (.cells #[.string cs[k].path, .bool cs[k].old.there, .string cs[k].old.text, .bool cs[k].old.runs, .bool cs[k].new.there, .string cs[k].new.text, .bool cs[k].new.runs] 64)).cell? ⟨b, off + j * 7, none⟩ = some (.string cs[j].path)) := ⟨fun j hj => cell_later hals (HPREV.out j hj)⟩
      go_upto_region 7 with fail
      go_cut [59] (fun v wx => ∃ bl : Bool, v = .bool bl ∧ (bl = false ↔ POk cs k) ∧ Below w0.heap.size w0 wx)
      case first =>
        generalize wr.alloc (.cells #[.string cs[k].path, .bool cs[k].old.there, .string cs[k].old.text, .bool cs[k].old.runs, .bool cs[k].new.there, .string cs[k].new.text, .bool cs[k].new.runs] 64) = w2 at *
        obtain ⟨xp, hxp⟩ : ∃ xp, cs[k].path = xp := ⟨_, rfl⟩
        obtain ⟨ot, hot⟩ : ∃ x, cs[k].old.there = x := ⟨_, rfl⟩
        obtain ⟨ox, hox⟩ : ∃ x, cs[k].old.text = x := ⟨_, rfl⟩
        obtain ⟨orr, hor⟩ : ∃ x, cs[k].old.runs = x := ⟨_, rfl⟩
        obtain ⟨nt, hnt⟩ : ∃ x, cs[k].new.there = x := ⟨_, rfl⟩
        obtain ⟨nx, hnx⟩ : ∃ x, cs[k].new.text = x := ⟨_, rfl⟩
        obtain ⟨nr, hnr⟩ : ∃ x, cs[k].new.runs = x := ⟨_, rfl⟩
        obtain ⟨y0, y1, y2, y3, y4, y5, y6⟩ := hx
        simp only [Nat.zero_add] at y0 y1 y2 y3 y4 y5 y6
        rw [hxp] at y0
        rw [hot] at y1
        rw [hox] at y2
        rw [hor] at y3
        rw [hnt] at y4
        rw [hnx] at y5
        rw [hnr] at y6
        have z0 : ∀ x : Later w2, x.world.cell? ⟨wr.heap.size, 0, none⟩ = some (.string xp) := fun x => cell_later x.kept y0
        have z1 : ∀ x : Later w2, x.world.cell? ⟨wr.heap.size, 1, none⟩ = some (.bool ot) := fun x => cell_later x.kept y1
        have z2 : ∀ x : Later w2, x.world.cell? ⟨wr.heap.size, 2, none⟩ = some (.string ox) := fun x => cell_later x.kept y2
        have z3 : ∀ x : Later w2, x.world.cell? ⟨wr.heap.size, 3, none⟩ = some (.bool orr) := fun x => cell_later x.kept y3
        have z4 : ∀ x : Later w2, x.world.cell? ⟨wr.heap.size, 4, none⟩ = some (.bool nt) := fun x => cell_later x.kept y4
        have z5 : ∀ x : Later w2, x.world.cell? ⟨wr.heap.size, 5, none⟩ = some (.string nx) := fun x => cell_later x.kept y5
        have z6 : ∀ x : Later w2, x.world.cell? ⟨wr.heap.size, 6, none⟩ = some (.bool nr) := fun x => cell_later x.kept y6
        have zT : ∀ x : Later w2, x.world.cell? ⟨w.heap.size, 0, none⟩ = some (.slice (some ⟨b, off, none⟩) cs.length cap) := fun x => cell_later x.kept m2
        have HBX : Keep (Below w0.heap.size w0 w2) := ⟨hbx⟩
        have HCH : Keep (chOk cs[k] = (pathOk pathB xp && flOk ⟨ot, ox, orr⟩ && flOk ⟨nt, nx, nr⟩ && !sameF ⟨ot, ox, orr⟩ ⟨nt, nx, nr⟩)) := ⟨by rw [← hxp, ← hot, ← hox, ← hor, ← hnt, ← hnx, ← hnr]; rfl⟩
        have HXP : Keep (cs[k].path = xp) := ⟨hxp⟩
        have HC1 : ∀ x : Later w2, Calls Try.prog 26 #[.string xp] x.world fun e w'' => e = .returned (.bool (pathOk pathB xp)) ∧ ∃ y : Later w2, w'' = y.world := fun x => Later.call x (specPath_any _ _)
        have HC2 : ∀ x : Later w2, Calls Try.prog 32 #[.agg #[.bool ot, .string ox, .bool orr]] x.world fun e w'' => e = .returned (.bool (flOk ⟨ot, ox, orr⟩)) ∧ ∃ y : Later w2, w'' = y.world := fun x => Later.call x (l6FileOk_any ⟨ot, ox, orr⟩ _)
        have HC3 : ∀ x : Later w2, Calls Try.prog 32 #[.agg #[.bool nt, .string nx, .bool nr]] x.world fun e w'' => e = .returned (.bool (flOk ⟨nt, nx, nr⟩)) ∧ ∃ y : Later w2, w'' = y.world := fun x => Later.call x (l6FileOk_any ⟨nt, nx, nr⟩ _)
        clear hxp hot hox hor hnt hnx hnr y0 y1 y2 y3 y4 y5 y6 c0 c1 c2 c3 c4 c5 c6 m2 m0 mr hbx hals hal hb hb0 hcs
        cases hp : pathOk pathB xp with
        | false =>
          have HNO : Keep (¬ POk cs k) := ⟨fun ⟨_, h, _⟩ => by rw [HCH.out, hp] at h; simp at h⟩
          rw [hp] at HC1
          replace HC1 := Keep.mk HC1
          replace HC2 := Keep.mk HC2
          replace HC3 := Keep.mk HC3
          (haveI := later_any; refine wp_region_later (by kernel_rfl) (by kernel_rfl) ?_; (repeat (go_big_quiet_step (first | (go_at_call 26; exact HC1.out _) | (go_at_call_of 32 ([Value.agg #[Value.bool ot, Value.string ox, Value.bool orr]] : List Value); exact HC2.out _) | (go_at_call_of 32 ([Value.agg #[Value.bool nt, Value.string nx, Value.bool nr]] : List Value); exact HC3.out _)))); refine wpQuiet_nil ?_; intro _ hwq; obtain ⟨xq, hwq2⟩ := hwq; subst hwq2)
          go_wp2_with fail
          go_meet
          case rel => exact ⟨true, rfl, ⟨fun h => (by cases h), fun h => absurd h HNO.out⟩, HBX.out.trans (xq.kept.mono HBX.out.size)⟩
        | true =>
          rw [hp] at HC1
          replace HC1 := Keep.mk HC1
          cases ho : flOk ⟨ot, ox, orr⟩ with
          | false =>
            have HNO : Keep (¬ POk cs k) := ⟨fun ⟨_, h, _⟩ => by rw [HCH.out, hp, ho] at h; simp at h⟩
            rw [ho] at HC2
            replace HC2 := Keep.mk HC2
            replace HC3 := Keep.mk HC3
            (haveI := later_any; refine wp_region_later (by kernel_rfl) (by kernel_rfl) ?_; (repeat (go_big_quiet_step (first | (go_at_call 26; exact HC1.out _) | (go_at_call_of 32 ([Value.agg #[Value.bool ot, Value.string ox, Value.bool orr]] : List Value); exact HC2.out _) | (go_at_call_of 32 ([Value.agg #[Value.bool nt, Value.string nx, Value.bool nr]] : List Value); exact HC3.out _)))); refine wpQuiet_nil ?_; intro _ hwq; obtain ⟨xq, hwq2⟩ := hwq; subst hwq2)
            go_wp2_with fail
            go_meet
            case rel => exact ⟨true, rfl, ⟨fun h => (by cases h), fun h => absurd h HNO.out⟩, HBX.out.trans (xq.kept.mono HBX.out.size)⟩
          | true =>
            rw [ho] at HC2
            replace HC2 := Keep.mk HC2
            cases hw : flOk ⟨nt, nx, nr⟩ with
            | false =>
              have HNO : Keep (¬ POk cs k) := ⟨fun ⟨_, h, _⟩ => by rw [HCH.out, hp, ho, hw] at h; simp at h⟩
              rw [hw] at HC3
              replace HC3 := Keep.mk HC3
              (haveI := later_any; refine wp_region_later (by kernel_rfl) (by kernel_rfl) ?_; (repeat (go_big_quiet_step (first | (go_at_call 26; exact HC1.out _) | (go_at_call_of 32 ([Value.agg #[Value.bool ot, Value.string ox, Value.bool orr]] : List Value); exact HC2.out _) | (go_at_call_of 32 ([Value.agg #[Value.bool nt, Value.string nx, Value.bool nr]] : List Value); exact HC3.out _)))); refine wpQuiet_nil ?_; intro _ hwq; obtain ⟨xq, hwq2⟩ := hwq; subst hwq2)
              go_wp2_with fail
              go_meet
              case rel => exact ⟨true, rfl, ⟨fun h => (by cases h), fun h => absurd h HNO.out⟩, HBX.out.trans (xq.kept.mono HBX.out.size)⟩
            | true =>
              rw [hw] at HC3
              replace HC3 := Keep.mk HC3
              cases hsm : sameF ⟨ot, ox, orr⟩ ⟨nt, nx, nr⟩ with
              | true =>
                have HNO : Keep (¬ POk cs k) := ⟨fun ⟨_, h, _⟩ => by rw [HCH.out, hsm] at h; simp at h⟩
                obtain ⟨h1, h2, h3⟩ := (same_iff _ _).1 hsm
                simp only at h1 h2 h3
                clear hsm
                have h2' : ox = nx := by rw [Lib.toList_data, Lib.toList_data] at h2; exact WideShapes.bytes_inj h2
                clear h2
                subst h1 h2' h3
                (haveI := later_any; refine wp_region_later (by kernel_rfl) (by kernel_rfl) ?_; (repeat (go_big_quiet_step (first | (go_at_call 26; exact HC1.out _) | (go_at_call_of 32 ([Value.agg #[Value.bool ot, Value.string ox, Value.bool orr]] : List Value); exact HC2.out _) | (go_at_call_of 32 ([Value.agg #[Value.bool nt, Value.string nx, Value.bool nr]] : List Value); exact HC3.out _)))); refine wpQuiet_nil ?_; intro _ hwq; obtain ⟨xq, hwq2⟩ := hwq; subst hwq2)
                go_wp2_with fail
                go_meet
                case rel => exact ⟨true, rfl, ⟨fun h => (by cases h), fun h => absurd h HNO.out⟩, HBX.out.trans (xq.kept.mono HBX.out.size)⟩
              | false =>
                have HOK : Keep (chOk cs[k] = true) := ⟨by rw [HCH.out, hp, ho, hw, hsm]; rfl⟩
                have hne : ¬ (ot = nt ∧ ox.toList = nx.toList ∧ orr = nr) := fun h => by
                  have := (same_iff ⟨ot, ox, orr⟩ ⟨nt, nx, nr⟩).2 h
                  rw [hsm] at this
                  cases this
                clear hsm HCH
                by_cases hk0 : k = 0
                · have hkd : decide (0 < k) = false := by simp [hk0]
                  have HYES : Keep (POk cs k) := ⟨⟨hlt, HOK.out, fun j hj => by omega⟩⟩
                  clear hk0
                  by_cases h1 : ot = nt
                  · by_cases h2 : ox.toList = nx.toList
                    · have h3 : ¬ orr = nr := fun h => hne ⟨h1, h2, h⟩
                      have h2' : ox = nx := by rw [Lib.toList_data, Lib.toList_data] at h2; exact WideShapes.bytes_inj h2
                      clear hne h2
                      subst h1 h2'
                      (haveI := later_any; refine wp_region_later (by kernel_rfl) (by kernel_rfl) ?_; (repeat (go_big_quiet_step (first | (go_at_call 26; exact HC1.out _) | (go_at_call_of 32 ([Value.agg #[Value.bool ot, Value.string ox, Value.bool orr]] : List Value); exact HC2.out _) | (go_at_call_of 32 ([Value.agg #[Value.bool ot, Value.string ox, Value.bool nr]] : List Value); exact HC3.out _)))); refine wpQuiet_nil ?_; intro _ hwq; obtain ⟨xq, hwq2⟩ := hwq; subst hwq2)
                      go_wp2_with fail
                      go_meet
                      case rel => exact ⟨false, rfl, ⟨fun _ => HYES.out, fun _ => rfl⟩, HBX.out.trans (xq.kept.mono HBX.out.size)⟩
                    · clear hne
                      subst h1
                      (haveI := later_any; refine wp_region_later (by kernel_rfl) (by kernel_rfl) ?_; (repeat (go_big_quiet_step (first | (go_at_call 26; exact HC1.out _) | (go_at_call_of 32 ([Value.agg #[Value.bool ot, Value.string ox, Value.bool orr]] : List Value); exact HC2.out _) | (go_at_call_of 32 ([Value.agg #[Value.bool ot, Value.string nx, Value.bool nr]] : List Value); exact HC3.out _)))); refine wpQuiet_nil ?_; intro _ hwq; obtain ⟨xq, hwq2⟩ := hwq; subst hwq2)
                      go_wp2_with fail
                      go_meet
                      case rel => exact ⟨false, rfl, ⟨fun _ => HYES.out, fun _ => rfl⟩, HBX.out.trans (xq.kept.mono HBX.out.size)⟩
                  · clear hne
                    (haveI := later_any; refine wp_region_later (by kernel_rfl) (by kernel_rfl) ?_; (repeat (go_big_quiet_step (first | (go_at_call 26; exact HC1.out _) | (go_at_call_of 32 ([Value.agg #[Value.bool ot, Value.string ox, Value.bool orr]] : List Value); exact HC2.out _) | (go_at_call_of 32 ([Value.agg #[Value.bool nt, Value.string nx, Value.bool nr]] : List Value); exact HC3.out _)))); refine wpQuiet_nil ?_; intro _ hwq; obtain ⟨xq, hwq2⟩ := hwq; subst hwq2)
                    go_wp2_with fail
                    go_meet
                    case rel => exact ⟨false, rfl, ⟨fun _ => HYES.out, fun _ => rfl⟩, HBX.out.trans (xq.kept.mono HBX.out.size)⟩
                · obtain ⟨j, rfl⟩ : ∃ j, k = j + 1 := ⟨k - 1, by omega⟩
                  have hpv : ∀ x : Later w2, x.world.cell? ⟨b, off + j * 7, none⟩ = some (.string cs[j].path) := fun x => cell_later x.kept (HP2.out j (by omega))
                  have hk0' : (0 : Int) < ((j + 1 : Nat) : Int) := by omega
                  have hkd : decide (0 < j + 1) = true := by simp
                  have htot := less_total cs[j].path.toList xp.toList
                  have HIFF : Keep (POk cs (j + 1) ↔ Op.bytesLess cs[j].path.toList xp.toList = true) := ⟨by
                    rw [← HXP.out]
                    constructor
                    · rintro ⟨_, _, h⟩; exact h j rfl (by omega)
                    · intro h
                      refine ⟨hlt, HOK.out, fun i hi hil => ?_⟩
                      obtain rfl : i = j := by omega
                      exact h⟩
                  obtain ⟨pp, hpp⟩ : ∃ pp, cs[j].path = pp := ⟨_, rfl⟩
                  rw [hpp] at hpv htot
                  replace HIFF : Keep (POk cs (j + 1) ↔ Op.bytesLess pp.toList xp.toList = true) := ⟨by rw [← hpp]; exact HIFF.out⟩
                  clear hpp HXP HP2 HPREV HOK hok
                  cases hl : Op.bytesLess pp.toList xp.toList with
                  | true =>
                    have hll : (Op.bytesLess xp.toList pp.toList || xp.toList == pp.toList) = false := by rw [← htot, hl]; rfl
                    have HYES : Keep (POk cs (j + 1)) := ⟨HIFF.out.2 hl⟩
                    clear htot HIFF
                    by_cases h1 : ot = nt
                    · by_cases h2 : ox.toList = nx.toList
                      · have h3 : ¬ orr = nr := fun h => hne ⟨h1, h2, h⟩
                        have h2' : ox = nx := by rw [Lib.toList_data, Lib.toList_data] at h2; exact WideShapes.bytes_inj h2
                        clear hne h2
                        subst h1 h2'
                        (haveI := later_any; refine wp_region_later (by kernel_rfl) (by kernel_rfl) ?_; (repeat (go_big_quiet_step (first | (go_at_call 26; exact HC1.out _) | (go_at_call_of 32 ([Value.agg #[Value.bool ot, Value.string ox, Value.bool orr]] : List Value); exact HC2.out _) | (go_at_call_of 32 ([Value.agg #[Value.bool ot, Value.string ox, Value.bool nr]] : List Value); exact HC3.out _)))); refine wpQuiet_nil ?_; intro _ hwq; obtain ⟨xq, hwq2⟩ := hwq; subst hwq2)
                        go_wp2_with fail
                        go_meet
                        case rel => exact ⟨false, rfl, ⟨fun _ => HYES.out, fun _ => rfl⟩, HBX.out.trans (xq.kept.mono HBX.out.size)⟩
                      · clear hne
                        subst h1
                        (haveI := later_any; refine wp_region_later (by kernel_rfl) (by kernel_rfl) ?_; (repeat (go_big_quiet_step (first | (go_at_call 26; exact HC1.out _) | (go_at_call_of 32 ([Value.agg #[Value.bool ot, Value.string ox, Value.bool orr]] : List Value); exact HC2.out _) | (go_at_call_of 32 ([Value.agg #[Value.bool ot, Value.string nx, Value.bool nr]] : List Value); exact HC3.out _)))); refine wpQuiet_nil ?_; intro _ hwq; obtain ⟨xq, hwq2⟩ := hwq; subst hwq2)
                        go_wp2_with fail
                        go_meet
                        case rel => exact ⟨false, rfl, ⟨fun _ => HYES.out, fun _ => rfl⟩, HBX.out.trans (xq.kept.mono HBX.out.size)⟩
                    · clear hne
                      (haveI := later_any; refine wp_region_later (by kernel_rfl) (by kernel_rfl) ?_; (repeat (go_big_quiet_step (first | (go_at_call 26; exact HC1.out _) | (go_at_call_of 32 ([Value.agg #[Value.bool ot, Value.string ox, Value.bool orr]] : List Value); exact HC2.out _) | (go_at_call_of 32 ([Value.agg #[Value.bool nt, Value.string nx, Value.bool nr]] : List Value); exact HC3.out _)))); refine wpQuiet_nil ?_; intro _ hwq; obtain ⟨xq, hwq2⟩ := hwq; subst hwq2)
                      go_wp2_with fail
                      go_meet
                      case rel => exact ⟨false, rfl, ⟨fun _ => HYES.out, fun _ => rfl⟩, HBX.out.trans (xq.kept.mono HBX.out.size)⟩
                  | false =>
                    have hll : (Op.bytesLess xp.toList pp.toList || xp.toList == pp.toList) = true := by rw [← htot, hl]; rfl
                    have HNO : Keep (¬ POk cs (j + 1)) := ⟨fun h => by have := HIFF.out.1 h; rw [hl] at this; cases this⟩
                    clear htot HIFF
                    by_cases h1 : ot = nt
                    · by_cases h2 : ox.toList = nx.toList
                      · have h3 : ¬ orr = nr := fun h => hne ⟨h1, h2, h⟩
                        have h2' : ox = nx := by rw [Lib.toList_data, Lib.toList_data] at h2; exact WideShapes.bytes_inj h2
                        clear hne h2
                        subst h1 h2'
                        (haveI := later_any; refine wp_region_later (by kernel_rfl) (by kernel_rfl) ?_; (repeat (go_big_quiet_step (first | (go_at_call 26; exact HC1.out _) | (go_at_call_of 32 ([Value.agg #[Value.bool ot, Value.string ox, Value.bool orr]] : List Value); exact HC2.out _) | (go_at_call_of 32 ([Value.agg #[Value.bool ot, Value.string ox, Value.bool nr]] : List Value); exact HC3.out _)))); refine wpQuiet_nil ?_; intro _ hwq; obtain ⟨xq, hwq2⟩ := hwq; subst hwq2)
                        go_wp2_with fail
                        go_meet
                        case rel => exact ⟨true, rfl, ⟨fun h => (by cases h), fun h => absurd h HNO.out⟩, HBX.out.trans (xq.kept.mono HBX.out.size)⟩
                      · clear hne
                        subst h1
                        (haveI := later_any; refine wp_region_later (by kernel_rfl) (by kernel_rfl) ?_; (repeat (go_big_quiet_step (first | (go_at_call 26; exact HC1.out _) | (go_at_call_of 32 ([Value.agg #[Value.bool ot, Value.string ox, Value.bool orr]] : List Value); exact HC2.out _) | (go_at_call_of 32 ([Value.agg #[Value.bool ot, Value.string nx, Value.bool nr]] : List Value); exact HC3.out _)))); refine wpQuiet_nil ?_; intro _ hwq; obtain ⟨xq, hwq2⟩ := hwq; subst hwq2)
                        go_wp2_with fail
                        go_meet
                        case rel => exact ⟨true, rfl, ⟨fun h => (by cases h), fun h => absurd h HNO.out⟩, HBX.out.trans (xq.kept.mono HBX.out.size)⟩
                    · clear hne
                      (haveI := later_any; refine wp_region_later (by kernel_rfl) (by kernel_rfl) ?_; (repeat (go_big_quiet_step (first | (go_at_call 26; exact HC1.out _) | (go_at_call_of 32 ([Value.agg #[Value.bool ot, Value.string ox, Value.bool orr]] : List Value); exact HC2.out _) | (go_at_call_of 32 ([Value.agg #[Value.bool nt, Value.string nx, Value.bool nr]] : List Value); exact HC3.out _)))); refine wpQuiet_nil ?_; intro _ hwq; obtain ⟨xq, hwq2⟩ := hwq; subst hwq2)
                      go_wp2_with fail
                      go_meet
                      case rel => exact ⟨true, rfl, ⟨fun h => (by cases h), fun h => absurd h HNO.out⟩, HBX.out.trans (xq.kept.mono HBX.out.size)⟩
      case rest =>
        obtain ⟨bl, rfl, hbl, hb3⟩ := hcut
        have hbw3 := hal.trans (hb3.mono hal.size)
        cases bl with
        | true =>
          have hbad : ¬ ValidP cs := fun hv => by have := hbl.2 (hv.2 k hlt); cases this
          go_wp2
          go_ret
          exact VpPost.no hbad hbw3
        | false =>
          have HP : Keep (∀ j, j < k + 1 → POk cs j) := ⟨fun j hj => by
            by_cases e : j = k
            · subst e; exact hbl.1 rfl
            · exact hok.out j (by omega)⟩
          clear hbl
          go_wp2
          go_roundw
          case rel => exact ⟨k + 1, by congr 1, hlt, HP, hb3⟩
          case measure => simp only [intOf]; omega
    · obtain rfl : k = cs.length := by omega
      go_wp2
      go_ret
      exact ⟨true, rfl, ⟨fun _ => ⟨by omega, hok.out⟩, fun _ => rfl⟩, hb⟩
end Go.Proofs.Ytcapcjojlpljiaa
