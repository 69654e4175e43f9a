/-
  spec.l9Find, over a slice of lines.
-/
import Derived.Test.YtlgdfeacnalekaaDoorShowR
namespace Go.Proofs.YtlgdfeacnalekaaDoor
open Go.RowKit

/-- A line as spec has it. -/
def slV (d : DL) : Value := .agg #[.int .u8 d.kind.toNat, .string d.name, .string d.dig]
def slcell (d : DL) : List Value := [.int .u8 d.kind.toNat, .string d.name, .string d.dig]
def slcells (ds : List DL) : List Value := ds.flatMap slcell
/-- A slice of lines that is read. -/
def LSp (w : World) (b : Nat) (ds : List DL) : Prop := ∀ i (h : i < ds.length), w.cell? ⟨b, i * 3, none⟩ = some (.int .u8 ds[i].kind.toNat) ∧ w.cell? ⟨b, i * 3 + 1, none⟩ = some (.string ds[i].name) ∧ w.cell? ⟨b, i * 3 + 2, none⟩ = some (.string ds[i].dig)
theorem LSp.later {w w' : World} {b : Nat} {ds : List DL} (h : LSp w b ds) (hb : Below w.heap.size w w') : LSp w' b ds := fun i hi => ⟨cell_later hb (h i hi).1, cell_later hb (h i hi).2.1, cell_later hb (h i hi).2.2⟩
def lkV (o : Option DL) : Value := match o with
  | some d => slV d
  | none => .agg #[.int .u8 0, .string ⟨#[]⟩, .string ⟨#[]⟩]

set_option maxRecDepth 20000 in
set_option maxHeartbeats 4000000 in
theorem l9Find_any (b cap : Nat) (ds : List DL) (n : ByteArray) (w : World) (hd : LSp w b ds) (hn : ds.length ≤ 1048576) :
    Calls Tryd.prog 16 #[.slice (some ⟨b, 0, none⟩) ds.length cap, .string n] w fun e w' => e = .returned (lkV (lk ds n)) ∧ Below w.heap.size w w' := by
  have hal := belowS_one w (.cells #[.int .u8 0, .string ⟨#[]⟩, .string ⟨#[]⟩] 46)
  have hd2 := hd.later hal
  have r0 : (w.alloc (.cells #[.int .u8 0, .string ⟨#[]⟩, .string ⟨#[]⟩] 46)).cell? ⟨w.heap.size, 0, none⟩ = some (.int .u8 0) := by simp [go_sem]
  have r1 : (w.alloc (.cells #[.int .u8 0, .string ⟨#[]⟩, .string ⟨#[]⟩] 46)).cell? ⟨w.heap.size, 1, none⟩ = some (.string ⟨#[]⟩) := by simp [go_sem]
  have r2 : (w.alloc (.cells #[.int .u8 0, .string ⟨#[]⟩, .string ⟨#[]⟩] 46)).cell? ⟨w.heap.size, 2, none⟩ = some (.string ⟨#[]⟩) := by simp [go_sem]
  have rf : ∀ j, (w.alloc (.cells #[.int .u8 0, .string ⟨#[]⟩, .string ⟨#[]⟩] 46)).frozen? ⟨w.heap.size, j, none⟩ = false := fun j => by simp [go_sem]
  go_enter Tryd.func16, Tryd.ntmps16
  go_upto_region 1 with fail
  generalize w.alloc (.cells #[.int .u8 0, .string ⟨#[]⟩, .string ⟨#[]⟩] 46) = W at *
  obtain ⟨rb, hrb⟩ : ∃ x, x = w.heap.size := ⟨_, rfl⟩
  rw [← hrb] at r0 r1 r2 rf ⊢
  have HRB : Keep (rb = w.heap.size) := ⟨hrb⟩
  clear hrb
  go_wp2
  go_loopw [5] (fun i wr => ∃ (k : Nat), k ≤ ds.length ∧ i = .int .i64 k ∧ Keep (lk ds n = lk (ds.drop k) n) ∧ wr = W) (fun i _ => ds.length - (intOf i).toNat)
  case atStart => exact ⟨0, Nat.zero_le _, rfl, ⟨by simp⟩, rfl⟩
  case round =>
    obtain ⟨k, hk, rfl, HK, rfl⟩ := hrel
    by_cases hlt : k < ds.length
    · obtain ⟨c0, c1, c2⟩ := hd2 k hlt
      have HD : Keep (ds.drop k = ds[k] :: ds.drop (k + 1)) := ⟨List.drop_eq_getElem_cons hlt⟩
      cases he : (ds[k].name.toList == n.toList) with
      | true =>
        obtain ⟨k0, k1, k2, kb⟩ := ret3 (.int .u8 ds[k].kind.toNat) (.string ds[k].name) (.string ds[k].dig) r0 r1 r2 hal (Nat.le_of_eq HRB.out.symm)
        have HP : Keep (lk ds n = some ds[k]) := ⟨by rw [HK.out, HD.out]; unfold lk; rw [List.find?_cons, he]⟩
        go_wp2
        refine bodyPost_ret (v := .agg #[.int .u8 ds[k].kind.toNat, .string ds[k].name, .string ds[k].dig]) ?_ rfl ⟨by rw [HP.out]; rfl, kb⟩
        go_light
        simp [results, Tryd.results16, go_sem, k0, k1, k2]
      | false =>
        go_wp2
        go_roundw
        case rel => exact ⟨k + 1, by omega, by go_num, ⟨by rw [HK.out, HD.out]; unfold lk; rw [List.find?_cons, he]⟩, trivial⟩
        case measure => simp [intOf]; omega
    · obtain rfl : k = ds.length := by omega
      obtain ⟨k0, k1, k2, kb⟩ := ret3 (.int .u8 0) (.string ⟨#[]⟩) (.string ⟨#[]⟩) r0 r1 r2 hal (Nat.le_of_eq HRB.out.symm)
      have HP : Keep (lk ds n = none) := ⟨by rw [HK.out, List.drop_length]; rfl⟩
      go_wp2
      refine bodyPost_ret (v := .agg #[.int .u8 0, .string ⟨#[]⟩, .string ⟨#[]⟩]) ?_ rfl ⟨by rw [HP.out]; rfl, kb⟩
      go_light
      simp [results, Tryd.results16, go_sem, k0, k1, k2]
end Go.Proofs.YtlgdfeacnalekaaDoor
