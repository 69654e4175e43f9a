/-
  Texts cut at each slash; what is a part; what is a path: plain.
-/
import Derived.Test.YtockgapdfcapnaaCutAt
namespace Go.Proofs.Ytockgapdfcapnaa
open Go.RowKit Go.Lib

/-- A fact that the walk does not read. -/
structure Keep (p : Prop) : Prop where
  out : p

/-- A list of bytes cut at each slash. -/
def splitS : List UInt8 → List (List UInt8)
  | [] => [[]]
  | c :: cs => if c = 47 then [] :: splitS cs else match splitS cs with
    | [] => [[c]]
    | p :: ps => (c :: p) :: ps

theorem splitS_ne : ∀ l, splitS l ≠ []
  | [] => by simp [splitS]
  | c :: cs => by
    unfold splitS
    split
    · simp
    · split <;> simp

theorem splitS_none : ∀ (l : List UInt8), (∀ k : Nat, l[k]? ≠ some 47) → splitS l = [l]
  | [], _ => rfl
  | c :: cs, h => by
    have hc : c ≠ 47 := fun e => h 0 (by simp [e])
    have ih := splitS_none cs (fun k => by have := h (k + 1); simpa using this)
    unfold splitS
    rw [if_neg hc, ih]

theorem splitS_at : ∀ (l : List UInt8) (o : Nat), l[o]? = some 47 → (∀ k, k < o → l[k]? ≠ some 47) → splitS l = l.take o :: splitS (l.drop (o + 1))
  | [], o, h, _ => by simp at h
  | c :: cs, 0, h, _ => by
    have hc : c = 47 := by simpa using h
    rw [splitS, if_pos hc]
    simp
  | c :: cs, o + 1, h, hk => by
    have hc : c ≠ 47 := fun e => hk 0 (by omega) (by simp [e])
    have ih := splitS_at cs o (by simpa using h) (fun k hlt => by have := hk (k + 1) (by omega); simpa using this)
    rw [splitS]
    rw [if_neg hc, ih]
    simp

def mkB (l : List UInt8) : ByteArray := ⟨l.toArray⟩
theorem mkB_data (s : ByteArray) : mkB s.data.toList = s := by cases s; simp [mkB]
theorem mkB_list (l : List UInt8) : (mkB l).data.toList = l := by simp [mkB]
theorem mkB_size (l : List UInt8) : (mkB l).size = l.length := by simp [mkB, ByteArray.size]

def partsB (s : ByteArray) : List ByteArray := (splitS s.data.toList).map mkB

theorem extract_mkB (s : ByteArray) (i j : Nat) : s.extract i j = mkB ((s.data.toList.drop i).take (j - i)) := by
  rw [Lib.extract_eq]
  rfl

theorem partsB_cut (s : ByteArray) : partsB s = cutHead s :: (if cutMore s = true then partsB (cutRest s) else []) := by
  rcases slash_cases s with hix | ⟨i, hix, hroom⟩
  · have e1 : cutHead s = s := by simp [cutHead, hix]
    have e3 : cutMore s = false := by simp [cutMore, hix]
    rw [e1, e3]
    have h := Lib.indexByte_none hix
    simp [partsB, splitS_none _ h, mkB_data]
  · have e1 : cutHead s = s.extract 0 i := by simp [cutHead, hix]
    have e2 : cutRest s = s.extract (i + 1) s.size := by simp [cutRest, hix]
    have e3 : cutMore s = true := by simp [cutMore, hix]
    obtain ⟨h1, h2⟩ := Lib.indexByte_some hix
    rw [e1, e2, e3]
    have e4 : (mkB ((s.data.toList.drop (i + 1)).take (s.size - (i + 1)))).data.toList = s.data.toList.drop (i + 1) := by
      rw [mkB_list]
      exact List.take_of_length_le (by rw [List.length_drop, ← Lib.size_eq]; exact Nat.le_refl _)
    simp only [if_true]
    rw [partsB, splitS_at _ i h1 h2, extract_mkB, extract_mkB, partsB, e4]
    simp

theorem cutHead_size (s : ByteArray) : (cutHead s).size ≤ s.size := by
  rcases slash_cases s with hix | ⟨i, hix, hroom⟩
  · simp [cutHead, hix]
  · simp [cutHead, hix]; omega

theorem cutRest_size (s : ByteArray) : (cutRest s).size + (if cutMore s = true then 1 else 0) ≤ s.size := by
  rcases slash_cases s with hix | ⟨i, hix, hroom⟩
  · simp [cutRest, cutMore, hix]
  · simp [cutRest, cutMore, hix]; omega

/-- The bytes of a glob's part; of a path's. -/
def globB (r : Int) : Bool := decide (33 ≤ r) && decide (r ≤ 126) && !(r == 47) && !(r == 34)
def pathB (r : Int) : Bool := globB r && !(r == 42) && !(r == 63)

/-- A part: of 1 to 20 bytes that may stand in it, not `.` and not `..`. -/
def partOk (p : Int → Bool) (s : ByteArray) : Bool :=
  decide (1 ≤ s.size) && decide (s.size ≤ 20) && !(s.toList == [46]) && !(s.toList == [46, 46]) && s.data.toList.all (fun c => p (c.toNat : Int))

def pathOk (p : Int → Bool) (s : ByteArray) : Bool := decide ((partsB s).length ≤ 6) && (partsB s).all (partOk p)

theorem partOk_size {p : Int → Bool} {s : ByteArray} (h : partOk p s = true) : s.size ≤ 20 := by
  simp [partOk] at h; omega

/-- Parts and the slashes between them. -/
theorem splitS_length : ∀ (l : List UInt8), l.length + 1 = ((splitS l).map (fun p => p.length + 1)).sum
  | [] => by simp [splitS]
  | c :: cs => by
    have ih := splitS_length cs
    have hn := splitS_ne cs
    unfold splitS
    split
    · simp; omega
    · split
      · rename_i he; exact absurd he hn
      · rename_i p ps he
        rw [he] at ih
        simp at ih ⊢
        omega

theorem sum_le : ∀ (ls : List (List UInt8)), (∀ p ∈ ls, p.length ≤ 20) → (ls.map (fun p => p.length + 1)).sum ≤ 21 * ls.length
  | [], _ => by simp
  | p :: ps, h => by
    have h1 := h p (by simp)
    have h2 := sum_le ps (fun q hq => h q (by simp [hq]))
    simp
    omega

theorem part_le : ∀ (ls : List (List UInt8)) (q : List UInt8), q ∈ ls → q.length + 1 ≤ (ls.map (fun p => p.length + 1)).sum
  | [], q, h => by simp at h
  | p :: ps, q, h => by
    simp only [List.map_cons, List.sum_cons]
    rcases List.mem_cons.1 h with rfl | h
    · omega
    · have := part_le ps q h; omega
theorem parts_size {s x : ByteArray} (h : x ∈ partsB s) : x.size ≤ s.size := by
  obtain ⟨q, hq, rfl⟩ := List.mem_map.1 h
  have h1 := part_le _ q hq
  have h2 := splitS_length s.data.toList
  have h3 : s.data.toList.length = s.size := (Lib.size_eq s).symm
  rw [mkB_size]
  omega

theorem pathOk_size {p : Int → Bool} {s : ByteArray} (h : pathOk p s = true) : s.size ≤ 126 := by
  simp only [pathOk, Bool.and_eq_true, decide_eq_true_eq] at h
  obtain ⟨h1, h2⟩ := h
  have h3 := splitS_length s.data.toList
  have h4 := sum_le (splitS s.data.toList) (fun q hq => by
    have := List.all_eq_true.1 h2 (mkB q) (List.mem_map_of_mem hq)
    have := partOk_size this
    rw [mkB_size] at this
    exact this)
  have h5 : (splitS s.data.toList).length ≤ 6 := by simpa [partsB] using h1
  have h6 : s.data.toList.length = s.size := (Lib.size_eq s).symm
  omega
end Go.Proofs.Ytockgapdfcapnaa
