/-
  Frames, plainly: what Encode writes. No program is named here.
-/
import Derived.Test.YtdlbmjmhlcaalaaSums
import Derived.Test.YtdlbmjmhlcaalaaBase
import Derived.Test.YtdlbmjmhlcaalaaStrsB
import Derived.Laws.IdiomStrings
import Derived.Laws.BytesArg
namespace Go.Proofs.Ytdlbmjmhlcaalaa
open Go.RowKit

def okS (s : ByteArray) : Bool := decide (1 ≤ s.size) && decide (s.size ≤ 1000)
def pays (ss : List ByteArray) : Bool := decide (ss.length ≤ 500) && ss.all okS
def frameL (s : ByteArray) (n : Nat) : List UInt8 := shortL s.size ++ s.data.toList ++ (sumStr s.data.toList n).data.toList
def encL (ss : List ByteArray) (n : Nat) : List UInt8 := ss.flatMap fun s => frameL s n
def encV (ss : List ByteArray) (m : Int) : ByteArray := if isW m && pays ss then ⟨(encL ss m.toNat).toArray⟩ else ⟨#[]⟩

theorem okS_iff {s : ByteArray} : okS s = true ↔ 1 ≤ s.size ∧ s.size ≤ 1000 := by simp [okS]
theorem encL_take (ss : List ByteArray) (n k : Nat) (h : k < ss.length) : encL (ss.take (k + 1)) n = encL (ss.take k) n ++ frameL ss[k] n := by
  unfold encL; rw [List.take_succ_eq_append_getElem h, List.flatMap_append]; simp
theorem sum_len (l : List UInt8) (n : Nat) : (sumStr l n).data.toList.length = n := by
  have : (sumStr l n).size = n := by unfold sumStr; rw [strOfNums_size, sumL_len]
  rw [Array.length_toList]; exact this
theorem frameL_len (s : ByteArray) (n : Nat) (hs : s.size ≤ 1000) (hn : n ≤ 8) : (frameL s n).length ≤ 1018 := by
  unfold frameL
  have h1 := shortL_le (n := s.size) (by omega)
  have h2 : s.data.toList.length = s.size := by rw [Array.length_toList]; rfl
  rw [List.length_append, List.length_append, sum_len]
  omega
theorem encL_len (ss : List ByteArray) (n : Nat) (h : ∀ s ∈ ss, s.size ≤ 1000) (hn : n ≤ 8) : (encL ss n).length ≤ 1018 * ss.length := by
  induction ss with
  | nil => simp [encL]
  | cons s l ih =>
    have h1 := ih fun x hx => h x (List.mem_cons_of_mem _ hx)
    have h2 := frameL_len s n (h s List.mem_cons_self) hn
    simp only [encL, List.flatMap_cons, List.length_append, List.length_cons] at h1 ⊢
    omega
theorem pays_true {ss : List ByteArray} (h : pays ss = true) : ss.length ≤ 500 ∧ ∀ s ∈ ss, 1 ≤ s.size ∧ s.size ≤ 1000 := by
  simp only [pays, Bool.and_eq_true, decide_eq_true_eq, List.all_eq_true] at h
  exact ⟨h.1, fun s hs => okS_iff.1 (h.2 s hs)⟩
theorem pays_long {ss : List ByteArray} (h : 500 < ss.length) : pays ss = false := by
  simp [pays]; omega
theorem pays_at {ss : List ByteArray} {k : Nat} (hk : k < ss.length) (h : okS ss[k] = false) : pays ss = false := by
  cases hp : pays ss
  · rfl
  · have := okS_iff.2 ((pays_true hp).2 _ (List.getElem_mem hk))
    rw [this] at h; cases h
theorem pays_all {ss : List ByteArray} (hl : ss.length ≤ 500) (h : ∀ j (hj : j < ss.length), okS ss[j] = true) : pays ss = true := by
  simp only [pays, Bool.and_eq_true, decide_eq_true_eq, List.all_eq_true]
  refine ⟨hl, fun s hs => ?_⟩
  obtain ⟨j, hj, rfl⟩ := List.getElem_of_mem hs
  exact h j hj

theorem conv_back {w : World} {base : Nat} {v : Value} {l : List UInt8} {n : Nat} {xs : List Value} (hn : n = l.length) (hx : xs = bc l) (h : w.ownsRow base 5 1 v n xs) : (convert 39 9 v).run Try.prog w = .ok (.string ⟨l.toArray⟩) w := by
  subst hn hx
  rcases h.2 with ⟨hv, h0⟩ | ⟨g, cap, cur, hv, _⟩
  · obtain rfl : l = [] := List.eq_nil_of_length_eq_zero h0
    subst hv
    exact run_convert_bytes_nil (P := Try.prog) w 39 5 Try.underlying39 Try.underlying5 0 0 9 Try.underlying9
  · subst hv
    exact run_convert_bytes_back (P := Try.prog) w 39 9 5 ⟨g, 0, none⟩ cap l Try.underlying39 Try.underlying5 Try.underlying9 (fun j hj => by
      rw [Go.WideShapes.add_plain, Nat.zero_add, h.cellAt j (by omega)]
      simp [bc, hj])
end Go.Proofs.Ytdlbmjmhlcaalaa
