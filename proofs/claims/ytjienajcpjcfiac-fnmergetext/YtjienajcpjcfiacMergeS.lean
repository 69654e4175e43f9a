/-
  spec.l7With, l7Text, l7Three: what spec.MergeText calls.
-/
import Derived.Test.YtjienajcpjcfiacMergeP
import Derived.Test.YtjienajcpjcfiacPairB
namespace Go.Proofs.Ytjienajcpjcfiac
open Go.RowKit

/-- A slice of lines that is read. -/
structure RdL (w : World) (v : Value) (ls : List ByteArray) : Prop where
  at_ : ∃ a cap, v = .slice a ls.length cap ∧ ls.length ≤ cap ∧ SS w a ls
theorem RdL.below {w w' : World} {v : Value} {ls : List ByteArray} (h : RdL w v ls) (hb : Below w.heap.size w w') : RdL w' v ls := by
  obtain ⟨a, cap, e, hc, hp⟩ := h.at_
  exact ⟨a, cap, e, hc, hp.below hb⟩

set_option maxRecDepth 100000 in
/-- A stretch of a slice of lines. -/
theorem mid_at {w : World} {a : Option Addr} {cap : Nat} {ls : List ByteArray} {i j : Nat} (hc : ls.length ≤ cap) (h : SS w a ls) (hij : i ≤ j) (hj : j ≤ ls.length) :
    ∃ v, (∀ w1, (Instr.sliceAt 40 (.slice a ls.length cap) (some (.int .i64 (i : Int))) (some (.int .i64 (j : Int))) none).run Try.prog w1 = .ok v w1) ∧ RdL w v ((ls.take j).drop i) := by
  refine ⟨sliced a i j cap 1, fun w1 => ?_, ⟨?_⟩⟩
  · rw [run_sliceAt_slice w1 _ _ _ _ _ Try.underlying40, run_slice_lh w1 _ _ _ _ Try.underlying40 .i64 .i64 i j (by omega) (by omega) (by omega)]
    have hz : (sizeOf (Try.prog.elem 40)).run Try.prog w1 = .ok 1 w1 := by kernel_rfl
    rw [hz]
    rfl
  · have hl : ((ls.take j).drop i).length = j - i := by simp; omega
    refine ⟨if cap = i then a else a.map (·.add (i * 1)), cap - i, ?_, by rw [hl]; omega, ?_⟩
    · unfold sliced
      rw [hl]
    · by_cases h0 : j - i = 0
      · left
        exact List.eq_nil_of_length_eq_zero (by omega)
      · obtain ⟨b, o, rfl, hcell⟩ := h.at (k := 0) (by omega)
        right
        refine ⟨b, o + i, ?_, fun k hk => ?_⟩
        · rw [if_neg (by omega)]
          simp [Addr.add]
        · rw [hl] at hk
          have := hcell (i + k) (by omega)
          rw [show o + i + k = o + (i + k) by omega, this]
          simp

def withV (o : Option Nat) : Value := match o with
  | none => .int .i64 (-1)
  | some y => .int .i64 (y : Int)

theorem withP_take {ps : List (Nat × Nat)} {n k : Nat} (h : ∀ i (hi : i < ps.length), i < k → ps[i].1 ≠ n) : withP ps n = withP (ps.drop k) n := by
  induction ps generalizing k with
  | nil => simp
  | cons p ps ih =>
    cases k with
    | zero => rfl
    | succ k =>
      have h0 := h 0 (by simp) (by omega)
      simp only [List.getElem_cons_zero] at h0
      rw [withP, if_neg h0, List.drop_succ_cons]
      exact ih (fun i hi hk => by have := h (i + 1) (by simpa using hi) (by omega); simpa using this)

set_option maxRecDepth 20000 in
set_option maxHeartbeats 2000000 in
theorem l7With_any (a : Option Addr) (cap : Nat) (ps : List (Nat × Nat)) (n : Nat) (w : World) (h : PS w a ps) (hl : ps.length ≤ 1500) :
    Calls Try.prog 65 #[.slice a ps.length cap, .int .i64 (n : Int)] w fun e w' => e = .returned (withV (withP ps n)) ∧ w = w' := by
  go_enter Try.func65, Try.ntmps65
  go_wp2
  go_loopw [5] (fun i wr => ∃ k : Nat, k ≤ ps.length ∧ i = .int .i64 (k : Int) ∧ NKeep (∀ i (hi : i < ps.length), i < k → ps[i].1 ≠ n) ∧ w = wr) (fun i _ => ps.length - (intOf i).toNat)
  case atStart => exact ⟨0, Nat.zero_le _, rfl, ⟨fun _ _ h => by omega⟩, rfl⟩
  case round =>
    obtain ⟨k, hk, rfl, HK, rfl⟩ := hrel
    by_cases hlt : k < ps.length
    · obtain ⟨b, off, rfl, hc⟩ := h.at hlt
      obtain ⟨x0, x1⟩ := hc k hlt
      have HW : NKeep (withP ps n = withP (ps.drop k) n) := ⟨withP_take HK.out⟩
      have HD : NKeep (ps.drop k = ps[k] :: ps.drop (k + 1)) := ⟨List.drop_eq_getElem_cons hlt⟩
      obtain ⟨pi, hpi⟩ : ∃ pi, ps[k].1 = pi := ⟨_, rfl⟩
      obtain ⟨pj, hpj⟩ : ∃ pj, ps[k].2 = pj := ⟨_, rfl⟩
      rw [hpi] at x0
      rw [hpj] at x1
      have HP : NKeep (ps[k].1 = pi ∧ ps[k].2 = pj) := ⟨hpi, hpj⟩
      clear hc hpi hpj
      by_cases he : pi = n
      · have heI : (pi : Int) = (n : Int) := by omega
        have HF : NKeep (withP ps n = some pj) := ⟨by rw [HW.out, HD.out, withP, if_pos (by rw [HP.out.1]; exact he), HP.out.2]⟩
        go_wp2
        go_ret
        rw [HF.out]
        exact ⟨rfl, rfl⟩
      · have heB : ((pi : Int) == (n : Int)) = false := by simp; omega
        go_wp2
        go_roundw
        case rel =>
          refine ⟨k + 1, by omega, by go_num, ⟨fun i hi hik => ?_⟩, ?_⟩
          rotate_left
          · first | trivial | rfl
          by_cases e : i = k
          · subst e; rw [HP.out.1]; exact he
          · exact HK.out i hi (by omega)
        case measure => simp [intOf]; omega
    · obtain rfl : k = ps.length := by omega
      have HF : NKeep (withP ps n = none) := ⟨by rw [withP_take HK.out, List.drop_length]; rfl⟩
      go_wp2
      go_ret
      rw [HF.out]
      exact ⟨rfl, rfl⟩

theorem Try.infoByteM : (Try.prog.info? 5).map (fun i => (i.zero, i.size, i.bytes)) = some (some (.int .u8 0), 1, 1) := by kernel_rfl

theorem conv_bk {w : World} {base : Nat} {v : Value} {l : List UInt8} {n : Nat} {xs : List Value} (hn : n = l.length) (hx : xs = bc l) (h : w.ownsRow base 5 1 v n xs) : (convert 34 9 v).run Try.prog w = .ok (.string (lnB l)) w := by
  subst hn hx
  rcases h.2 with ⟨hv, h0⟩ | ⟨g, cap, cur, hv, _⟩
  · obtain rfl : l = [] := List.eq_nil_of_length_eq_zero h0
    subst hv
    exact run_convert_bytes_nil (P := Try.prog) w 34 5 Try.underlying34 Try.underlying5 0 0 9 Try.underlying9
  · subst hv
    exact run_convert_bytes_back (P := Try.prog) w 34 9 5 ⟨g, 0, none⟩ cap l Try.underlying34 Try.underlying5 Try.underlying9 (fun j hj => by
      rw [Go.WideShapes.add_plain, Nat.zero_add, h.cellAt j (by omega)]
      simp [bc, hj])

/-- Lines, one behind the other. -/
def catL (ls : List ByteArray) : List UInt8 := (ls.map (fun l => l.data.toList)).flatten
theorem catL_take {ls : List ByteArray} {k : Nat} (h : k < ls.length) : catL (ls.take (k + 1)) = catL (ls.take k) ++ ls[k].data.toList := by
  unfold catL
  rw [List.take_succ_eq_append_getElem h, List.map_append, List.flatten_append]
  simp only [List.map_cons, List.map_nil, List.flatten_cons, List.flatten_nil, List.append_nil]
theorem catL_le (ls : List ByteArray) (k : Nat) : (catL (ls.take k)).length ≤ (catL ls).length := sub_flat ((List.take_sublist k ls).map _)

set_option maxRecDepth 20000 in
set_option maxHeartbeats 2000000 in
theorem l7Text_any (v : Value) (ls : List ByteArray) (w : World) (h : RdL w v ls) (hl : ls.length ≤ 100000) (hs : (catL ls).length ≤ 1000000) :
    Calls Try.prog 108 #[v] w fun e w' => e = .returned (.string (lnB (catL ls))) ∧ Below w.heap.size w w' := by
  obtain ⟨ti, hti, hz0, hz1, hz2⟩ := info_parts Try.infoByteM
  obtain ⟨a, cap, rfl, hc, hss⟩ := h.at_
  have hnil : (w.alloc (.cells #[] 5)).ownsRow w.heap.size 5 1 (.slice (some ⟨w.heap.size, 0, none⟩) 0 0) 0 [] := ⟨by simp, .inr ⟨w.heap.size, 0, #[], rfl, Nat.le_refl _, heap_alloc_new w _, Nat.le_refl _, by unfold maxLen; omega, rfl, by simp⟩⟩
  go_enter Try.func108, Try.ntmps108
  go_wp2
  go_loopw [3, 4] (fun v i wr => ∃ k : Nat, k ≤ ls.length ∧ i = .int .i64 (k : Int) ∧ wr.ownsRow w.heap.size 5 1 v (catL (ls.take k)).length (bc (catL (ls.take k))) ∧ Below w.heap.size w wr) (fun _ i _ => ls.length - (intOf i).toNat)
  case atStart => exact ⟨0, Nat.zero_le _, rfl, by rw [List.take_zero]; exact hnil, (Below.refl _ _).alloc (Nat.le_refl _) _⟩
  case round =>
    obtain ⟨k, hk, rfl, hown, hb⟩ := hrel
    have hbs := hb.size
    by_cases hlt : k < ls.length
    · obtain ⟨b, off, rfl, hcl⟩ := (hss.below hb).at hlt
      have hck := hcl k hlt
      have HT : NKeep (catL (ls.take (k + 1)) = catL (ls.take k) ++ ls[k].data.toList) := ⟨catL_take hlt⟩
      have h1 := catL_le ls k
      have h2 := catL_le ls (k + 1)
      rw [HT.out, List.length_append, ← Lib.size_eq] at h2
      clear hcl
      go_wp2_with (at_builtin; refine Go.Lib.wpList_append_own_string _ rfl _ _ 34 9 rfl w.heap.size 5 ti Try.underlying34 Try.underlying9 hti hz0 hz1 hz2 _ _ _ rfl hown ls[k] rfl (by unfold maxLen; omega) (by omega) (by omega) ?_; intro v2 w2 hown2 hgrow2 _)
      go_roundw
      case rel =>
        refine ⟨k + 1, by omega, by go_num, ?_, hb.grown hgrow2 hbs (owns_base hown)⟩
        rw [HT.out, List.length_append, bc_append, ← Lib.size_eq]
        exact hown2
      case measure => simp [intOf]; omega
    · obtain rfl : k = ls.length := by omega
      rw [List.take_length] at hown
      have hcv := conv_bk rfl rfl hown
      go_wp2
      go_ret
      exact ⟨rfl, hb⟩

set_option maxHeartbeats 2000000 in
theorem l7Three_any (v1 v2 v3 : Value) (l1 l2 l3 : List ByteArray) (w : World) (h1 : RdL w v1 l1) (h2 : RdL w v2 l2) (h3 : RdL w v3 l3) (k1 : l1.length ≤ 100000) (k2 : l2.length ≤ 100000) (k3 : l3.length ≤ 100000) (s1 : (catL l1).length ≤ 1000000) (s2 : (catL l2).length ≤ 1000000) (s3 : (catL l3).length ≤ 1000000) :
    Calls Try.prog 66 #[v1, v2, v3] w fun e w' => e = .returned (match three (catL l1) (catL l2) (catL l3) with
      | none => .tuple #[.string ⟨#[]⟩, .bool false]
      | some s => .tuple #[.string (lnB s), .bool true]) ∧ Below w.heap.size w w' := by
  have c1 := fun W (hb : Below w.heap.size w W) => l7Text_any v1 l1 W (h1.below hb) k1 s1
  have c2 := fun W (hb : Below w.heap.size w W) => l7Text_any v2 l2 W (h2.below hb) k2 s2
  have c3 := fun W (hb : Below w.heap.size w W) => l7Text_any v3 l3 W (h3.below hb) k3 s3
  have hne : ∀ {x y : List UInt8}, ¬ x = y → ((lnB x).toList == (lnB y).toList) = false := fun h => bs_diff (fun e => h (lnB_inj e))
  have hqe : ∀ {x y : List UInt8}, x = y → ((lnB x).toList == (lnB y).toList) = true := fun h => bs_same (by rw [h])
  generalize catL l1 = x at *
  generalize catL l2 = y at *
  generalize catL l3 = z at *
  clear h1 h2 h3 k1 k2 k3 s1 s2 s3
  have run : ∀ (Q : Ending → World → Prop), True := fun _ => trivial
  clear run
  unfold three
  by_cases e1 : y = x
  · have b1 := hqe e1
    rw [if_pos e1]
    clear e1 hne hqe
    go_enter Try.func66, Try.ntmps66
    go_wp2_with fail
    refine (c1 _ (Below.refl _ _)).mono ?_
    rintro e w1 ⟨rfl, hb1⟩
    go_wp2_with fail
    refine (c2 _ hb1).mono ?_
    rintro e w2 ⟨rfl, hb2⟩
    have hx2 := hb1.trans (hb2.mono hb1.size)
    go_wp2_with fail
    refine (c3 _ hx2).mono ?_
    rintro e w3 ⟨rfl, hb3⟩
    have hx3 := hx2.trans (hb3.mono hx2.size)
    go_wp2
    go_ret2
    exact ⟨rfl, hx3⟩
  · have b1 := hne e1
    rw [if_neg e1]
    by_cases e2 : z = x
    · have b2 := hqe e2
      rw [if_pos (.inl e2)]
      clear e1 e2 hne hqe
      go_enter Try.func66, Try.ntmps66
      go_wp2_with fail
      refine (c1 _ (Below.refl _ _)).mono ?_
      rintro e w1 ⟨rfl, hb1⟩
      go_wp2_with fail
      refine (c2 _ hb1).mono ?_
      rintro e w2 ⟨rfl, hb2⟩
      have hx2 := hb1.trans (hb2.mono hb1.size)
      go_wp2_with fail
      refine (c3 _ hx2).mono ?_
      rintro e w3 ⟨rfl, hb3⟩
      have hx3 := hx2.trans (hb3.mono hx2.size)
      go_wp2
      go_ret2
      exact ⟨rfl, hx3⟩
    · have b2 := hne e2
      by_cases e3 : z = y
      · have b3 := hqe e3
        rw [if_pos (.inr e3)]
        clear e1 e2 e3 hne hqe
        go_enter Try.func66, Try.ntmps66
        go_wp2_with fail
        refine (c1 _ (Below.refl _ _)).mono ?_
        rintro e w1 ⟨rfl, hb1⟩
        go_wp2_with fail
        refine (c2 _ hb1).mono ?_
        rintro e w2 ⟨rfl, hb2⟩
        have hx2 := hb1.trans (hb2.mono hb1.size)
        go_wp2_with fail
        refine (c3 _ hx2).mono ?_
        rintro e w3 ⟨rfl, hb3⟩
        have hx3 := hx2.trans (hb3.mono hx2.size)
        go_wp2
        go_ret2
        exact ⟨rfl, hx3⟩
      · have b3 := hne e3
        rw [if_neg (by rintro (h | h) <;> contradiction)]
        clear e1 e2 e3 hne hqe
        go_enter Try.func66, Try.ntmps66
        go_wp2_with fail
        refine (c1 _ (Below.refl _ _)).mono ?_
        rintro e w1 ⟨rfl, hb1⟩
        go_wp2_with fail
        refine (c2 _ hb1).mono ?_
        rintro e w2 ⟨rfl, hb2⟩
        have hx2 := hb1.trans (hb2.mono hb1.size)
        go_wp2_with fail
        refine (c3 _ hx2).mono ?_
        rintro e w3 ⟨rfl, hb3⟩
        have hx3 := hx2.trans (hb3.mono hx2.size)
        go_wp2
        go_ret2
        exact ⟨rfl, hx3⟩
end Go.Proofs.Ytjienajcpjcfiac
