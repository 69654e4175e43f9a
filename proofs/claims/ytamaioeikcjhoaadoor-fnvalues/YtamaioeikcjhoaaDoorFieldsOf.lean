/-
  impl.fieldsOf; partOf of a record.
-/
import Derived.Test.YtamaioeikcjhoaaDoorCloneP
import Derived.Test.YtamaioeikcjhoaaDoorBase
import Derived.Deep.AppendLies
import Derived.Deep.RegionLaw
import Derived.Maps.RangeWalk
namespace Go.Proofs.YtamaioeikcjhoaaDoor
open Go.RowKit

def fcells (ns : List ByteArray) (vs : List Value) : Nat → List Value
  | 0 => []
  | j + 1 => fcells ns vs j ++ [.string (ns.getD j ⟨#[]⟩), vs.getD (2 * j + 1) .nilIface]
theorem fcells_len (ns : List ByteArray) (vs : List Value) : ∀ j, (fcells ns vs j).length = j * 2
  | 0 => rfl
  | j + 1 => by simp [fcells, fcells_len ns vs j]; omega
theorem fcells_grow (ns : List ByteArray) (s : ByteArray) (vs : List Value) : ∀ j, j ≤ ns.length → fcells (ns ++ [s]) vs j = fcells ns vs j
  | 0, _ => rfl
  | j + 1, h => by
    simp only [fcells, fcells_grow ns s vs j (by omega)]
    congr 3
    simp [List.getD, List.getElem?_append_left (show j < ns.length by omega)]
theorem fcells_at (ns : List ByteArray) (vs : List Value) : ∀ j i, i < j → (fcells ns vs j)[2 * i]? = some (.string (ns.getD i ⟨#[]⟩)) ∧ (fcells ns vs j)[2 * i + 1]? = some (vs.getD (2 * i + 1) .nilIface)
  | 0, i, h => absurd h (by omega)
  | j + 1, i, h => by
    have hl := fcells_len ns vs j
    simp only [fcells]
    by_cases e : i = j
    · subst e
      rw [List.getElem?_append_right (by omega), List.getElem?_append_right (by omega), hl]
      rw [show 2 * i - i * 2 = 0 by omega, show 2 * i + 1 - i * 2 = 1 by omega]
      exact ⟨rfl, rfl⟩
    · rw [List.getElem?_append_left (by omega), List.getElem?_append_left (by omega)]
      exact fcells_at ns vs j i (by omega)

theorem fcells_snoc {ns : List ByteArray} {s : ByteArray} {vs : List Value} {j : Nat} {u : Value} (hl : ns.length = j) (hu : vs.getD (2 * j + 1) .nilIface = u) : fcells (ns ++ [s]) vs (j + 1) = fcells ns vs j ++ [.string s, u] := by
  simp only [fcells, fcells_grow ns s vs j (by omega), hu]
  congr 3
  subst hl
  simp [List.getD]

theorem Tryd.infoField : (Tryd.prog.info? 142).map (fun i => (i.zero, i.size, i.bytes)) = some (some (.agg #[.string ⟨#[]⟩, .nilIface]), 2, 32) := by kernel_rfl

def NewF (w : World) (B : Nat) (ad : Option Addr) (ns : List ByteArray) (vs : List Value) (m : Nat) : Prop :=
  m = 0 ∨ ∃ b, ad = some ⟨b, 0, none⟩ ∧ B ≤ b ∧ b < w.heap.size ∧ ∀ i, i < m → w.cell? ⟨b, 2 * i, none⟩ = some (.string (ns.getD i ⟨#[]⟩)) ∧ w.cell? ⟨b, 2 * i + 1, none⟩ = some (vs.getD (2 * i + 1) .nilIface)

/-- Which parts are texts. -/
theorem rep_kinds {w : World} {ok : Nat → Prop} {t : T} {v : Value} (h : Rep w ok t v) : (∃ s, t = .text s ∧ v = .iface 125 (.agg #[.string s])) ∨ ((∀ s, t ≠ .text s) ∧ ((∃ x, v = .iface 122 x) ∨ (∃ x, v = .iface 123 x) ∨ (∃ x, v = .iface 128 x) ∨ (∃ x, v = .iface 133 x))) := by
  cases t using T.five with
  | flag n => simp only [Rep.flag] at h; exact .inr ⟨by simp, .inl ⟨_, h⟩⟩
  | num n => simp only [Rep.num] at h; exact .inr ⟨by simp, .inr (.inl ⟨_, h⟩)⟩
  | text s => simp only [Rep.text] at h; exact .inl ⟨s, rfl, h⟩
  | list ks => simp only [Rep.list] at h; obtain ⟨ad, cap, h, _⟩ := h; exact .inr ⟨by simp, .inr (.inr (.inl ⟨_, h⟩))⟩
  | recd ns vs => simp only [Rep.recd] at h; obtain ⟨ad, cap, h, _⟩ := h; exact .inr ⟨by simp, .inr (.inr (.inr ⟨_, h⟩))⟩

theorem rep_iface {w : World} {ok : Nat → Prop} {t : T} {v : Value} (h : Rep w ok t v) : ∃ T x, v = .iface T x := by
  rcases rep_kinds h with ⟨s, _, h⟩ | ⟨_, ⟨x, h⟩ | ⟨x, h⟩ | ⟨x, h⟩ | ⟨x, h⟩⟩ <;> exact ⟨_, _, h⟩

theorem nm_stop {ks : List T} {j : Nat} (hj : 2 * j < ks.length) (h : ∀ s, ks[2 * j] ≠ .text s) : nm ks (j + 1) = none := by
  simp only [nm, List.getElem?_eq_getElem hj]
  cases nm ks j with
  | none => rfl
  | some ns =>
    simp only [Option.bind_some]
    cases hk : ks[2 * j] using T.five with
    | text s => exact absurd hk (h s)
    | flag => rfl
    | num => rfl
    | list => rfl
    | recd => rfl
theorem nm_step {ks : List T} {j : Nat} {ns : List ByteArray} {s : ByteArray} (h : nm ks j = some ns) (hj : 2 * j < ks.length) (hs : ks[2 * j] = .text s) :
    nm ks (j + 1) = (match ns.getLast? with | none => some (ns ++ [s]) | some l => if lessB l s then some (ns ++ [s]) else none) := by
  simp only [nm, h, Option.bind_some, List.getElem?_eq_getElem hj, hs]
  cases ns.getLast? <;> rfl

theorem ta_text (s : ByteArray) (w : World) : (Instr.typeAssert (.iface 125 (.agg #[.string s])) 56 125 true).run Tryd.prog w = .ok (.tuple #[.agg #[.string s], .bool true]) w := by kernel_rfl
theorem ta_flag (x : Value) (w : World) : (Instr.typeAssert (.iface 122 x) 56 125 true).run Tryd.prog w = .ok (.tuple #[.agg #[.string ⟨#[]⟩], .bool false]) w := by kernel_rfl
theorem ta_int (x : Value) (w : World) : (Instr.typeAssert (.iface 123 x) 56 125 true).run Tryd.prog w = .ok (.tuple #[.agg #[.string ⟨#[]⟩], .bool false]) w := by kernel_rfl
theorem ta_list (x : Value) (w : World) : (Instr.typeAssert (.iface 128 x) 56 125 true).run Tryd.prog w = .ok (.tuple #[.agg #[.string ⟨#[]⟩], .bool false]) w := by kernel_rfl
theorem ta_rec (x : Value) (w : World) : (Instr.typeAssert (.iface 133 x) 56 125 true).run Tryd.prog w = .ok (.tuple #[.agg #[.string ⟨#[]⟩], .bool false]) w := by kernel_rfl

def FldPost (ks : List T) (vs : List Value) (B : Nat) (w' : World) (v : Value) (b : Bool) : Prop :=
  (b = false ∧ v = .slice none 0 0 ∧ (ks.length % 2 ≠ 0 ∨ nm ks (ks.length / 2) = none)) ∨ (b = true ∧ ks.length % 2 = 0 ∧ ∃ ns ad' cap', nm ks (ks.length / 2) = some ns ∧ v = .slice ad' (ks.length / 2) cap' ∧ NewF w' B ad' ns vs (ks.length / 2))

theorem newF_of_owns {w : World} {B : Nat} {e : TypeId} {ad : Option Addr} {cap m : Nat} {ns : List ByteArray} {vs : List Value} (h : w.ownsRow B e 2 (.slice ad m cap) m (fcells ns vs m)) : NewF w B ad ns vs m := by
  rcases h.2 with ⟨_, h0⟩ | ⟨g, cap', cur, hv, hB, hg, _⟩
  · exact .inl h0
  · simp only [Value.slice.injEq, true_and] at hv
    obtain ⟨rfl, rfl⟩ := hv
    refine .inr ⟨g, rfl, hB, (Array.getElem?_eq_some_iff.1 hg).1, fun i hi => ?_⟩
    rw [h.cellAt (2 * i) (by omega), h.cellAt (2 * i + 1) (by omega)]
    exact fcells_at ns vs m i hi



theorem news_2 (w : World) (x y : Value) (t : TypeId) (n : Nat) (hn : w.heap.size = n) : ∀ j u, [x, y][j]? = some u → (w.alloc (.cells #[x, y] t)).cell? (Addr.add ⟨n, 0, none⟩ j) = some u := by
  intro j u hj
  subst hn
  rw [Go.WideShapes.add_plain, Nat.zero_add, World.cell?_alloc_new]
  match j, hj with
  | 0, hj => simpa using hj
  | 1, hj => simpa using hj
theorem one_2 (s : ByteArray) (y : Value) (h : y.oneCell' = true) : ∀ u ∈ [.string s, y], u.oneCell' = true := by
  intro u hu
  simp at hu
  rcases hu with rfl | rfl
  · rfl
  · exact h

set_option maxRecDepth 20000 in
set_option maxHeartbeats 2000000 in
theorem fieldsOf_any (ad : Option Addr) (cap : Nat) (vs : List Value) (ks : List T) (ok : Nat → Prop) (w : World) (h : Cs w ad vs) (hl : vs.length = ks.length) (hrep : ∀ i (h : i < ks.length) (h' : i < vs.length), Rep w ok ks[i] vs[i]) (h1 : ∀ u ∈ vs, u.oneCell' = true) (hn : vs.length ≤ 300) :
    Calls Tryd.prog 61 #[.slice ad vs.length cap] w fun e w' => ∃ v b, e = .returned (.tuple #[v, .bool b]) ∧ Below w.heap.size w w' ∧ FldPost ks vs w.heap.size w' v b := by
  have hl1 := Nat.le_of_eq hl
  have hl2 := Nat.le_of_eq hl.symm
  clear hl
  obtain ⟨i0, hi, hz0, hz1, hz2⟩ := info_parts Tryd.infoField
  by_cases hodd : vs.length % 2 ≠ 0
  · have hoB : (((vs.length : Int) % 2) == 0) = false := by simp; omega
    go_enter Tryd.func61, Tryd.ntmps61
    go_wp2
    go_ret2
    exact ⟨_, false, rfl, Below.refl _ _, .inl ⟨rfl, rfl, .inl (by omega)⟩⟩
  · have hoB : (((vs.length : Int) % 2) != 0) = false := by simp; omega
    go_enter Tryd.func61, Tryd.ntmps61
    go_wp2
    go_loopw [4, 5] (fun v i wr => ∃ (j : Nat) (ns : List ByteArray), 2 * j ≤ vs.length ∧ i = .int .i64 (2 * (j : Int)) ∧ nm ks j = some ns ∧ wr.ownsRow w.heap.size 142 2 v j (fcells ns vs j) ∧ Below w.heap.size w wr) (fun _ i _ => vs.length - (intOf i).toNat)
    case atStart => exact ⟨0, [], Nat.zero_le _, rfl, rfl, World.ownsRow_nil _ _ _ _, Below.refl _ _⟩
    case round =>
      obtain ⟨j, ns, hj, rfl, hnm, hown, hb⟩ := hrel
      have HN : Hid (nm ks j = some ns) := hnm
      clear hnm
      by_cases hlt : 2 * j < vs.length
      · obtain ⟨b, off, rfl, hc⟩ : ∃ b off, ad = some ⟨b, off, none⟩ ∧ ∀ i (h : i < vs.length), w.cell? ⟨b, off + i, none⟩ = some vs[i] := by
          rcases h with rfl | h
          · simp at hlt
          · exact h
        have c0 := cell_later hb (hc (2 * j) hlt)
        have c1 := cell_later hb (hc (2 * j + 1) (by omega))
        have ho1 := h1 (vs[2 * j + 1]'(by omega)) (List.getElem_mem _)
        rcases rep_kinds (hrep (2 * j) (by omega) hlt) with ⟨s, hts, hv⟩ | ⟨hnt, hv⟩
        · rw [hv] at c0
          have hx1 : vs.getD (2 * j + 1) .nilIface = vs[2 * j + 1]'(by omega) := by simp [List.getD, show 2 * j + 1 < vs.length by omega]
          obtain ⟨T1, x1, hu1⟩ := rep_iface (hrep (2 * j + 1) (by omega) (by omega))
          generalize vs[2 * j + 1]'(by omega) = u1 at *
          subst hu1
          have HC1 : Hid (vs.getD (2 * j + 1) .nilIface = .iface T1 x1) := hx1
          clear hc hv hx1
          have ta := ta_text s
          have hi1 : 2 * (j : Int) + 1 < vs.length := by omega
          have hi0 : 0 ≤ 2 * (j : Int) + 1 := by omega
          have hwr : IntKind.i64.wrap (2 * (j : Int) + 1) = 2 * (j : Int) + 1 := by rw [IntKind.wrap_i64]; omega
          have htn : (2 * (j : Int) + 1).toNat = 2 * j + 1 := by omega
          have c1a : ∀ o, (wr.alloc o).cell? ⟨b, off + (2 * j + 1), none⟩ = some (.iface T1 x1) := fun o => cell_later ((Below.refl _ _).alloc (Nat.le_refl _) _) c1
          by_cases hj0 : j = 0
          · have hjB : decide (0 < 2 * (j : Int)) = false := by simp; omega
            have hns : ns = [] := List.eq_nil_of_length_eq_zero (by rw [nm_len HN.out]; exact hj0)
            have HK : Hid (nm ks (j + 1) = some (ns ++ [s])) := by
              rw [nm_step HN.out (by omega) hts, hns]; rfl
            have HL : Hid (ns.length = j) := nm_len HN.out
            clear hj0 hns hts HN
            go_wp2
            go_quiet (fail)
            go_wp2
            go_region_law (refine step_append_lies _ rfl _ _ 129 rfl w.heap.size 142 i0 _ 2 32 Tryd.underlying129 hi hz0 hz1 hz2 rfl (by decide) u4 j (fcells ns vs j) rfl (by exact owns_below hown (below_drewN ((Below.refl _ _).alloc (Nat.le_refl _) _) _ |>.alloc (by simp) _)) ⟨wr.heap.size + 1, 0, none⟩ 1 1 [.string s, .iface T1 x1] rfl rfl (by exact news_2 _ _ _ _ _ (by simp)) (by exact one_2 _ _ ho1) (by omega) (by unfold maxLen; omega) (by omega) (by simp; exact Nat.le_trans hb.size (by omega)) (wr.heap.size + 1 + 1) (by simp) ?_; intro g2 cap2 w2 hown2 hgrow2 hat2 hlt2)
            all_goals
              have R : ∃ (j' : Nat) (ns' : List ByteArray), 2 * j' ≤ vs.length ∧ Value.int .i64 (2 * (j : Int) + 2) = .int .i64 (2 * (j' : Int)) ∧ nm ks j' = some ns' ∧ w2.ownsRow w.heap.size 142 2 (.slice (some ⟨g2, 0, none⟩) (j + 1) cap2) j' (fcells ns' vs j') ∧ Below w.heap.size w w2 :=
                ⟨j + 1, ns ++ [s], by omega, by go_num, HK.out, by rw [fcells_snoc HL.out HC1.out]; exact hown2, (below_drewN (hb.alloc hb.size _) _ |>.alloc (by simp; exact Nat.le_trans hb.size (by omega)) _).grown hgrow2 (by simp; exact Nat.le_trans hb.size (by omega)) (fun k hk => owns_row_ge hown hk)⟩
              clear hown2 hgrow2 hown
              go_wp2
              go_roundw
              case rel => first | exact R | ((repeat apply Exists.intro); exact ⟨R, rfl⟩)
              case measure => simp [intOf]; omega
          · obtain ⟨g, cp, rfl⟩ : ∃ g cp, u4 = .slice (some ⟨g, 0, none⟩) j cp := by
              rcases hown.2 with ⟨_, h0⟩ | ⟨g, cap, cur, hv, _⟩
              · exact absurd h0 hj0
              · exact ⟨g, cap, hv⟩
            have hlast := hown.cellAt (2 * (j - 1)) (by omega)
            rw [(fcells_at ns vs j (j - 1) (by omega)).1] at hlast
            have hla : ∀ o, (wr.alloc o).cell? ⟨g, (j - 1) * 2, none⟩ = some (.string (ns.getD (j - 1) ⟨#[]⟩)) := fun o => by
              rw [Nat.mul_comm]; exact cell_later ((Below.refl _ _).alloc (Nat.le_refl _) _) hlast
            have hgl : ns.getLast? = some (ns.getD (j - 1) ⟨#[]⟩) := by
              have hlen := nm_len HN.out
              rw [List.getLast?_eq_getElem?, hlen, List.getElem?_eq_getElem (by omega)]
              simp [List.getD, show j - 1 < ns.length by omega]
            have HL : Hid (ns.length = j) := nm_len HN.out
            generalize ns.getD (j - 1) ⟨#[]⟩ = lst at *
            clear hlast
            have hjB : decide (0 < 2 * (j : Int)) = true := by simp; omega
            have hj1 : (1 : Int) ≤ j := by omega
            have hcmp := less_both lst s
            by_cases hls : lessB lst s = true
            · have hk1 : nm ks (j + 1) = some (ns ++ [s]) := by
                rw [nm_step HN.out (by omega) hts, hgl]; simp only [hls, if_true]
              have HK : Hid (nm ks (j + 1) = some (ns ++ [s])) := hk1
              clear hk1
              clear hj0 hts HN hgl
              go_wp2
              go_quiet (fail)
              go_wp2
              go_region_law (refine step_append_lies _ rfl _ _ 129 rfl w.heap.size 142 i0 _ 2 32 Tryd.underlying129 hi hz0 hz1 hz2 rfl (by decide) (.slice (some ⟨g, 0, none⟩) j cp) j (fcells ns vs j) rfl (by exact owns_below hown (below_drewN ((Below.refl _ _).alloc (Nat.le_refl _) _) _ |>.alloc (by simp) _)) ⟨wr.heap.size + 1, 0, none⟩ 1 1 [.string s, .iface T1 x1] rfl rfl (by exact news_2 _ _ _ _ _ (by simp)) (by exact one_2 _ _ ho1) (by omega) (by unfold maxLen; omega) (by omega) (by simp; exact Nat.le_trans hb.size (by omega)) (wr.heap.size + 1 + 1) (by simp) ?_; intro g2 cap2 w2 hown2 hgrow2 hat2 hlt2)
              all_goals
                have R : ∃ (j' : Nat) (ns' : List ByteArray), 2 * j' ≤ vs.length ∧ Value.int .i64 (2 * (j : Int) + 2) = .int .i64 (2 * (j' : Int)) ∧ nm ks j' = some ns' ∧ w2.ownsRow w.heap.size 142 2 (.slice (some ⟨g2, 0, none⟩) (j + 1) cap2) j' (fcells ns' vs j') ∧ Below w.heap.size w w2 :=
                  ⟨j + 1, ns ++ [s], by omega, by go_num, HK.out, by rw [fcells_snoc HL.out HC1.out]; exact hown2, (below_drewN (hb.alloc hb.size _) _ |>.alloc (by simp; exact Nat.le_trans hb.size (by omega)) _).grown hgrow2 (by simp; exact Nat.le_trans hb.size (by omega)) (fun k hk => owns_row_ge hown hk)⟩
                clear hown2 hgrow2 hown
                go_wp2
                go_roundw
                case rel => first | exact R | ((repeat apply Exists.intro); exact ⟨R, rfl⟩)
                case measure => simp [intOf]; omega
            · have hls' : lessB lst s = false := by simpa using hls
              have hstop : Hid (nm ks (ks.length / 2) = none) := nm_mono (j := j + 1) (by rw [nm_step HN.out (by omega) hts, hgl]; simp only [hls']; rfl) _ (by omega)
              clear hj0 hts HN hgl hls
              go_wp2
              go_quiet (fail)
              go_wp2
              go_ret2
              exact ⟨_, false, rfl, below_drewN (hb.alloc hb.size _) _, .inl ⟨rfl, rfl, .inr hstop.out⟩⟩
        · have hstop : Hid (nm ks (ks.length / 2) = none) := nm_mono (nm_stop (by omega) hnt) _ (by omega)
          clear hc c1 ho1 hnt
          rcases hv with ⟨x, hv⟩ | ⟨x, hv⟩ | ⟨x, hv⟩ | ⟨x, hv⟩
          · have ta := ta_flag x
            rw [hv] at c0
            clear hv
            go_wp2
            go_quiet (fail)
            go_wp2
            go_ret2
            exact ⟨_, false, rfl, below_drewN (hb.alloc hb.size _) _, .inl ⟨rfl, rfl, .inr hstop.out⟩⟩
          · have ta := ta_int x
            rw [hv] at c0
            clear hv
            go_wp2
            go_quiet (fail)
            go_wp2
            go_ret2
            exact ⟨_, false, rfl, below_drewN (hb.alloc hb.size _) _, .inl ⟨rfl, rfl, .inr hstop.out⟩⟩
          · have ta := ta_list x
            rw [hv] at c0
            clear hv
            go_wp2
            go_quiet (fail)
            go_wp2
            go_ret2
            exact ⟨_, false, rfl, below_drewN (hb.alloc hb.size _) _, .inl ⟨rfl, rfl, .inr hstop.out⟩⟩
          · have ta := ta_rec x
            rw [hv] at c0
            clear hv
            go_wp2
            go_quiet (fail)
            go_wp2
            go_ret2
            exact ⟨_, false, rfl, below_drewN (hb.alloc hb.size _) _, .inl ⟨rfl, rfl, .inr hstop.out⟩⟩
      · have : ks.length / 2 = j := by omega
        obtain ⟨ad', cap', rfl⟩ := owns_slice hown
        go_wp2
        go_ret2
        refine ⟨_, true, rfl, hb, .inr ⟨rfl, by omega, ns, ad', cap', ?_, ?_, ?_⟩⟩
        · rw [this]; exact HN.out
        · rw [this]; rfl
        · rw [this]; exact newF_of_owns hown
end Go.Proofs.YtamaioeikcjhoaaDoor
