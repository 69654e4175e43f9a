/-
  WCd, ChgS, JoinR, JoinS, JnA, LawJn, ExactJnL: laid as one text.
-/
import Derived.Test.YtjlflmbifeocbaaZbe
import Derived.Test.YtjlflmbifeocbaaDrawPth
import Derived.Test.YtjlflmbifeocbaaZba
import Derived.Test.YtjlflmbifeocbaaMrgP
import Derived.Test.YtjlflmbifeocbaaZbc
import Derived.Test.YtjlflmbifeocbaaZbb
import Derived.Deep.AppendLies
import Derived.Test.YtjlflmbifeocbaaZbf
import Derived.Test.YtjlflmbifeocbaaZbd
import Derived.Deep.RegionLaw
import Derived.Deep.CutRange
import Derived.Test.YtjlflmbifeocbaaZbk
import Derived.Test.YtjlflmbifeocbaaWPt
import Derived.Test.YtjlflmbifeocbaaWTr
import Derived.ProofKit
import Derived.OpenShut
import Derived.ShutString
import Derived.ChangeOld
import Derived.Below
import Derived.SliceStrings
import Derived.ChangeSlices
namespace Go.Proofs.Ytjlflmbifeocbaa
open Go.RowKit

set_option maxRecDepth 100000 in
set_option maxHeartbeats 4000000 in
theorem wCode_any (a b : Option Addr) (ca cb : Nat) (ts : List En) (cs : List Ch) (w : World) (hts : ES w a ts) (hcs : CS w b cs) (hn : ts.length ≤ 1048576) (hnb : cs.length ≤ 1048576) (hca : (∃ ad, a = some ad) ∨ (a = none ∧ ca = 0)) :
    Calls Try.prog 18 #[.agg #[.slice a ts.length ca], .agg #[.slice b cs.length cb]] w fun e w' => ∃ us c, ApplyRel ts cs us c ∧ e = .returned (.int .i64 c) ∧ Below w.heap.size w w' := by
  have hal : Below w.heap.size w ((w.alloc (.cells #[.slice a ts.length ca] 25)).alloc (.cells #[.slice b cs.length cb] 30)) := ((Below.refl _ _).alloc (Nat.le_refl _) _).alloc (by simp) _
  have hm := specApply_any a b ca cb ts cs _ (hts.below hal) (hcs.below hal) hn hnb hca
  go_enter Try.func18, Try.ntmps18
  go_wp2_with fail
  refine hm.mono ?_
  rintro e w1 ⟨us, c, hR, ⟨ad, cap, rfl, hel⟩, hb1⟩
  have hbw : Below w.heap.size w (w1.alloc (.cells #[.slice ad us.length cap] 25)) := (hal.trans (hb1.mono hal.size)).trans ((below_oneD _ _).mono (hal.trans (hb1.mono hal.size)).size)
  have HR : Keep (ApplyRel ts cs us c) := ⟨hR⟩
  clear hm hel hb1 hR hal
  unfold TreeV
  go_wp2
  go_ret
  exact ⟨us, c, HR.out, rfl, hbw⟩
end Go.Proofs.Ytjlflmbifeocbaa

namespace Go.Proofs.Ytjlflmbifeocbaa
open Go.RowKit

theorem fnd_hit {α : Type} {pa : α → ByteArray} {ts : List α} {p : ByteArray} {k : Nat} (hk : k < ts.length) (hno : ∀ x ∈ ts.take k, ((pa x).toList == p.toList) = false) (h : ((pa ts[k]).toList == p.toList) = true) : fnd pa ts p = some ts[k] := by
  unfold fnd
  rw [List.find?_eq_some_iff_append]
  refine ⟨h, ts.take k, ts.drop (k + 1), ?_, fun a ha => by rw [hno a ha]; rfl⟩
  conv => lhs; rw [← List.take_append_drop k ts]
  rw [List.drop_eq_getElem_cons hk]
theorem fnd_miss {α : Type} {pa : α → ByteArray} {ts : List α} {p : ByteArray} (hno : ∀ x ∈ ts, ((pa x).toList == p.toList) = false) : fnd pa ts p = none := by
  unfold fnd
  rw [List.find?_eq_none]
  intro x hx
  rw [hno x hx]; simp

set_option maxRecDepth 100000 in
set_option maxHeartbeats 4000000 in
theorem l6Change_any (a : Option Addr) (cap : Nat) (cs : List Ch) (p : ByteArray) (w : World) (hcs : CS w a cs) (hn : cs.length ≤ 1048576) :
    Calls Try.prog 48 #[.agg #[.slice a cs.length cap], .string p] w fun e w' => e = .returned (.tuple #[cutCV ((fnd Ch.path cs p).getD noCh), .bool (fnd Ch.path cs p).isSome]) ∧ Below w.heap.size w w' := by
  have hal : Below w.heap.size w ((w.alloc (.cells #[.slice a cs.length cap] 30)).alloc (.cells #[.string ⟨#[]⟩, .bool false, .string ⟨#[]⟩, .bool false, .bool false, .string ⟨#[]⟩, .bool false] 68)) := ((Below.refl _ _).alloc (Nat.le_refl _) _).alloc (by simp) _
  have t0 : ((w.alloc (.cells #[.slice a cs.length cap] 30)).alloc (.cells #[.string ⟨#[]⟩, .bool false, .string ⟨#[]⟩, .bool false, .bool false, .string ⟨#[]⟩, .bool false] 68)).cell? ⟨w.heap.size, 0, none⟩ = some (.slice a cs.length cap) := by simp [go_sem]
  have r0 : ((w.alloc (.cells #[.slice a cs.length cap] 30)).alloc (.cells #[.string ⟨#[]⟩, .bool false, .string ⟨#[]⟩, .bool false, .bool false, .string ⟨#[]⟩, .bool false] 68)).cell? ⟨w.heap.size + 1, 0, none⟩ = some (.string ⟨#[]⟩) := by simp [go_sem]
  have r1 : ((w.alloc (.cells #[.slice a cs.length cap] 30)).alloc (.cells #[.string ⟨#[]⟩, .bool false, .string ⟨#[]⟩, .bool false, .bool false, .string ⟨#[]⟩, .bool false] 68)).cell? ⟨w.heap.size + 1, 1, none⟩ = some (.bool false) := by simp [go_sem]
  have r2 : ((w.alloc (.cells #[.slice a cs.length cap] 30)).alloc (.cells #[.string ⟨#[]⟩, .bool false, .string ⟨#[]⟩, .bool false, .bool false, .string ⟨#[]⟩, .bool false] 68)).cell? ⟨w.heap.size + 1, 2, none⟩ = some (.string ⟨#[]⟩) := by simp [go_sem]
  have r3 : ((w.alloc (.cells #[.slice a cs.length cap] 30)).alloc (.cells #[.string ⟨#[]⟩, .bool false, .string ⟨#[]⟩, .bool false, .bool false, .string ⟨#[]⟩, .bool false] 68)).cell? ⟨w.heap.size + 1, 3, none⟩ = some (.bool false) := by simp [go_sem]
  have r4 : ((w.alloc (.cells #[.slice a cs.length cap] 30)).alloc (.cells #[.string ⟨#[]⟩, .bool false, .string ⟨#[]⟩, .bool false, .bool false, .string ⟨#[]⟩, .bool false] 68)).cell? ⟨w.heap.size + 1, 4, none⟩ = some (.bool false) := by simp [go_sem]
  have r5 : ((w.alloc (.cells #[.slice a cs.length cap] 30)).alloc (.cells #[.string ⟨#[]⟩, .bool false, .string ⟨#[]⟩, .bool false, .bool false, .string ⟨#[]⟩, .bool false] 68)).cell? ⟨w.heap.size + 1, 5, none⟩ = some (.string ⟨#[]⟩) := by simp [go_sem]
  have r6 : ((w.alloc (.cells #[.slice a cs.length cap] 30)).alloc (.cells #[.string ⟨#[]⟩, .bool false, .string ⟨#[]⟩, .bool false, .bool false, .string ⟨#[]⟩, .bool false] 68)).cell? ⟨w.heap.size + 1, 6, none⟩ = some (.bool false) := by simp [go_sem]
  have rf : ∀ j, ((w.alloc (.cells #[.slice a cs.length cap] 30)).alloc (.cells #[.string ⟨#[]⟩, .bool false, .string ⟨#[]⟩, .bool false, .bool false, .string ⟨#[]⟩, .bool false] 68)).frozen? ⟨w.heap.size + 1, j, none⟩ = false := fun j => by simp [go_sem]
  have hE := hcs.below hal
  go_enter Try.func48, Try.ntmps48
  go_wp2_with fail
  generalize (w.alloc (.cells #[.slice a cs.length cap] 30)).alloc (.cells #[.string ⟨#[]⟩, .bool false, .string ⟨#[]⟩, .bool false, .bool false, .string ⟨#[]⟩, .bool false] 68) = W at *
  obtain ⟨rb, hrb⟩ : ∃ rb, rb = w.heap.size + 1 := ⟨_, rfl⟩
  obtain ⟨tb, htb⟩ : ∃ tb, tb = w.heap.size := ⟨_, rfl⟩
  rw [← hrb] at r0 r1 r2 r3 r4 r5 r6 rf ⊢
  rw [← htb] at t0 ⊢
  have HO : Keep (w.heap.size ≤ rb) := ⟨by omega⟩
  have nt : ¬ tb = rb := by omega
  have nt2 : ¬ rb = tb := by omega
  clear hrb htb hcs
  go_loopw [6] (fun i wr => ∃ k : Nat, i = .int .i64 k ∧ k ≤ cs.length ∧ Keep (∀ x ∈ cs.take k, (x.path.toList == p.toList) = false) ∧ W = wr) (fun i _ => cs.length - (intOf i).toNat)
  case atStart => exact ⟨0, rfl, Nat.zero_le _, ⟨fun x hx => by simp at hx⟩, rfl⟩
  case round =>
    obtain ⟨k, rfl, hk, HNO, rfl⟩ := hrel
    by_cases hlt : k < cs.length
    · have hlt' : (k : Int) < cs.length := by omega
      obtain ⟨b, off, rfl, hc⟩ := hE.at hlt
      obtain ⟨x0, x1, x2, x3, x4, x5, x6⟩ := hc k hlt
      clear hc hE
      cases hq : (cs[k].path.toList == p.toList) with
      | true =>
        have HA : Keep (fnd Ch.path cs p = some cs[k]) := ⟨fnd_hit hlt HNO.out hq⟩
        have hbe := box7_below (.string cs[k].path) (.bool cs[k].old.there) (.string cs[k].old.text) (.bool cs[k].old.runs) (.bool cs[k].new.there) (.string cs[k].new.text) (.bool cs[k].new.runs) hal HO.out
        obtain ⟨z0, z1, z2, z3, z4, z5, z6⟩ := box7_set (.string cs[k].path) (.bool cs[k].old.there) (.string cs[k].old.text) (.bool cs[k].old.runs) (.bool cs[k].new.there) (.string cs[k].new.text) (.bool cs[k].new.runs) r0 r1 r2 r3 r4 r5 r6
        have HB : Keep _ := ⟨hbe⟩
        have HZZ : Keep _ := ⟨And.intro z0 (And.intro z1 (And.intro z2 (And.intro z3 (And.intro z4 (And.intro z5 z6)))))⟩
        clear z0 z1 z2 z3 z4 z5 z6 hbe hal
        go_wp2
        refine bodyPost_ret (v := .tuple #[cutCV cs[k], .bool true]) ?_ rfl ⟨by rw [HA.out]; rfl, HB.out⟩
        obtain ⟨z0, z1, z2, z3, z4, z5, z6⟩ := HZZ.out
        go_light
        simp [results, Try.results48, go_sem, cutCV, z0, z1, z2, z3, z4, z5, z6]
      | false =>
        have HN2 : Keep (∀ x ∈ cs.take (k + 1), (x.path.toList == p.toList) = false) := ⟨fun x hx => by
          rw [List.take_succ_eq_append_getElem hlt] at hx
          rcases List.mem_append.1 hx with h | h
          · exact HNO.out x h
          · rw [List.mem_singleton.1 h]; exact hq⟩
        go_wp2
        go_roundw
        case rel => exact ⟨k + 1, by congr 1, hlt, HN2, trivial⟩
        case measure => simp only [intOf]; omega
    · obtain rfl : k = cs.length := by omega
      have HA : Keep (fnd Ch.path cs p = none) := ⟨fnd_miss (by have := HNO.out; rw [List.take_length] at this; exact this)⟩
      have hbe := box7_below (.string ⟨#[]⟩) (.bool false) (.string ⟨#[]⟩) (.bool false) (.bool false) (.string ⟨#[]⟩) (.bool false) hal HO.out
      obtain ⟨z0, z1, z2, z3, z4, z5, z6⟩ := box7_set (.string ⟨#[]⟩) (.bool false) (.string ⟨#[]⟩) (.bool false) (.bool false) (.string ⟨#[]⟩) (.bool false) r0 r1 r2 r3 r4 r5 r6
      have HB : Keep _ := ⟨hbe⟩
      have HZZ : Keep _ := ⟨And.intro z0 (And.intro z1 (And.intro z2 (And.intro z3 (And.intro z4 (And.intro z5 z6)))))⟩
      clear z0 z1 z2 z3 z4 z5 z6 hbe hal
      go_wp2
      refine bodyPost_ret (v := .tuple #[cutCV noCh, .bool false]) ?_ rfl ⟨by rw [HA.out]; rfl, HB.out⟩
      obtain ⟨z0, z1, z2, z3, z4, z5, z6⟩ := HZZ.out
      go_light
      simp [results, Try.results48, go_sem, cutCV, noCh, z0, z1, z2, z3, z4, z5, z6]
end Go.Proofs.Ytjlflmbifeocbaa

namespace Go.Proofs.Ytjlflmbifeocbaa
open Go.RowKit

def xTab (P N K D : Value) (s : ByteArray) (c : Ch) (bb : Bool) : Nat → Option Value
  | 0 => some P
  | 1 => some N
  | 2 => some K
  | 3 => some D
  | 4 => some (.string s)
  | 5 => some (.tuple #[.agg #[.string c.path, .bool c.old.there, .string c.old.text, .bool c.old.runs, .bool c.new.there, .string c.new.text, .bool c.new.runs], .bool bb])
  | 6 => some (.tuple #[.agg #[.string c.path, .bool c.old.there, .string c.old.text, .bool c.old.runs, .bool c.new.there, .string c.new.text, .bool c.new.runs], .bool bb])
  | 7 => some (.agg #[.string c.path, .bool c.old.there, .string c.old.text, .bool c.old.runs, .bool c.new.there, .string c.new.text, .bool c.new.runs])
  | 8 => some (.bool bb)
  | 11 => some (.bool bb)
  | _ => none

structure XV (T0 : Array Value) (ds : List Nat) (wr : World) (P N K D : Value) (s : ByteArray) (c : Ch) (bb : Bool) (p : Nat) (L : Array Bool) (a : Act) (w : World) : Prop where
  sl : Sl2 T0 ds (xTab P N K D s c bb) L a
  wd : Below wr.heap.size wr w
  bx : L.getD 9 false = true → ∃ fb, a.eval (.tmp p) = .pointer (some ⟨fb, 0, none⟩) ∧ wr.heap.size ≤ fb ∧ CBox fb (if L.getD 10 false = true then c else noCh) w

theorem XV.step {T0 : Array Value} {ds : List Nat} {wr : World} {P N K D : Value} {s : ByteArray} {c : Ch} {bb : Bool} {p : Nat} {L : Array Bool} {a : Act} {w w' : World} (h : XV T0 ds wr P N K D s c bb p L a w) (nd : ds.Nodup) {i : Nat} {v : Value} (hi : i < ds.length) (hd : ds[i] < T0.size) (h9 : i ≠ 9) (h10 : i ≠ 10) (hp : ds[i] ≠ p) (ht : xTab P N K D s c bb i = some v) (hb : Below w.heap.size w w') :
    XV T0 ds wr P N K D s c bb p (L.setIfInBounds i true) (a.put (some ds[i]) v) w' := by
  refine ⟨h.sl.put nd hi hd (fun u hu => by rw [ht] at hu; cases hu; rfl), h.wd.trans (hb.mono h.wd.size), fun hL => ?_⟩
  rw [getD_set_ne false h9] at hL
  obtain ⟨fb, e1, e2, e3⟩ := h.bx hL
  refine ⟨fb, ?_, e2, ?_⟩
  · rw [Act.eval_put (fun d hd' => by cases hd'; intro e'; injection e' with e'; exact hp e'.symm)]
    exact e1
  · rw [getD_set_ne false h10]
    exact e3.later hb
theorem XV.box {T0 : Array Value} {ds : List Nat} {wr : World} {P N K D : Value} {s : ByteArray} {c : Ch} {bb : Bool} {L : Array Bool} {a : Act} {w : World} {t : TypeId} (hi : 9 < ds.length) (h : XV T0 ds wr P N K D s c bb ds[9] L a w) (nd : ds.Nodup) (hd : ds[9] < T0.size) (h10 : L.getD 10 false = false) :
    XV T0 ds wr P N K D s c bb ds[9] (L.setIfInBounds 9 true) (a.put (some ds[9]) (.pointer (some ⟨w.heap.size, 0, none⟩))) (w.alloc (.cells #[.string ⟨#[]⟩, .bool false, .string ⟨#[]⟩, .bool false, .bool false, .string ⟨#[]⟩, .bool false] t)) := by
  refine ⟨h.sl.put nd hi hd (fun u hu => by cases hu), h.wd.alloc h.wd.size _, fun _ => ⟨w.heap.size, ?_, h.wd.size, ?_⟩⟩
  · show ((a.tmps.setIfInBounds ds[9] _).getD ds[9] undef) = _
    rw [Array.getD_eq_getD_getElem?, Array.getElem?_setIfInBounds_self_of_lt (by rw [h.sl.sz]; exact hd)]
    rfl
  · rw [getD_set_ne false (by omega), h10]
    exact ⟨by simp [noCh], by simp [noCh], by simp [noCh], by simp [noCh], by simp [noCh], by simp [noCh], by simp [noCh], fun j => by simp, by simp⟩
theorem XV.store {T0 : Array Value} {ds : List Nat} {wr : World} {P N K D : Value} {s : ByteArray} {c : Ch} {bb : Bool} {p fb : Nat} {L : Array Bool} {a : Act} {w : World} (h : XV T0 ds wr P N K D s c bb p L a w) (e1 : a.eval (.tmp p) = .pointer (some ⟨fb, 0, none⟩)) (e2 : wr.heap.size ≤ fb) (e3 : CBox fb noCh w) (hL : L.getD 10 true = false) :
    XV T0 ds wr P N K D s c bb p (L.setIfInBounds 10 true) a (((((((w.setCell ⟨fb, 0, none⟩ (.string c.path)).setCell ⟨fb, 1, none⟩ (.bool c.old.there)).setCell ⟨fb, 2, none⟩ (.string c.old.text)).setCell ⟨fb, 3, none⟩ (.bool c.old.runs)).setCell ⟨fb, 4, none⟩ (.bool c.new.there)).setCell ⟨fb, 5, none⟩ (.string c.new.text)).setCell ⟨fb, 6, none⟩ (.bool c.new.runs)) := by
  refine ⟨h.sl.skip rfl, box7_below _ _ _ _ _ _ _ h.wd e2, fun _ => ⟨fb, e1, e2, ?_⟩⟩
  have g10 : (L.setIfInBounds 10 true).getD 10 false = true := by
    have h1 := getD_false hL
    have h2 : 10 < L.size := by simpa using (List.getElem?_eq_some_iff.1 h1).1
    rw [Array.getD_eq_getD_getElem?, Array.getElem?_setIfInBounds_self_of_lt h2]
    rfl
  rw [g10]
  exact e3.set c

/-- An append, at a step of a region (RegV) outside of rounds. -/
theorem wpIn_append {n : Nat} {P : Program} {o : Oper} {a : Act} {w w' : World} {K : Act → World → Prop} {Q : Exit → Act → World → Prop} (s x : Operand) (t : TypeId) (ho : o.op = .call { callee := .builtin .append, args := #[s, x], argTypes := #[t, t] }) {v u v' : Value} (hs : a.eval s = v) (hx : a.eval x = u)
    (hr : (Builtin.append_ #[t, t] o.type #[v, u]).run P w = .ok v' w') (hK : K (a.put o.dst v') w') : o.wpIn Fence.wide n P a w K Q := by
  refine ⟨fun f _ => trivial, ?_⟩
  show Oper.uponIn Fence.wide n P o a K Q ((execOp a.eval o).run P w)
  unfold execOp
  simp only [ho, resolve, invoke, builtin, Sem.run_bind, Sem.run_pure, Result.andThen_ok, List.map_toArray, List.map_cons, List.map_nil, hs, hx, hr]
  exact hK

def aTab (ob fb gb : Nat) (v N K D : Value) (s : ByteArray) (f g : Fl) : Nat → Option Value
  | 0 => some (.pointer (some ⟨ob, 0, none⟩))
  | 1 => some v
  | 2 => some N
  | 3 => some K
  | 4 => some D
  | 5 => some (.string s)
  | 6 => some (.pointer (some ⟨fb, 1, none⟩))
  | 7 => some (.agg #[.bool f.there, .string f.text, .bool f.runs])
  | 8 => some (.pointer (some ⟨gb, 4, none⟩))
  | 9 => some (.agg #[.bool g.there, .string g.text, .bool g.runs])
  | 10 => some (.agg #[.string s, .bool f.there, .string f.text, .bool f.runs, .bool g.there, .string g.text, .bool g.runs])
  | 13 => some (.pointer (some ⟨ob, 0, none⟩))
  | _ => none
def aDs : List Nat := [107, 108, 109, 110, 111, 112, 113, 114, 115, 116, 117, 118, 119, 120, 1000]

/-- Where the region stands that puts a change behind a list. -/
structure AV (T0 : Array Value) (ob fb gb : Nat) (W0 X : World) (v N K D : Value) (s : ByteArray) (f g : Fl) (cs : List Ch) (L : Array Bool) (a : Act) (w : World) : Prop where
  sl : Sl2 T0 aDs (aTab ob fb gb v N K D s f g) L a
  w0 : L.getD 11 false = false → w = X.drew
  w1 : L.getD 11 false = true → L.getD 12 false = false → w = X.drew.alloc (.cells #[.string s, .bool f.there, .string f.text, .bool f.runs, .bool g.there, .string g.text, .bool g.runs] 68) ∧ a.eval (.tmp 118) = .slice (some ⟨X.heap.size, 0, none⟩) 1 1
  w2 : L.getD 12 false = true → L.getD 14 false = false → ∃ g2 cap, a.eval (.tmp 119) = .slice (some ⟨g2, 0, none⟩) (cs.length + 1) cap ∧ w.ownsRow W0.heap.size 68 7 (.slice (some ⟨g2, 0, none⟩) (cs.length + 1) cap) (cs.length + 1) (ccells cs ++ chL ⟨s, f, g⟩) ∧ (X.drew.alloc (.cells #[.string s, .bool f.there, .string f.text, .bool f.runs, .bool g.there, .string g.text, .bool g.runs] 68)).grownBy w v.ownBlock
  w3 : L.getD 14 false = true → ∃ v', OutCh ob W0 v' (cs ++ [⟨s, f, g⟩]) w

theorem aNd : aDs.Nodup := by decide
theorem AV.step {T0 : Array Value} {ob fb gb : Nat} {W0 X : World} {v N K D : Value} {s : ByteArray} {f g : Fl} {cs : List Ch} {L : Array Bool} {a : Act} {w : World} (h : AV T0 ob fb gb W0 X v N K D s f g cs L a w) {i : Nat} {u : Value} (hT : T0.size = 127) (hi : i < 14) (h11 : i ≠ 11) (h12 : i ≠ 12) (ht : aTab ob fb gb v N K D s f g i = some u) :
    AV T0 ob fb gb W0 X v N K D s f g cs (L.setIfInBounds i true) (a.put (some (107 + i)) u) w := by
  have hlen : i < aDs.length := by show i < 15; omega
  have hds : aDs[i] = 107 + i := by
    match i, hi with
    | 0, _ | 1, _ | 2, _ | 3, _ | 4, _ | 5, _ | 6, _ | 7, _ | 8, _ | 9, _ | 10, _ | 11, _ | 12, _ | 13, _ => rfl
  have hsl := h.sl.put aNd hlen (by rw [hds, hT]; omega) (v := u) (fun u' hu => by rw [ht] at hu; cases hu; rfl)
  rw [hds] at hsl
  have ev : ∀ k, k ≠ 107 + i → (a.put (some (107 + i)) u).eval (.tmp k) = a.eval (.tmp k) := fun k hk => Act.eval_put (fun d hd' => by cases hd'; intro e'; injection e' with e'; exact hk e')
  refine ⟨hsl, fun h1 => ?_, fun h1 h2 => ?_, fun h1 h2 => ?_, fun h1 => ?_⟩
  · rw [getD_set_ne false h11] at h1; exact h.w0 h1
  · rw [getD_set_ne false h11] at h1; rw [getD_set_ne false h12] at h2
    rw [ev 118 (by omega)]
    exact h.w1 h1 h2
  · rw [getD_set_ne false h12] at h1; rw [getD_set_ne false (by omega)] at h2
    obtain ⟨g2, cap, e1, e2, e3⟩ := h.w2 h1 h2
    exact ⟨g2, cap, by rw [ev 119 (by omega)]; exact e1, e2, e3⟩
  · rw [getD_set_ne false (by omega)] at h1; exact h.w3 h1
theorem AV.build {T0 : Array Value} {ob fb gb : Nat} {W0 X : World} {v N K D : Value} {s : ByteArray} {f g : Fl} {cs : List Ch} {L : Array Bool} {a : Act} (h : AV T0 ob fb gb W0 X v N K D s f g cs L a X.drew) (hT : T0.size = 127) (h12 : L.getD 12 false = false) (h14 : L.getD 14 false = false) (hL : L.getD 11 true = false) :
    AV T0 ob fb gb W0 X v N K D s f g cs (L.setIfInBounds 11 true) (a.put (some 118) (.slice (some ⟨X.heap.size, 0, none⟩) 1 1)) (X.drew.alloc (.cells #[.string s, .bool f.there, .string f.text, .bool f.runs, .bool g.there, .string g.text, .bool g.runs] 68)) := by
  have g11 : (L.setIfInBounds 11 true).getD 11 false = true := by
    have h1 := getD_false hL
    have h2 : 11 < L.size := by simpa using (List.getElem?_eq_some_iff.1 h1).1
    rw [Array.getD_eq_getD_getElem?, Array.getElem?_setIfInBounds_self_of_lt h2]
    rfl
  refine ⟨h.sl.put (i := 11) aNd (by decide) (show 118 < _ by rw [hT]; omega) (fun u hu => by cases hu), fun h1 => ?_, fun _ _ => ⟨rfl, ?_⟩, fun h1 _ => ?_, fun h1 => ?_⟩
  · rw [g11] at h1; cases h1
  · show ((a.tmps.setIfInBounds 118 _).getD 118 undef) = _
    rw [Array.getD_eq_getD_getElem?, Array.getElem?_setIfInBounds_self_of_lt (by rw [h.sl.sz, hT]; omega)]
    rfl
  · rw [getD_set_ne false (by omega), h12] at h1; cases h1
  · rw [getD_set_ne false (by omega), h14] at h1; cases h1
theorem AV.app {T0 : Array Value} {ob fb gb : Nat} {W0 X : World} {v N K D : Value} {s : ByteArray} {f g : Fl} {cs : List Ch} {L : Array Bool} {a : Act} {w w' : World} (h : AV T0 ob fb gb W0 X v N K D s f g cs L a w) (hT : T0.size = 127) (h11 : L.getD 11 false = true) (h14 : L.getD 14 false = false) (hL : L.getD 12 true = false) {g2 cap : Nat}
    (e2 : w'.ownsRow W0.heap.size 68 7 (.slice (some ⟨g2, 0, none⟩) (cs.length + 1) cap) (cs.length + 1) (ccells cs ++ chL ⟨s, f, g⟩)) (e3 : (X.drew.alloc (.cells #[.string s, .bool f.there, .string f.text, .bool f.runs, .bool g.there, .string g.text, .bool g.runs] 68)).grownBy w' v.ownBlock) :
    AV T0 ob fb gb W0 X v N K D s f g cs (L.setIfInBounds 12 true) (a.put (some 119) (.slice (some ⟨g2, 0, none⟩) (cs.length + 1) cap)) w' := by
  have g12 : (L.setIfInBounds 12 true).getD 12 false = true := by
    have h1 := getD_false hL
    have h2 : 12 < L.size := by simpa using (List.getElem?_eq_some_iff.1 h1).1
    rw [Array.getD_eq_getD_getElem?, Array.getElem?_setIfInBounds_self_of_lt h2]
    rfl
  refine ⟨h.sl.put (i := 12) aNd (by decide) (show 119 < _ by rw [hT]; omega) (fun u hu => by cases hu), fun h1 => ?_, fun _ h2 => ?_, fun _ _ => ⟨g2, cap, ?_, e2, e3⟩, fun h1 => ?_⟩
  · rw [getD_set_ne false (by omega), h11] at h1; cases h1
  · rw [g12] at h2; cases h2
  · show ((a.tmps.setIfInBounds 119 _).getD 119 undef) = _
    rw [Array.getD_eq_getD_getElem?, Array.getElem?_setIfInBounds_self_of_lt (by rw [h.sl.sz, hT]; omega)]
    rfl
  · rw [getD_set_ne false (by omega), h14] at h1; cases h1
theorem AV.last {T0 : Array Value} {ob fb gb : Nat} {W0 X : World} {v N K D : Value} {s : ByteArray} {f g : Fl} {cs : List Ch} {L : Array Bool} {a : Act} {w w' : World} (h : AV T0 ob fb gb W0 X v N K D s f g cs L a w) (h11 : L.getD 11 false = true) (h12 : L.getD 12 false = true) (hL : L.getD 14 true = false) (hE : ∃ v', OutCh ob W0 v' (cs ++ [⟨s, f, g⟩]) w') :
    AV T0 ob fb gb W0 X v N K D s f g cs (L.setIfInBounds 14 true) a w' := by
  have g14 : (L.setIfInBounds 14 true).getD 14 false = true := by
    have h1 := getD_false hL
    have h2 : 14 < L.size := by simpa using (List.getElem?_eq_some_iff.1 h1).1
    rw [Array.getD_eq_getD_getElem?, Array.getElem?_setIfInBounds_self_of_lt h2]
    rfl
  refine ⟨h.sl.skip rfl, fun h1 => ?_, fun _ h2 => ?_, fun _ h2 => ?_, fun _ => hE⟩
  · rw [getD_set_ne false (by omega), h11] at h1; cases h1
  · rw [getD_set_ne false (by omega), h12] at h2; cases h2
  · rw [g14] at h2; cases h2
end Go.Proofs.Ytjlflmbifeocbaa

namespace Go.Proofs.Ytjlflmbifeocbaa
open Go.RowKit

/-- Behind a call that gives a change, and whether there is one. -/
def CutX (c : Ch) (bb : Bool) (W1 : World) (pv bv : Value) (W : World) : Prop := ∃ fb, pv = .pointer (some ⟨fb, 0, none⟩) ∧ bv = .bool bb ∧ CBox fb c W ∧ W1.heap.size ≤ fb ∧ Below W1.heap.size W1 W
theorem newX {Y X : World} {t : TypeId} (h : Below (Y.alloc (.cells #[.string ⟨#[]⟩, .bool false, .string ⟨#[]⟩, .bool false, .bool false, .string ⟨#[]⟩, .bool false] t)).drew.heap.size (Y.alloc (.cells #[.string ⟨#[]⟩, .bool false, .string ⟨#[]⟩, .bool false, .bool false, .string ⟨#[]⟩, .bool false] t)).drew X) : CBox Y.heap.size noCh X :=
  CBox.later (W := (Y.alloc (.cells #[.string ⟨#[]⟩, .bool false, .string ⟨#[]⟩, .bool false, .bool false, .string ⟨#[]⟩, .bool false] t)).drew) ⟨by simp [noCh], by simp [noCh], by simp [noCh], by simp [noCh], by simp [noCh], by simp [noCh], by simp [noCh], fun j => by simp, by simp⟩ h
theorem cutX_mk {W1 W : World} {c : Ch} {bb : Bool} (hb : Below W1.heap.size W1 W) : CutX c bb W1 (.pointer (some ⟨W.heap.size, 0, none⟩)) (.bool bb) (W.alloc (.cells #[.string c.path, .bool c.old.there, .string c.old.text, .bool c.old.runs, .bool c.new.there, .string c.new.text, .bool c.new.runs] 68)) :=
  ⟨_, rfl, rfl, ⟨by simp, by simp, by simp, by simp, by simp, by simp, by simp, fun j => by simp, by simp⟩, hb.size, hb.alloc hb.size _⟩
theorem cutX_mk' {W1 W : World} {c : Ch} {bb : Bool} {fb : Nat} (hb : Below W1.heap.size W1 W) (hn : CBox fb noCh W) (hl : W1.heap.size ≤ fb) : CutX c bb W1 (.pointer (some ⟨fb, 0, none⟩)) (.bool bb) (((((((W.setCell ⟨fb, 0, none⟩ (.string c.path)).setCell ⟨fb, 1, none⟩ (.bool c.old.there)).setCell ⟨fb, 2, none⟩ (.string c.old.text)).setCell ⟨fb, 3, none⟩ (.bool c.old.runs)).setCell ⟨fb, 4, none⟩ (.bool c.new.there)).setCell ⟨fb, 5, none⟩ (.string c.new.text)).setCell ⟨fb, 6, none⟩ (.bool c.new.runs)) :=
  ⟨fb, rfl, rfl, hn.set c, hl, box7_below _ _ _ _ _ _ _ hb hl⟩

set_option maxRecDepth 100000 in
set_option maxHeartbeats 16000000 in
theorem specJoin_any (a b : Option Addr) (ca cb : Nat) (ps qs : List Ch) (w : World) (hps : CS w a ps) (hqs : CS w b qs) (hn : ps.length ≤ 1048576) (hnb : qs.length ≤ 1048576) :
    Calls Try.prog 17 #[.agg #[.slice a ps.length ca], .agg #[.slice b qs.length cb]] w fun e w' => JoinPost ps qs w e w' := by
  obtain ⟨i0, hi, hz0, hz1, hzb⟩ := info_parts Try.infoChange
  have hal : Below w.heap.size w (((w.alloc (.cells #[.slice a ps.length ca] 30)).alloc (.cells #[.slice b qs.length cb] 30)).alloc (.cells #[.slice none 0 0] 30)) := (((Below.refl _ _).alloc (Nat.le_refl _) _).alloc (by simp) _).alloc (by simp; omega) _
  have m0 : (((w.alloc (.cells #[.slice a ps.length ca] 30)).alloc (.cells #[.slice b qs.length cb] 30)).alloc (.cells #[.slice none 0 0] 30)).cell? ⟨w.heap.size, 0, none⟩ = some (.slice a ps.length ca) := by simp [go_sem]
  have m1 : (((w.alloc (.cells #[.slice a ps.length ca] 30)).alloc (.cells #[.slice b qs.length cb] 30)).alloc (.cells #[.slice none 0 0] 30)).cell? ⟨w.heap.size + 1, 0, none⟩ = some (.slice b qs.length cb) := by simp [go_sem]
  have k0 : (((w.alloc (.cells #[.slice a ps.length ca] 30)).alloc (.cells #[.slice b qs.length cb] 30)).alloc (.cells #[.slice none 0 0] 30)).cell? ⟨w.heap.size + 1 + 1, 0, none⟩ = some (.slice none 0 0) := by simp [go_sem]
  have kf : (((w.alloc (.cells #[.slice a ps.length ca] 30)).alloc (.cells #[.slice b qs.length cb] 30)).alloc (.cells #[.slice none 0 0] 30)).frozen? ⟨w.heap.size + 1 + 1, 0, none⟩ = false := by simp [go_sem]
  have os0 : w.heap.size + 1 + 1 < (((w.alloc (.cells #[.slice a ps.length ca] 30)).alloc (.cells #[.slice b qs.length cb] 30)).alloc (.cells #[.slice none 0 0] 30)).heap.size := by simp [go_sem]
  go_enter Try.func17, Try.ntmps17
  go_upto_region 1 with fail
  generalize ((w.alloc (.cells #[.slice a ps.length ca] 30)).alloc (.cells #[.slice b qs.length cb] 30)).alloc (.cells #[.slice none 0 0] 30) = W at *
  obtain ⟨g, hg⟩ : ∃ g, g = w.heap.size + 1 + 1 := ⟨_, rfl⟩
  obtain ⟨tb, htb⟩ : ∃ tb, tb = w.heap.size + 1 := ⟨_, rfl⟩
  obtain ⟨ta, hta⟩ : ∃ ta, ta = w.heap.size := ⟨_, rfl⟩
  rw [← hg] at k0 kf os0 ⊢
  rw [← htb] at m1 ⊢
  rw [← hta] at m0 ⊢
  have HS : Keep (ta = w.heap.size ∧ tb = w.heap.size + 1 ∧ g = w.heap.size + 2) := ⟨by omega⟩
  clear hg htb hta
  go_cut [22] (fun v wx => ∃ nb : Bool, v = .bool nb ∧ Keep (nb = false ↔ ValidP ps ∧ ValidP qs) ∧ Below W.heap.size W wx)
  case first =>
    go_wp2_with fail
    refine (specPatch_any a ca ps W (hps.below hal) hn).mono ?_
    rintro e w1 ⟨va, rfl, hva, hb1⟩
    have m1' := cell_later hb1 m1
    cases va with
    | false =>
      have HV : Keep ((true = false) ↔ ValidP ps ∧ ValidP qs) := ⟨⟨fun h => (by cases h), fun h => (by have := hva.2 h.1; cases this)⟩⟩
      clear hva
      go_wp2_with fail
      go_meet
      case rel => exact ⟨true, rfl, HV, hb1⟩
    | true =>
      have HV : Keep (ValidP ps) := ⟨hva.1 rfl⟩
      clear hva
      go_wp2_with fail
      refine (specPatch_any b cb qs w1 ((hqs.below hal).below hb1) hnb).mono ?_
      rintro e w2 ⟨vb, rfl, hvb, hb2⟩
      have HV2 : Keep ((!vb) = false ↔ ValidP ps ∧ ValidP qs) := ⟨⟨fun h => ⟨HV.out, hvb.1 (by simpa using h)⟩, fun h => by rw [hvb.2 h.2]; rfl⟩⟩
      clear hvb
      go_wp2_with fail
      go_meet
      case rel => exact ⟨_, rfl, HV2, hb1.trans (hb2.mono hb1.size)⟩
  case rest =>
    obtain ⟨nb, rfl, HV, hb1⟩ := hcut
    replace m0 := cell_later hb1 m0
    replace m1 := cell_later hb1 m1
    replace k0 := cell_later hb1 k0
    replace kf : wc.frozen? ⟨g, 0, none⟩ = false := (hb1.frozen (p := ⟨g, 0, none⟩) os0).trans kf
    have os1 : g < wc.heap.size := Nat.lt_of_lt_of_le os0 hb1.size
    have hbw := hal.trans (hb1.mono hal.size)
    clear hb1 hal os0
    cases nb with
    | true =>
      have hnv : ¬ (ValidP ps ∧ ValidP qs) := fun h => by have := HV.out.2 h; cases this
      go_wp2
      refine bodyPost_ret (v := .tuple #[.agg #[.slice none ([] : List Ch).length 0], .bool false]) ?_ rfl ⟨[], false, .inl ⟨hnv, rfl, rfl⟩, ⟨none, 0, rfl, CL.nil _ _ _⟩, hbw.setCell (p := ⟨g, 0, none⟩) (by have := HS.out; show _ ≤ g; omega) _⟩
      go_light
      simp [results, Try.results17, go_sem, k0]
    | false =>
      have hv := HV.out.1 rfl
      have hp200 : ps.length ≤ 200 := hv.1.1
      have hq200 : qs.length ≤ 200 := hv.2.1
      have HS1 : Keep (g < wc.heap.size) := ⟨os1⟩
      have hnil : NmR wc (.slice (some ⟨wc.heap.size, 0, none⟩) 0 0) [] (wc.alloc (.cells #[] 9)) := ⟨⟨by simp, .inr ⟨wc.heap.size, 0, #[], rfl, Nat.le_refl _, heap_alloc_new wc _, Nat.le_refl _, by unfold maxLen; omega, rfl, by simp⟩⟩, (Below.refl _ _).alloc (Nat.le_refl _) _⟩
      have HN : Keep (∀ n ∈ joinNs ps qs, True) := ⟨fun _ _ => trivial⟩
      clear HN os1
      go_wp2
      go_loopw [6, 7] (fun v i wr => ∃ k : Nat, i = .int .i64 k ∧ k ≤ ps.length ∧ NmR wc v (addG [] ((ps.map Ch.path).take k)) wr) (fun _ i _ => ps.length - (intOf i).toNat)
      case atStart => exact ⟨0, rfl, Nat.zero_le _, by simpa [addG] using hnil⟩
      case round =>
        clear hnil
        obtain ⟨k, rfl, hk, hR⟩ := hrel
        have t1 := cell_later hR.bw m0
        have hal := addG_len [] (ps.map Ch.path) k (by simpa using hk)
        simp only [List.length_nil, Nat.zero_add] at hal
        by_cases hml : k < ps.length
        · have hml' : (k : Int) < ps.length := by omega
          obtain ⟨b1, o1, rfl, hc1⟩ := ((hps.below hbw).below hR.bw).at hml
          obtain ⟨x0, _⟩ := hc1 k hml
          have HA : Keep (addG [] ((ps.map Ch.path).take (k + 1)) = nameL (addG [] ((ps.map Ch.path).take k)) ps[k].path) := ⟨by rw [addG_take (by simpa using hml)]; simp⟩
          obtain ⟨ad2, cp2, rfl⟩ := owns_slice hR.row
          have hnm := l6Name_any ad2 cp2 (addG [] ((ps.map Ch.path).take k)) ps[k].path wr (ss_of_rowM hR.row) (by omega)
          generalize addG [] ((ps.map Ch.path).take k) = ls at *
          generalize ps[k].path = s at *
          clear hc1
          go_wp2_with fail
          refine hnm.mono ?_
          rintro e w2 ⟨ad3, cp3, rfl, hrow, hb2⟩
          have hR2 : NmR wc (.slice ad3 (nameL ls s).length cp3) (nameL ls s) w2 := ⟨by
            refine ⟨hrow.1, ?_⟩
            rcases hrow.2 with h' | ⟨g, cap', cur, hv, k1, k2⟩
            · exact .inl h'
            · exact .inr ⟨g, cap', cur, hv, Nat.le_trans hR.bw.size k1, k2⟩, hR.bw.trans (hb2.mono hR.bw.size)⟩
          clear hnm hrow hb2
          go_wp2
          go_roundw
          case rel => exact ⟨k + 1, by congr 1, by omega, by rw [HA.out]; exact hR2⟩
          case measure => simp only [intOf]; omega
        · obtain rfl : k = ps.length := by omega
          rw [List.take_of_length_le (by simp)] at hR hal
          have HL1 : Keep ((addG [] (ps.map Ch.path)).length ≤ 200) := ⟨by omega⟩
          have HJN : Keep (joinNs ps qs = addG (addG [] (ps.map Ch.path)) (qs.map Ch.path)) := ⟨rfl⟩
          clear hal
          generalize addG [] (ps.map Ch.path) = l1 at *
          go_wp2
          clear t1
          go_loopw [6, 8] (fun v i wq => ∃ k : Nat, i = .int .i64 k ∧ k ≤ qs.length ∧ NmR wc v (addG l1 ((qs.map Ch.path).take k)) wq) (fun _ i _ => qs.length - (intOf i).toNat)
          case atStart => exact ⟨0, rfl, Nat.zero_le _, by simpa [addG] using hR⟩
          case round =>
            clear hR
            obtain ⟨k, rfl, hk, hR⟩ := hrel
            have t1 := cell_later hR.bw m1
            have hal := addG_len l1 (qs.map Ch.path) k (by simpa using hk)
            have hl1 := HL1.out
            by_cases hml : k < qs.length
            · have hml' : (k : Int) < qs.length := by omega
              obtain ⟨b1, o1, rfl, hc1⟩ := ((hqs.below hbw).below hR.bw).at hml
              obtain ⟨x0, _⟩ := hc1 k hml
              have HA : Keep (addG l1 ((qs.map Ch.path).take (k + 1)) = nameL (addG l1 ((qs.map Ch.path).take k)) qs[k].path) := ⟨by rw [addG_take (by simpa using hml)]; simp⟩
              obtain ⟨ad2, cp2, rfl⟩ := owns_slice hR.row
              have hnm := l6Name_any ad2 cp2 (addG l1 ((qs.map Ch.path).take k)) qs[k].path wr (ss_of_rowM hR.row) (by omega)
              generalize addG l1 ((qs.map Ch.path).take k) = ls at *
              generalize qs[k].path = s at *
              clear hc1
              go_wp2_with fail
              refine hnm.mono ?_
              rintro e w2 ⟨ad3, cp3, rfl, hrow, hb2⟩
              have hR2 : NmR wc (.slice ad3 (nameL ls s).length cp3) (nameL ls s) w2 := ⟨by
                refine ⟨hrow.1, ?_⟩
                rcases hrow.2 with h' | ⟨g, cap', cur, hv, k1, k2⟩
                · exact .inl h'
                · exact .inr ⟨g, cap', cur, hv, Nat.le_trans hR.bw.size k1, k2⟩, hR.bw.trans (hb2.mono hR.bw.size)⟩
              clear hnm hrow hb2
              go_wp2
              go_roundw
              case rel => exact ⟨k + 1, by congr 1, by omega, by rw [HA.out]; exact hR2⟩
              case measure => simp only [intOf]; omega
            · obtain rfl : k = qs.length := by omega
              rw [List.take_of_length_le (by simp)] at hR
              rw [← HJN.out] at hR
              have hlen : (joinNs ps qs).length ≤ 400 := by have := joinNs_len ps qs; omega
              obtain ⟨an, cn, rfl⟩ := owns_slice hR.row
              obtain ⟨ns, hns⟩ : ∃ ns, ns = joinNs ps qs := ⟨_, rfl⟩
              have HNS : Keep (ns = joinNs ps qs) := ⟨hns⟩
              rw [← hns] at hR hlen ⊢
              have hrow := hR.row
              obtain ⟨ng, HNG⟩ : ∃ ng, Keep (∀ k (h : k < ns.length), an = some ⟨ng, 0, none⟩ ∧ wr.cell? ⟨ng, k, none⟩ = some (.string ns[k])) := by
                by_cases h0 : ns = []
                · exact ⟨0, ⟨fun k hk => by rw [h0] at hk; simp at hk⟩⟩
                · obtain ⟨ng, c, hv2, _⟩ := hrow.form (List.length_pos_iff.2 h0)
                  cases hv2
                  exact ⟨ng, ⟨fun k hk => ⟨rfl, by rw [hrow.cellAt k (by simpa using hk), List.getElem?_map, List.getElem?_eq_getElem hk]; rfl⟩⟩⟩
              have hb3 : Below wr.heap.size wr (wr.alloc (.cells #[.slice none 0 0] 30)) := (Below.refl _ _).alloc (Nat.le_refl _) _
              have hbw2 := (hbw.trans (hR.bw.mono hbw.size)).trans (hb3.mono (hbw.trans (hR.bw.mono hbw.size)).size)
              have hbx := hR.bw.trans (hb3.mono hR.bw.size)
              have o0 : (wr.alloc (.cells #[.slice none 0 0] 30)).cell? ⟨wr.heap.size, 0, none⟩ = some (.slice none 0 0) := by simp
              have of0 : (wr.alloc (.cells #[.slice none 0 0] 30)).frozen? ⟨wr.heap.size, 0, none⟩ = false := by simp
              have os2 : wr.heap.size < (wr.alloc (.cells #[.slice none 0 0] 30)).heap.size := by simp
              have hst0 := OutCh.start o0 of0 os2
              have HNK : Keep (∀ k (h : k < ns.length), an = some ⟨ng, 0, none⟩ ∧ (wr.alloc (.cells #[.slice none 0 0] 30)).cell? ⟨ng, k, none⟩ = some (.string ns[k]) ∧ ng < wr.heap.size) := ⟨fun k hk => ⟨(HNG.out k hk).1, cell_later hb3 (HNG.out k hk).2, World.block_lt_of_cell? wr ⟨ng, k, none⟩ (HNG.out k hk).2⟩⟩
              have HZ : Keep (g < wr.heap.size ∧ wr.heap.size < (wr.alloc (.cells #[.slice none 0 0] 30)).heap.size) := ⟨⟨Nat.lt_of_lt_of_le HS1.out hR.bw.size, os2⟩⟩
              replace m0 := cell_later hbx m0
              replace m1 := cell_later hbx m1
              replace k0 := cell_later hbx k0
              replace kf : (wr.alloc (.cells #[.slice none 0 0] 30)).frozen? ⟨g, 0, none⟩ = false := (hbx.frozen (p := ⟨g, 0, none⟩) HS1.out).trans kf
              go_wp2
              clear hal t1 hl1 HJN HL1 hrow hR HNG hns o0 of0 os2 hb3 hbx
              generalize wr.alloc (.cells #[.slice none 0 0] 30) = W0 at *
              obtain ⟨ob, hob⟩ : ∃ ob, ob = wr.heap.size := ⟨_, rfl⟩
              rw [← hob] at hst0 HZ HNK ⊢
              clear hob
              go_loopw [10] (fun i wr => ∃ (k : Nat) (v : Value), i = .int .i64 k ∧ k ≤ ns.length ∧ OutCh ob W0 v (joinN ps qs (ns.take k)) wr ∧ Keep (∀ n ∈ ns.take k, clJ ps qs n = false)) (fun i _ => ns.length - (intOf i).toNat)
              case atStart => exact ⟨0, _, rfl, Nat.zero_le _, hst0, ⟨fun n hn => by simp at hn⟩⟩
              case round =>
                clear hst0
                obtain ⟨k, v, rfl, hk, hst, HNC⟩ := hrel
                have hbr := hst.below hbw2 (by have := HS.out; have := HZ.out; omega)
                by_cases hlt : k < ns.length
                · have hlt' : (k : Int) < ns.length := by omega
                  obtain ⟨rfl, hnk, hng⟩ := HNK.out k hlt
                  have HTk : Keep (joinN ps qs (ns.take (k + 1)) = joinN ps qs (ns.take k) ++ outJ ps qs ns[k]) := ⟨joinN_take hlt⟩
                  have hdl : (joinN ps qs (ns.take k)).length ≤ 400 := by have := joinN_len ps qs (ns.take k); simp at this; omega
                  have t1 := hst.keep m0 (by have := HS.out; have := HZ.out; omega) (by have := HS.out; have := HZ.out; omega)
                  have t2 := hst.keep m1 (by have := HS.out; have := HZ.out; omega) (by have := HS.out; have := HZ.out; omega)
                  have nk := hst.keep hnk (by have := HZ.out; omega) (by omega)
                  have HNC2 : Keep (clJ ps qs ns[k] = false → ∀ n ∈ ns.take (k + 1), clJ ps qs n = false) := ⟨fun hc n hn => by
                    rw [List.take_succ_eq_append_getElem hlt] at hn
                    rcases List.mem_append.1 hn with h' | h'
                    · exact HNC.out n h'
                    · rw [List.mem_singleton.1 h']; exact hc⟩
                  have HEX : Keep (clJ ps qs ns[k] = true → ∃ n ∈ joinNs ps qs, clJ ps qs n = true) := ⟨fun hc => ⟨ns[k], by rw [← HNS.out]; exact List.getElem_mem hlt, hc⟩⟩
                  have HMEM : Keep ((∃ x ∈ ps, Ch.path x = ns[k]) ∨ ∃ y ∈ qs, Ch.path y = ns[k]) := ⟨((joinNs_mem ps qs).2 ns[k]).1 (by rw [← HNS.out]; exact List.getElem_mem hlt)⟩
                  generalize joinN ps qs (ns.take k) = cs at *
                  obtain ⟨s, hs⟩ : ∃ s, s = ns[k] := ⟨_, rfl⟩
                  rw [← hs] at nk HTk HNC2 HEX HMEM
                  have HO : Keep (outJ ps qs s = outJ2 s (fnd Ch.path ps s) (fnd Ch.path qs s) ∧ clJ ps qs s = clJ2 (fnd Ch.path ps s) (fnd Ch.path qs s)) := ⟨⟨rfl, rfl⟩⟩
                  obtain ⟨c, hc⟩ : ∃ c, c = (fnd Ch.path ps s).getD noCh := ⟨_, rfl⟩
                  obtain ⟨d, hd⟩ : ∃ d, d = (fnd Ch.path qs s).getD noCh := ⟨_, rfl⟩
                  obtain ⟨bc, hbc⟩ : ∃ x, x = (fnd Ch.path ps s).isSome := ⟨_, rfl⟩
                  obtain ⟨bd, hbd⟩ : ∃ x, x = (fnd Ch.path qs s).isSome := ⟨_, rfl⟩
                  have HCD : Keep ((bc = true → fnd Ch.path ps s = some c) ∧ (bc = false → fnd Ch.path ps s = none) ∧ (bd = true → fnd Ch.path qs s = some d) ∧ (bd = false → fnd Ch.path qs s = none)) := ⟨by
                    rw [hc, hd, hbc, hbd]
                    refine ⟨fun h => ?_, fun h => by simpa using h, fun h => ?_, fun h => by simpa using h⟩
                    · obtain ⟨x, hx⟩ := Option.isSome_iff_exists.1 h; rw [hx]; rfl
                    · obtain ⟨x, hx⟩ := Option.isSome_iff_exists.1 h; rw [hx]; rfl⟩
                  have HA1 : Keep (∀ X, Below wr.heap.size wr X → Calls Try.prog 48 #[.agg #[.slice a ps.length ca], .string s] X fun e w' => e = .returned (.tuple #[.agg #[.string c.path, .bool c.old.there, .string c.old.text, .bool c.old.runs, .bool c.new.there, .string c.new.text, .bool c.new.runs], .bool bc]) ∧ Below X.heap.size X w') := ⟨fun X hX => by rw [hc, hbc]; exact l6Change_any a ca ps s X ((hps.below hbr).below hX) (by omega)⟩
                  have HA2 : Keep (∀ X, Below wr.heap.size wr X → Calls Try.prog 48 #[.agg #[.slice b qs.length cb], .string s] X fun e w' => e = .returned (.tuple #[.agg #[.string d.path, .bool d.old.there, .string d.old.text, .bool d.old.runs, .bool d.new.there, .string d.new.text, .bool d.new.runs], .bool bd]) ∧ Below X.heap.size X w') := ⟨fun X hX => by rw [hd, hbd]; exact l6Change_any b cb qs s X ((hqs.below hbr).below hX) (by omega)⟩
                  clear hs hc hd hbc hbd hnk
                  have kq : ∀ {W W' : World}, Below wr.heap.size wr W → Below W.heap.size W W' → Below wr.heap.size wr W' := fun h h' => h.trans (h'.mono h.size)
                  have q0 : Below wr.heap.size wr wr.drew := (Below.refl _ _).drew
                  have qa := ((Below.refl wr.heap.size wr).alloc (Nat.le_refl _) (.cells #[.string ⟨#[]⟩, .bool false, .string ⟨#[]⟩, .bool false, .bool false, .string ⟨#[]⟩, .bool false] 68)).drew
                  go_upto_region 16 with fail
                  go_cut [11, 12] from 56 to 120 (fun pv bv wx => CutX c bc wr pv bv wx)
                  case first =>
                    refine (wpIn_wide (n := 0)).1 ?_
                    refine wpIn_region_inv0 (by kernel_rfl) (by kernel_rfl) (fun T0 => XV T0 [63, 64, 65, 66, 67, 68, 62, 69, 70, 11, 1000, 12] wr (.agg #[.slice a ps.length ca]) (.slice (some ⟨ng, 0, none⟩) ns.length cn) (.int .i64 k) (.pointer (some ⟨ng, k, none⟩)) s c bc 11) ?_ ?_ ?_
                    · exact ⟨Sl2.start _, (Below.refl _ _).drew, (fun h => by rw [getD_repl] at h; cases h)⟩
                    · intro L a2 w9 hinv hall
                      obtain ⟨fb, f1, f2, f3⟩ := hinv.bx (hall 9 (by decide))
                      rw [if_pos (hall 10 (by decide))] at f3
                      have f4 : a2.eval (.tmp 12) = .bool bc := hinv.sl.sl 11 (by decide) _ rfl (hall 11 (by decide))
                      have HX : Keep _ := ⟨hinv.sl.act⟩
                      have f5 := hinv.wd
                      clear hinv hall
                      rw [HX.out]
                      go_wp2_with fail
                      go_meet
                      case rel => exact ⟨fb, evalD2 f1, evalD2 f4, f3, f2, f5⟩
                    · intro L a2 w9 i o hinv hcl hL ho hdep
                      have hi12 : i < 12 := (Array.getElem?_eq_some_iff.1 ho).1
                      have nd := (by decide : ([63, 64, 65, 66, 67, 68, 62, 69, 70, 11, 1000, 12] : List Nat).Nodup)
                      unfold wpOpIn
                      rw [ho]
                      have c1 := cell_later hinv.wd t1
                      have c2 := cell_later hinv.wd nk
                      have HC5 := HA1.out w9 hinv.wd
                      have hc10 : L.getD 9 true = false → L.getD 10 false = false := fun h9 => by
                        cases hb : L.getD 10 false with
                        | false => rfl
                        | true =>
                          have h := hcl 10 _ rfl hb ⟨9, .data⟩ (by simp) rfl
                          rw [getD_ft h9] at h
                          cases h
                      clear hcl
                      match i, hi12, hL, ho, hdep with
                      | 0, _, hL, ho, hdep =>
                        injection ho with ho; subst ho
                        dsimp only
                        rw [if_pos (by rfl)]
                        refine ⟨fun f _ => trivial, ?_⟩
                        have e2 : a2.tmps[2]?.getD undef = .pointer (some ⟨ta, 0, none⟩) := hinv.sl.old (by decide)
                        go_simp
                        exact hinv.step nd (i := 0) (by decide) (show 63 < 127 by omega) (by decide) (by decide) (by decide) rfl (Below.refl _ _)
                      | 1, _, hL, ho, hdep =>
                        injection ho with ho; subst ho
                        dsimp only
                        rw [if_pos (by rfl)]
                        refine ⟨fun f _ => trivial, ?_⟩
                        have e6 : a2.tmps[6]?.getD undef = .slice (some ⟨ng, 0, none⟩) ns.length cn := hinv.sl.old (by decide)
                        go_simp
                        exact hinv.step nd (i := 1) (by decide) (show 64 < 127 by omega) (by decide) (by decide) (by decide) rfl (Below.refl _ _)
                      | 2, _, hL, ho, hdep =>
                        injection ho with ho; subst ho
                        dsimp only
                        rw [if_pos (by rfl)]
                        refine ⟨fun f _ => trivial, ?_⟩
                        have e10 : a2.tmps[10]?.getD undef = .int .i64 k := hinv.sl.old (by decide)
                        go_simp
                        exact hinv.step nd (i := 2) (by decide) (show 65 < 127 by omega) (by decide) (by decide) (by decide) rfl (Below.refl _ _)
                      | 3, _, hL, ho, hdep =>
                        injection ho with ho; subst ho
                        dsimp only
                        rw [if_pos (by rfl)]
                        refine ⟨fun f _ => trivial, ?_⟩
                        have ea : a2.tmps[64]?.getD undef = .slice (some ⟨ng, 0, none⟩) ns.length cn := hinv.sl.new (i := 1) (by decide) rfl (hdep ⟨1, .data⟩ (by simp) rfl)
                        have eb : a2.tmps[65]?.getD undef = .int .i64 k := hinv.sl.new (i := 2) (by decide) rfl (hdep ⟨2, .data⟩ (by simp) rfl)
                        go_simp
                        exact hinv.step nd (i := 3) (by decide) (show 66 < 127 by omega) (by decide) (by decide) (by decide) rfl (Below.refl _ _)
                      | 4, _, hL, ho, hdep =>
                        injection ho with ho; subst ho
                        dsimp only
                        rw [if_pos (by rfl)]
                        refine ⟨fun f _ => trivial, ?_⟩
                        have ea : a2.tmps[66]?.getD undef = .pointer (some ⟨ng, k, none⟩) := hinv.sl.new (i := 3) (by decide) rfl (hdep ⟨3, .data⟩ (by simp) rfl)
                        go_simp
                        exact hinv.step nd (i := 4) (by decide) (show 67 < 127 by omega) (by decide) (by decide) (by decide) rfl (Below.refl _ _)
                      | 5, _, hL, ho, hdep =>
                        injection ho with ho; subst ho
                        dsimp only
                        rw [if_pos (by rfl)]
                        refine ⟨fun f _ => trivial, ?_⟩
                        have ea : a2.tmps[63]?.getD undef = .agg #[.slice a ps.length ca] := hinv.sl.new (i := 0) (by decide) rfl (hdep ⟨0, .data⟩ (by simp) rfl)
                        have eb : a2.tmps[67]?.getD undef = .string s := hinv.sl.new (i := 4) (by decide) rfl (hdep ⟨4, .data⟩ (by simp) rfl)
                        go_simp
                        refine ⟨rfl, CallsIn.mono (callsIn_wide.2 HC5) ?_⟩
                        rintro e w' ⟨rfl, hb'⟩
                        exact hinv.step nd (i := 5) (by decide) (show 68 < 127 by omega) (by decide) (by decide) (by decide) rfl hb'
                      | 6, _, hL, ho, hdep =>
                        injection ho with ho; subst ho
                        dsimp only
                        rw [if_pos (by rfl)]
                        refine ⟨fun f _ => trivial, ?_⟩
                        have ea := hinv.sl.new (i := 5) (by decide) rfl (hdep ⟨5, .data⟩ (by simp) rfl)
                        dsimp only [List.getElem_cons_zero, List.getElem_cons_succ] at ea
                        go_simp
                        exact hinv.step nd (i := 6) (by decide) (show 62 < 127 by omega) (by decide) (by decide) (by decide) rfl (Below.refl _ _)
                      | 7, _, hL, ho, hdep =>
                        injection ho with ho; subst ho
                        dsimp only
                        rw [if_pos (by rfl)]
                        refine ⟨fun f _ => trivial, ?_⟩
                        have ea := hinv.sl.new (i := 6) (by decide) rfl (hdep ⟨6, .data⟩ (by simp) rfl)
                        dsimp only [List.getElem_cons_zero, List.getElem_cons_succ] at ea
                        go_simp
                        exact hinv.step nd (i := 7) (by decide) (show 69 < 127 by omega) (by decide) (by decide) (by decide) rfl (Below.refl _ _)
                      | 8, _, hL, ho, hdep =>
                        injection ho with ho; subst ho
                        dsimp only
                        rw [if_pos (by rfl)]
                        refine ⟨fun f _ => trivial, ?_⟩
                        have ea := hinv.sl.new (i := 6) (by decide) rfl (hdep ⟨6, .data⟩ (by simp) rfl)
                        dsimp only [List.getElem_cons_zero, List.getElem_cons_succ] at ea
                        go_simp
                        exact hinv.step nd (i := 8) (by decide) (show 70 < 127 by omega) (by decide) (by decide) (by decide) rfl (Below.refl _ _)
                      | 9, _, hL, ho, hdep =>
                        injection ho with ho; subst ho
                        dsimp only
                        rw [if_pos (by rfl)]
                        refine ⟨fun f _ => trivial, ?_⟩
                        go_simp
                        exact XV.box (by decide) hinv nd (show 11 < 127 by omega) (hc10 hL)
                      | 10, _, hL, ho, hdep =>
                        injection ho with ho; subst ho
                        dsimp only
                        rw [if_pos (by rfl)]
                        refine ⟨fun f _ => trivial, ?_⟩
                        obtain ⟨fb, f1, f2, f3⟩ := hinv.bx (hdep ⟨9, .data⟩ (by simp) rfl)
                        rw [if_neg (by rw [getD_ft hL]; simp)] at f3
                        have ea : a2.tmps[11]?.getD undef = .pointer (some ⟨fb, 0, none⟩) := evalD2 f1
                        have eb := hinv.sl.new (i := 7) (by decide) rfl (hdep ⟨7, .data⟩ (by simp) rfl)
                        dsimp only [List.getElem_cons_zero, List.getElem_cons_succ] at eb
                        have n0 := f3.c0
                        have n1 := f3.c1
                        have n2 := f3.c2
                        have n3 := f3.c3
                        have n4 := f3.c4
                        have n5 := f3.c5
                        have n6 := f3.c6
                        have nf := f3.fz
                        go_simp
                        exact hinv.store f1 f2 f3 hL
                      | 11, _, hL, ho, hdep =>
                        injection ho with ho; subst ho
                        dsimp only
                        rw [if_pos (by rfl)]
                        refine ⟨fun f _ => trivial, ?_⟩
                        have ea := hinv.sl.new (i := 8) (by decide) rfl (hdep ⟨8, .data⟩ (by simp) rfl)
                        dsimp only [List.getElem_cons_zero, List.getElem_cons_succ] at ea
                        go_simp
                        exact hinv.step nd (i := 11) (by decide) (show 12 < 127 by omega) (by decide) (by decide) (by decide) rfl (Below.refl _ _)
                  case rest =>
                    obtain ⟨fb, rfl, rfl, hF, hfb, hB1⟩ := hcut
                    clear q0 qa
                    generalize hwd : wc = wd at *
                    clear hwd
                    have t2w := cell_later hB1 t2
                    have nkw := cell_later hB1 nk
                    have q0 : Below wr.heap.size wr wd.drew := hB1.drew
                    have qa := (hB1.alloc hB1.size (.cells #[.string ⟨#[]⟩, .bool false, .string ⟨#[]⟩, .bool false, .bool false, .string ⟨#[]⟩, .bool false] 68)).drew
                    have q1 : Below wd.heap.size wd wd.drew := (Below.refl _ _).drew
                    have q2 := ((Below.refl wd.heap.size wd).alloc (Nat.le_refl _) (.cells #[.string ⟨#[]⟩, .bool false, .string ⟨#[]⟩, .bool false, .bool false, .string ⟨#[]⟩, .bool false] 68)).drew
                    go_upto_region 17 with fail
                    go_cut [13, 14] from 56 to 120 (fun pv bv wx => CutX d bd wd pv bv wx)
                    case first =>
                      refine (wpIn_wide (n := 0)).1 ?_
                      refine wpIn_region_inv0 (by kernel_rfl) (by kernel_rfl) (fun T0 => XV T0 [72, 73, 74, 75, 76, 77, 71, 78, 79, 13, 1000, 14] wd (.agg #[.slice b qs.length cb]) (.slice (some ⟨ng, 0, none⟩) ns.length cn) (.int .i64 k) (.pointer (some ⟨ng, k, none⟩)) s d bd 13) ?_ ?_ ?_
                      · exact ⟨Sl2.start _, (Below.refl _ _).drew, (fun h => by rw [getD_repl] at h; cases h)⟩
                      · intro L a2 w9 hinv hall
                        obtain ⟨fb, f1, f2, f3⟩ := hinv.bx (hall 9 (by decide))
                        rw [if_pos (hall 10 (by decide))] at f3
                        have f4 : a2.eval (.tmp 14) = .bool bd := hinv.sl.sl 11 (by decide) _ rfl (hall 11 (by decide))
                        have HX : Keep _ := ⟨hinv.sl.act⟩
                        have f5 := hinv.wd
                        clear hinv hall
                        rw [HX.out]
                        go_wp2_with fail
                        go_meet
                        case rel => exact ⟨fb, evalD2 f1, evalD2 f4, f3, f2, f5⟩
                      · intro L a2 w9 i o hinv hcl hL ho hdep
                        have hi12 : i < 12 := (Array.getElem?_eq_some_iff.1 ho).1
                        have nd := (by decide : ([72, 73, 74, 75, 76, 77, 71, 78, 79, 13, 1000, 14] : List Nat).Nodup)
                        unfold wpOpIn
                        rw [ho]
                        have c1 := cell_later hinv.wd t2w
                        have c2 := cell_later hinv.wd nkw
                        have HC5 := HA2.out w9 (kq hB1 hinv.wd)
                        have hc10 : L.getD 9 true = false → L.getD 10 false = false := fun h9 => by
                          cases hb : L.getD 10 false with
                          | false => rfl
                          | true =>
                            have h := hcl 10 _ rfl hb ⟨9, .data⟩ (by simp) rfl
                            rw [getD_ft h9] at h
                            cases h
                        clear hcl
                        match i, hi12, hL, ho, hdep with
                        | 0, _, hL, ho, hdep =>
                          injection ho with ho; subst ho
                          dsimp only
                          rw [if_pos (by rfl)]
                          refine ⟨fun f _ => trivial, ?_⟩
                          have e2 : a2.tmps[3]?.getD undef = .pointer (some ⟨tb, 0, none⟩) := hinv.sl.old (by decide)
                          go_simp
                          exact hinv.step nd (i := 0) (by decide) (show 72 < 127 by omega) (by decide) (by decide) (by decide) rfl (Below.refl _ _)
                        | 1, _, hL, ho, hdep =>
                          injection ho with ho; subst ho
                          dsimp only
                          rw [if_pos (by rfl)]
                          refine ⟨fun f _ => trivial, ?_⟩
                          have e6 : a2.tmps[6]?.getD undef = .slice (some ⟨ng, 0, none⟩) ns.length cn := hinv.sl.old (by decide)
                          go_simp
                          exact hinv.step nd (i := 1) (by decide) (show 73 < 127 by omega) (by decide) (by decide) (by decide) rfl (Below.refl _ _)
                        | 2, _, hL, ho, hdep =>
                          injection ho with ho; subst ho
                          dsimp only
                          rw [if_pos (by rfl)]
                          refine ⟨fun f _ => trivial, ?_⟩
                          have e10 : a2.tmps[10]?.getD undef = .int .i64 k := hinv.sl.old (by decide)
                          go_simp
                          exact hinv.step nd (i := 2) (by decide) (show 74 < 127 by omega) (by decide) (by decide) (by decide) rfl (Below.refl _ _)
                        | 3, _, hL, ho, hdep =>
                          injection ho with ho; subst ho
                          dsimp only
                          rw [if_pos (by rfl)]
                          refine ⟨fun f _ => trivial, ?_⟩
                          have ea : a2.tmps[73]?.getD undef = .slice (some ⟨ng, 0, none⟩) ns.length cn := hinv.sl.new (i := 1) (by decide) rfl (hdep ⟨1, .data⟩ (by simp) rfl)
                          have eb : a2.tmps[74]?.getD undef = .int .i64 k := hinv.sl.new (i := 2) (by decide) rfl (hdep ⟨2, .data⟩ (by simp) rfl)
                          go_simp
                          exact hinv.step nd (i := 3) (by decide) (show 75 < 127 by omega) (by decide) (by decide) (by decide) rfl (Below.refl _ _)
                        | 4, _, hL, ho, hdep =>
                          injection ho with ho; subst ho
                          dsimp only
                          rw [if_pos (by rfl)]
                          refine ⟨fun f _ => trivial, ?_⟩
                          have ea : a2.tmps[75]?.getD undef = .pointer (some ⟨ng, k, none⟩) := hinv.sl.new (i := 3) (by decide) rfl (hdep ⟨3, .data⟩ (by simp) rfl)
                          go_simp
                          exact hinv.step nd (i := 4) (by decide) (show 76 < 127 by omega) (by decide) (by decide) (by decide) rfl (Below.refl _ _)
                        | 5, _, hL, ho, hdep =>
                          injection ho with ho; subst ho
                          dsimp only
                          rw [if_pos (by rfl)]
                          refine ⟨fun f _ => trivial, ?_⟩
                          have ea : a2.tmps[72]?.getD undef = .agg #[.slice b qs.length cb] := hinv.sl.new (i := 0) (by decide) rfl (hdep ⟨0, .data⟩ (by simp) rfl)
                          have eb : a2.tmps[76]?.getD undef = .string s := hinv.sl.new (i := 4) (by decide) rfl (hdep ⟨4, .data⟩ (by simp) rfl)
                          go_simp
                          refine ⟨rfl, CallsIn.mono (callsIn_wide.2 HC5) ?_⟩
                          rintro e w' ⟨rfl, hb'⟩
                          exact hinv.step nd (i := 5) (by decide) (show 77 < 127 by omega) (by decide) (by decide) (by decide) rfl hb'
                        | 6, _, hL, ho, hdep =>
                          injection ho with ho; subst ho
                          dsimp only
                          rw [if_pos (by rfl)]
                          refine ⟨fun f _ => trivial, ?_⟩
                          have ea := hinv.sl.new (i := 5) (by decide) rfl (hdep ⟨5, .data⟩ (by simp) rfl)
                          dsimp only [List.getElem_cons_zero, List.getElem_cons_succ] at ea
                          go_simp
                          exact hinv.step nd (i := 6) (by decide) (show 71 < 127 by omega) (by decide) (by decide) (by decide) rfl (Below.refl _ _)
                        | 7, _, hL, ho, hdep =>
                          injection ho with ho; subst ho
                          dsimp only
                          rw [if_pos (by rfl)]
                          refine ⟨fun f _ => trivial, ?_⟩
                          have ea := hinv.sl.new (i := 6) (by decide) rfl (hdep ⟨6, .data⟩ (by simp) rfl)
                          dsimp only [List.getElem_cons_zero, List.getElem_cons_succ] at ea
                          go_simp
                          exact hinv.step nd (i := 7) (by decide) (show 78 < 127 by omega) (by decide) (by decide) (by decide) rfl (Below.refl _ _)
                        | 8, _, hL, ho, hdep =>
                          injection ho with ho; subst ho
                          dsimp only
                          rw [if_pos (by rfl)]
                          refine ⟨fun f _ => trivial, ?_⟩
                          have ea := hinv.sl.new (i := 6) (by decide) rfl (hdep ⟨6, .data⟩ (by simp) rfl)
                          dsimp only [List.getElem_cons_zero, List.getElem_cons_succ] at ea
                          go_simp
                          exact hinv.step nd (i := 8) (by decide) (show 79 < 127 by omega) (by decide) (by decide) (by decide) rfl (Below.refl _ _)
                        | 9, _, hL, ho, hdep =>
                          injection ho with ho; subst ho
                          dsimp only
                          rw [if_pos (by rfl)]
                          refine ⟨fun f _ => trivial, ?_⟩
                          go_simp
                          exact XV.box (by decide) hinv nd (show 13 < 127 by omega) (hc10 hL)
                        | 10, _, hL, ho, hdep =>
                          injection ho with ho; subst ho
                          dsimp only
                          rw [if_pos (by rfl)]
                          refine ⟨fun f _ => trivial, ?_⟩
                          obtain ⟨fb, f1, f2, f3⟩ := hinv.bx (hdep ⟨9, .data⟩ (by simp) rfl)
                          rw [if_neg (by rw [getD_ft hL]; simp)] at f3
                          have ea : a2.tmps[13]?.getD undef = .pointer (some ⟨fb, 0, none⟩) := evalD2 f1
                          have eb := hinv.sl.new (i := 7) (by decide) rfl (hdep ⟨7, .data⟩ (by simp) rfl)
                          dsimp only [List.getElem_cons_zero, List.getElem_cons_succ] at eb
                          have n0 := f3.c0
                          have n1 := f3.c1
                          have n2 := f3.c2
                          have n3 := f3.c3
                          have n4 := f3.c4
                          have n5 := f3.c5
                          have n6 := f3.c6
                          have nf := f3.fz
                          go_simp
                          exact hinv.store f1 f2 f3 hL
                        | 11, _, hL, ho, hdep =>
                          injection ho with ho; subst ho
                          dsimp only
                          rw [if_pos (by rfl)]
                          refine ⟨fun f _ => trivial, ?_⟩
                          have ea := hinv.sl.new (i := 8) (by decide) rfl (hdep ⟨8, .data⟩ (by simp) rfl)
                          dsimp only [List.getElem_cons_zero, List.getElem_cons_succ] at ea
                          go_simp
                          exact hinv.step nd (i := 11) (by decide) (show 14 < 127 by omega) (by decide) (by decide) (by decide) rfl (Below.refl _ _)
                    case rest =>
                      obtain ⟨gb, rfl, rfl, hG, hgb, hB2⟩ := hcut
                      have hF2 := hF.later hB2
                      have hB3 : Below wr.heap.size wr wc := kq hB1 hB2
                      have hst2 := hst.later hB3
                      have nk2 := cell_later hB3 nk
                      have k2 := hst2.keep k0 (by have := HS.out; have := HZ.out; omega) (by have := HS.out; have := HZ.out; omega)
                      have kf2 : wc.frozen? ⟨g, 0, none⟩ = false := frozen_of (hst2.grown.block g (by have := HS.out; have := HZ.out; omega) (fun e => by have := HS.out; have := HZ.out; cases e; omega)) kf
                      have hbX := hst2.below hbw2 (by have := HS.out; have := HZ.out; omega)
                      clear t1 t2 t2w nk nkw q0 qa q1 q2 hF hB1 hB2 HA1 HA2 kq hbr hst hfb hgb hB3
                      generalize hX : wc = X at *
                      clear hX
                      have x0 := hF2.c0
                      have x1 := hF2.c1
                      have x2 := hF2.c2
                      have x3 := hF2.c3
                      have x4 := hF2.c4
                      have x5 := hF2.c5
                      have x6 := hF2.c6
                      have y0 := hG.c0
                      have y1 := hG.c1
                      have y2 := hG.c2
                      have y3 := hG.c3
                      have y4 := hG.c4
                      have y5 := hG.c5
                      have y6 := hG.c6
                      clear hF2 hG
                      cases bc with
                      | false =>
                        have hn1 := HCD.out.2.1 rfl
                        cases bd with
                        | false =>
                          exfalso
                          have hn2 := HCD.out.2.2.2 rfl
                          rcases HMEM.out with ⟨z, hz, hzs⟩ | ⟨z, hz, hzs⟩
                          · unfold fnd at hn1
                            rw [List.find?_eq_none] at hn1
                            exact hn1 z hz (eqb_iff.2 hzs)
                          · unfold fnd at hn2
                            rw [List.find?_eq_none] at hn2
                            exact hn2 z hz (eqb_iff.2 hzs)
                        | true =>
                          have hn2 := HCD.out.2.2.1 rfl
                          have HO2 : Keep (outJ ps qs s = [d]) := ⟨by rw [HO.out.1, hn1, hn2]; rfl⟩
                          have HN3 : Keep (∀ n ∈ ns.take (k + 1), clJ ps qs n = false) := ⟨HNC2.out (by rw [HO.out.2, hn1]; rfl)⟩
                          clear hn1 hn2 HCD
                          have hb2 : Below X.heap.size X (X.alloc (.cells #[.string d.path, .bool d.old.there, .string d.old.text, .bool d.old.runs, .bool d.new.there, .string d.new.text, .bool d.new.runs] 68)) := (Below.refl _ _).alloc (Nat.le_refl _) _
                          have o2 := hst2.cell
                          have o2a : ∀ o, (X.alloc o).cell? ⟨ob, 0, none⟩ = some v := fun o => cell_later ((Below.refl _ _).alloc (Nat.le_refl _) o) o2
                          go_wp2_with (first | (at_builtin; refine wpList_append_lies _ rfl _ _ 28 rfl W0.heap.size 68 i0 _ 7 80 Try.underlying28 hi hz0 hz1 hzb rfl (by decide) v cs.length (ccells cs) rfl (hst2.row.alloc _) ⟨X.heap.size, 0, none⟩ 1 1 (chL d) rfl rfl (news_7 X d _ _ rfl) (one_7 _) (by omega) (by unfold maxLen; omega) (by omega) (by have := hst2.grown.size; simp; omega) (X.heap.size + 1) (by simp) ?_; intro g2 cap2 w2 hown2 hgrow2 hat2 hlt2; obtain ⟨hc2, hf2⟩ := hst2.mid hb2 hgrow2))
                          have hst3 := hst2.append hb2 hgrow2 hown2
                          clear hc2 hf2 hb2 hgrow2 hown2 hat2 hlt2 o2 o2a x0 x1 x2 x3 x4 x5 x6 y0 y1 y2 y3 y4 y5 y6 hst2 nk2
                          go_roundw
                          case rel => exact ⟨k + 1, _, by congr 1, hlt, by rw [HTk.out, HO2.out]; exact hst3, HN3⟩
                          case measure => simp only [intOf]; omega
                      | true =>
                        have hn1 := HCD.out.1 rfl
                        cases bd with
                        | false =>
                          have hn2 := HCD.out.2.2.2 rfl
                          have HO2 : Keep (outJ ps qs s = [c]) := ⟨by rw [HO.out.1, hn1, hn2]; rfl⟩
                          have HN3 : Keep (∀ n ∈ ns.take (k + 1), clJ ps qs n = false) := ⟨HNC2.out (by rw [HO.out.2, hn1, hn2]; rfl)⟩
                          clear hn1 hn2 HCD
                          have hb2 : Below X.heap.size X (X.alloc (.cells #[.string c.path, .bool c.old.there, .string c.old.text, .bool c.old.runs, .bool c.new.there, .string c.new.text, .bool c.new.runs] 68)) := (Below.refl _ _).alloc (Nat.le_refl _) _
                          have o2 := hst2.cell
                          have o2a : ∀ o, (X.alloc o).cell? ⟨ob, 0, none⟩ = some v := fun o => cell_later ((Below.refl _ _).alloc (Nat.le_refl _) o) o2
                          go_wp2_with (first | (at_builtin; refine wpList_append_lies _ rfl _ _ 28 rfl W0.heap.size 68 i0 _ 7 80 Try.underlying28 hi hz0 hz1 hzb rfl (by decide) v cs.length (ccells cs) rfl (hst2.row.alloc _) ⟨X.heap.size, 0, none⟩ 1 1 (chL c) rfl rfl (news_7 X c _ _ rfl) (one_7 _) (by omega) (by unfold maxLen; omega) (by omega) (by have := hst2.grown.size; simp; omega) (X.heap.size + 1) (by simp) ?_; intro g2 cap2 w2 hown2 hgrow2 hat2 hlt2; obtain ⟨hc2, hf2⟩ := hst2.mid hb2 hgrow2))
                          have hst3 := hst2.append hb2 hgrow2 hown2
                          clear hc2 hf2 hb2 hgrow2 hown2 hat2 hlt2 o2 o2a x0 x1 x2 x3 x4 x5 x6 y0 y1 y2 y3 y4 y5 y6 hst2 nk2
                          go_roundw
                          case rel => exact ⟨k + 1, _, by congr 1, hlt, by rw [HTk.out, HO2.out]; exact hst3, HN3⟩
                          case measure => simp only [intOf]; omega
                        | true =>
                          have hn2 := HCD.out.2.2.1 rfl
                          have HCL : Keep (clJ ps qs s = !sameF c.new d.old) := ⟨by rw [HO.out.2, hn1, hn2]; rfl⟩
                          have HO1 : Keep (outJ ps qs s = if sameF c.old d.new = true then [] else [⟨s, c.old, d.new⟩]) := ⟨by rw [HO.out.1, hn1, hn2]; rfl⟩
                          clear hn1 hn2 HCD
                          cases hsm : sameF c.new d.old with
                          | false =>
                            have HB9 : Keep (JoinPost ps qs w (.returned (.tuple #[.agg #[.slice none ([] : List Ch).length 0], .bool false])) (X.setCell ⟨g, 0, none⟩ (.slice none 0 0))) := ⟨⟨[], false, .inr ⟨hv.1, hv.2, .inl ⟨HEX.out (by rw [HCL.out, hsm]; rfl), rfl, rfl⟩⟩, ⟨none, 0, rfl, CL.nil _ _ _⟩, hbX.setCell (p := ⟨g, 0, none⟩) (by have := HS.out; show _ ≤ g; omega) _⟩⟩
                            by_cases h1 : c.new.there = d.old.there
                            · by_cases h2 : c.new.text.toList = d.old.text.toList
                              · by_cases h3 : c.new.runs = d.old.runs
                                · exfalso
                                  rw [Bool.eq_false_iff] at hsm
                                  exact hsm (by simp [sameF, h1, h2, h3])
                                · go_wp2
                                  refine bodyPost_ret (v := .tuple #[.agg #[.slice none ([] : List Ch).length 0], .bool false]) ?_ rfl HB9.out
                                  go_light
                                  simp [results, Try.results17, go_sem, k2]
                              · go_wp2
                                refine bodyPost_ret (v := .tuple #[.agg #[.slice none ([] : List Ch).length 0], .bool false]) ?_ rfl HB9.out
                                go_light
                                simp [results, Try.results17, go_sem, k2]
                            · go_wp2
                              refine bodyPost_ret (v := .tuple #[.agg #[.slice none ([] : List Ch).length 0], .bool false]) ?_ rfl HB9.out
                              go_light
                              simp [results, Try.results17, go_sem, k2]
                          | true =>
                            have HN3 : Keep (∀ n ∈ ns.take (k + 1), clJ ps qs n = false) := ⟨HNC2.out (by rw [HCL.out, hsm]; rfl)⟩
                            obtain ⟨⟨h1, h2⟩, h3⟩ : (c.new.there = d.old.there ∧ c.new.text.toList = d.old.text.toList) ∧ c.new.runs = d.old.runs := by simpa [sameF] using hsm
                            have h4 : c.new.text = d.old.text := WideShapes.bytes_inj (by rw [← Lib.toList_data, ← Lib.toList_data]; exact h2)
                            rw [← h1] at y1
                            rw [← h4] at y2
                            rw [← h3] at y3
                            clear hsm h1 h2 h3 h4
                            go_upto_region 24 with fail
                            cases hs2 : sameF c.old d.new with
                            | true =>
                              have HO2 : Keep (outJ ps qs s = []) := ⟨by rw [HO1.out, if_pos hs2]⟩
                              obtain ⟨⟨h1, h2⟩, h3⟩ : (c.old.there = d.new.there ∧ c.old.text.toList = d.new.text.toList) ∧ c.old.runs = d.new.runs := by simpa [sameF] using hs2
                              have h4 : c.old.text = d.new.text := WideShapes.bytes_inj (by rw [← Lib.toList_data, ← Lib.toList_data]; exact h2)
                              rw [← h1] at y4
                              rw [← h4] at y5
                              rw [← h3] at y6
                              clear hs2 h1 h2 h3 h4
                              go_wp2
                              go_roundw
                              case rel => exact ⟨k + 1, v, by congr 1, hlt, by rw [HTk.out, HO2.out, List.append_nil]; exact hst2, HN3⟩
                              case measure => simp only [intOf]; omega
                            | false =>
                              have HO2 : Keep (outJ ps qs s = [⟨s, c.old, d.new⟩]) := ⟨by rw [HO1.out, if_neg (by rw [hs2]; simp)]⟩
                              go_cut [106] from 56 to 120 (fun x wx => x = .bool true ∧ X = wx)
                              case first =>
                                by_cases h1 : c.old.there = d.new.there
                                · by_cases h2 : c.old.text.toList = d.new.text.toList
                                  · by_cases h3 : c.old.runs = d.new.runs
                                    · exfalso
                                      rw [Bool.eq_false_iff] at hs2
                                      exact hs2 (by simp [sameF, h1, h2, h3])
                                    · go_wp2_with fail
                                      go_meet
                                      case rel => exact ⟨rfl, rfl⟩
                                  · go_wp2_with fail
                                    go_meet
                                    case rel => exact ⟨rfl, rfl⟩
                                · go_wp2_with fail
                                  go_meet
                                  case rel => exact ⟨rfl, rfl⟩
                              case rest =>
                                obtain ⟨rfl, rfl⟩ := hcut
                                clear hs2
                                obtain ⟨ad9, cp9, rfl⟩ := owns_slice hst2.row
                                have hb1' : Below X.heap.size X (X.drew.alloc (.cells #[.string s, .bool c.old.there, .string c.old.text, .bool c.old.runs, .bool d.new.there, .string d.new.text, .bool d.new.runs] 68)) := (Below.refl X.heap.size X).drew.alloc (Nat.le_refl _) _
                                have o1 := hst2.cell
                                have o1a : ∀ o, (X.drew.alloc o).cell? ⟨ob, 0, none⟩ = some (.slice ad9 cs.length cp9) := fun o => cell_later ((Below.refl X.heap.size X).drew.alloc (Nat.le_refl _) o) o1
                                have o1b : ∀ o, (X.alloc o).cell? ⟨ob, 0, none⟩ = some (.slice ad9 cs.length cp9) := fun o => cell_later ((Below.refl _ _).alloc (Nat.le_refl _) o) o1
                                have HST : Keep (OutCh ob W0 (.slice ad9 cs.length cp9) cs X) := ⟨hst2⟩
                                have hgs := hst2.grown.size
                                clear hst2
                                go_upto_region 25 with fail
                                refine (wpIn_wide (n := 0)).1 ?_
                                refine wpIn_region_inv0 (by kernel_rfl) (by kernel_rfl) (fun T0 => AV T0 ob fb gb W0 X (.slice ad9 cs.length cp9) (.slice (some ⟨ng, 0, none⟩) ns.length cn) (.int .i64 k) (.pointer (some ⟨ng, k, none⟩)) s c.old d.new cs) ?_ ?_ ?_
                                · exact ⟨Sl2.start _, fun _ => rfl, (fun h => by rw [getD_repl] at h; cases h), (fun h => by rw [getD_repl] at h; cases h), (fun h => by rw [getD_repl] at h; cases h)⟩
                                · intro L a2 w9 hinv hall
                                  have hE := hinv.w3 (hall 14 (by decide))
                                  have HX : Keep _ := ⟨hinv.sl.act⟩
                                  clear hinv hall
                                  obtain ⟨v', hst3⟩ := hE
                                  clear o1 o1a o1b x0 x1 x2 x3 x4 x5 x6 y0 y1 y2 y3 y4 y5 y6 nk2 HST
                                  rw [HX.out]
                                  simp only [updL, aDs, List.contains_cons, List.contains_nil, Nat.reduceAdd, Nat.reduceBEq, Bool.or_false, cond_false, cond_true, Bool.or_true]
                                  go_wp2
                                  go_roundw
                                  case rel => exact ⟨k + 1, _, by congr 1, hlt, by rw [HTk.out, HO2.out]; exact hst3, HN3⟩
                                  case measure => simp only [intOf]; omega
                                · intro L a2 w9 i o hinv hcl hL ho hdep
                                  have hi15 : i < 15 := (Array.getElem?_eq_some_iff.1 ho).1
                                  unfold wpOpIn
                                  rw [ho]
                                  have q14 : L.getD 12 true = false → L.getD 14 false = false := fun h9 => by
                                    cases hb : L.getD 14 false with
                                    | false => rfl
                                    | true => exfalso; have h := hcl 14 _ rfl hb ⟨12, .data⟩ (by simp) rfl; rw [getD_ft h9] at h; cases h
                                  have q12 : (L.getD 11 true = false ∨ L.getD 1 true = false) → L.getD 12 false = false := fun h9 => by
                                    cases hb : L.getD 12 false with
                                    | false => rfl
                                    | true =>
                                      exfalso
                                      rcases h9 with h9 | h9
                                      · have h := hcl 12 _ rfl hb ⟨11, .data⟩ (by simp) rfl; rw [getD_ft h9] at h; cases h
                                      · have h := hcl 12 _ rfl hb ⟨1, .data⟩ (by simp) rfl; rw [getD_ft h9] at h; cases h
                                  have q11 : (L.getD 5 true = false ∨ L.getD 7 true = false ∨ L.getD 9 true = false) → L.getD 11 false = false := fun h9 => by
                                    cases hb : L.getD 11 false with
                                    | false => rfl
                                    | true =>
                                      exfalso
                                      have h10 := hcl 11 _ rfl hb ⟨10, .data⟩ (by simp) rfl
                                      rcases h9 with h9 | h9 | h9
                                      · have h := hcl 10 _ rfl h10 ⟨5, .data⟩ (by simp) rfl; rw [getD_ft h9] at h; cases h
                                      · have h := hcl 10 _ rfl h10 ⟨7, .data⟩ (by simp) rfl; rw [getD_ft h9] at h; cases h
                                      · have h := hcl 10 _ rfl h10 ⟨9, .data⟩ (by simp) rfl; rw [getD_ft h9] at h; cases h
                                  have q411 : L.getD 14 true = false → L.getD 12 false = true → L.getD 11 false = true := fun _ hb => hcl 12 _ rfl hb ⟨11, .data⟩ (by simp) rfl
                                  have q1414 : L.getD 11 true = false → L.getD 14 false = false := fun h9 => by
                                    cases hb : L.getD 14 false with
                                    | false => rfl
                                    | true => exfalso; have h := hcl 12 _ rfl (hcl 14 _ rfl hb ⟨12, .data⟩ (by simp) rfl) ⟨11, .data⟩ (by simp) rfl; rw [getD_ft h9] at h; cases h
                                  clear hcl
                                  match i, hi15, hL, ho, hdep with
                                  | 0, _, hL, ho, hdep =>
                                    injection ho with ho; subst ho
                                    dsimp only
                                    rw [if_pos (by rfl)]
                                    refine ⟨fun f _ => trivial, ?_⟩
                                    have e9 : a2.tmps[9]?.getD undef = .pointer (some ⟨ob, 0, none⟩) := hinv.sl.old (by decide)
                                    go_simp
                                    exact hinv.step (i := 0) rfl (by omega) (by omega) (by omega) rfl
                                  | 1, _, hL, ho, hdep =>
                                    injection ho with ho; subst ho
                                    dsimp only
                                    rw [if_pos (by rfl)]
                                    refine ⟨fun f _ => trivial, ?_⟩
                                    have e107 : a2.tmps[107]?.getD undef = .pointer (some ⟨ob, 0, none⟩) := hinv.sl.new (i := 0) (by decide) rfl (hdep ⟨0, .data⟩ (by simp) rfl)
                                    have h12 := q12 (.inr hL)
                                    cases h11 : L.getD 11 false with
                                    | false =>
                                      obtain rfl := hinv.w0 h11
                                      go_simp
                                      exact hinv.step (i := 1) rfl (by omega) (by omega) (by omega) rfl
                                    | true =>
                                      obtain ⟨rfl, _⟩ := hinv.w1 h11 h12
                                      go_simp
                                      exact hinv.step (i := 1) rfl (by omega) (by omega) (by omega) rfl
                                  | 2, _, hL, ho, hdep =>
                                    injection ho with ho; subst ho
                                    dsimp only
                                    rw [if_pos (by rfl)]
                                    refine ⟨fun f _ => trivial, ?_⟩
                                    have e6 : a2.tmps[6]?.getD undef = .slice (some ⟨ng, 0, none⟩) ns.length cn := hinv.sl.old (by decide)
                                    go_simp
                                    exact hinv.step (i := 2) rfl (by omega) (by omega) (by omega) rfl
                                  | 3, _, hL, ho, hdep =>
                                    injection ho with ho; subst ho
                                    dsimp only
                                    rw [if_pos (by rfl)]
                                    refine ⟨fun f _ => trivial, ?_⟩
                                    have e10 : a2.tmps[10]?.getD undef = .int .i64 k := hinv.sl.old (by decide)
                                    go_simp
                                    exact hinv.step (i := 3) rfl (by omega) (by omega) (by omega) rfl
                                  | 4, _, hL, ho, hdep =>
                                    injection ho with ho; subst ho
                                    dsimp only
                                    rw [if_pos (by rfl)]
                                    refine ⟨fun f _ => trivial, ?_⟩
                                    have e109 : a2.tmps[109]?.getD undef = .slice (some ⟨ng, 0, none⟩) ns.length cn := hinv.sl.new (i := 2) (by decide) rfl (hdep ⟨2, .data⟩ (by simp) rfl)
                                    have e110 : a2.tmps[110]?.getD undef = .int .i64 k := hinv.sl.new (i := 3) (by decide) rfl (hdep ⟨3, .data⟩ (by simp) rfl)
                                    go_simp
                                    exact hinv.step (i := 4) rfl (by omega) (by omega) (by omega) rfl
                                  | 5, _, hL, ho, hdep =>
                                    injection ho with ho; subst ho
                                    dsimp only
                                    rw [if_pos (by rfl)]
                                    refine ⟨fun f _ => trivial, ?_⟩
                                    have e111 : a2.tmps[111]?.getD undef = .pointer (some ⟨ng, k, none⟩) := hinv.sl.new (i := 4) (by decide) rfl (hdep ⟨4, .data⟩ (by simp) rfl)
                                    obtain rfl := hinv.w0 (q11 (.inl hL))
                                    go_simp
                                    exact hinv.step (i := 5) rfl (by omega) (by omega) (by omega) rfl
                                  | 6, _, hL, ho, hdep =>
                                    injection ho with ho; subst ho
                                    dsimp only
                                    rw [if_pos (by rfl)]
                                    refine ⟨fun f _ => trivial, ?_⟩
                                    have e11 : a2.tmps[11]?.getD undef = .pointer (some ⟨fb, 0, none⟩) := hinv.sl.old (by decide)
                                    go_simp
                                    exact hinv.step (i := 6) rfl (by omega) (by omega) (by omega) rfl
                                  | 7, _, hL, ho, hdep =>
                                    injection ho with ho; subst ho
                                    dsimp only
                                    rw [if_pos (by rfl)]
                                    refine ⟨fun f _ => trivial, ?_⟩
                                    have e113 : a2.tmps[113]?.getD undef = .pointer (some ⟨fb, 1, none⟩) := hinv.sl.new (i := 6) (by decide) rfl (hdep ⟨6, .data⟩ (by simp) rfl)
                                    obtain rfl := hinv.w0 (q11 (.inr (.inl hL)))
                                    go_simp
                                    exact hinv.step (i := 7) rfl (by omega) (by omega) (by omega) rfl
                                  | 8, _, hL, ho, hdep =>
                                    injection ho with ho; subst ho
                                    dsimp only
                                    rw [if_pos (by rfl)]
                                    refine ⟨fun f _ => trivial, ?_⟩
                                    have e13 : a2.tmps[13]?.getD undef = .pointer (some ⟨gb, 0, none⟩) := hinv.sl.old (by decide)
                                    go_simp
                                    exact hinv.step (i := 8) rfl (by omega) (by omega) (by omega) rfl
                                  | 9, _, hL, ho, hdep =>
                                    injection ho with ho; subst ho
                                    dsimp only
                                    rw [if_pos (by rfl)]
                                    refine ⟨fun f _ => trivial, ?_⟩
                                    have e115 : a2.tmps[115]?.getD undef = .pointer (some ⟨gb, 4, none⟩) := hinv.sl.new (i := 8) (by decide) rfl (hdep ⟨8, .data⟩ (by simp) rfl)
                                    obtain rfl := hinv.w0 (q11 (.inr (.inr hL)))
                                    go_simp
                                    exact hinv.step (i := 9) rfl (by omega) (by omega) (by omega) rfl
                                  | 10, _, hL, ho, hdep =>
                                    injection ho with ho; subst ho
                                    dsimp only
                                    rw [if_pos (by rfl)]
                                    refine ⟨fun f _ => trivial, ?_⟩
                                    have e112 : a2.tmps[112]?.getD undef = .string s := hinv.sl.new (i := 5) (by decide) rfl (hdep ⟨5, .data⟩ (by simp) rfl)
                                    have e114 : a2.tmps[114]?.getD undef = .agg #[.bool c.old.there, .string c.old.text, .bool c.old.runs] := hinv.sl.new (i := 7) (by decide) rfl (hdep ⟨7, .data⟩ (by simp) rfl)
                                    have e116 : a2.tmps[116]?.getD undef = .agg #[.bool d.new.there, .string d.new.text, .bool d.new.runs] := hinv.sl.new (i := 9) (by decide) rfl (hdep ⟨9, .data⟩ (by simp) rfl)
                                    go_simp
                                    exact hinv.step (i := 10) rfl (by omega) (by omega) (by omega) rfl
                                  | 11, _, hL, ho, hdep =>
                                    injection ho with ho; subst ho
                                    dsimp only
                                    rw [if_pos (by rfl)]
                                    refine ⟨fun f _ => trivial, ?_⟩
                                    have e117 : a2.tmps[117]?.getD undef = .agg #[.string s, .bool c.old.there, .string c.old.text, .bool c.old.runs, .bool d.new.there, .string d.new.text, .bool d.new.runs] := hinv.sl.new (i := 10) (by decide) rfl (hdep ⟨10, .data⟩ (by simp) rfl)
                                    obtain rfl := hinv.w0 (getD_ft hL)
                                    go_simp
                                    exact hinv.build rfl (q12 (.inl hL)) (q1414 hL) hL
                                  | 12, _, hL, ho, hdep =>
                                    injection ho with ho; subst ho
                                    dsimp only
                                    rw [if_pos (by rfl)]
                                    have h11 := hdep ⟨11, .data⟩ (by simp) rfl
                                    obtain ⟨hw, ex⟩ := hinv.w1 h11 (getD_ft hL)
                                    have ev := hinv.sl.sl 1 (by decide) _ rfl (hdep ⟨1, .data⟩ (by simp) rfl)
                                    obtain ⟨g3, cap3, w7, hr3, hown3, hgrow3, _, _⟩ := run_append_lies (P := Try.prog) (X.drew.alloc (.cells #[.string s, .bool c.old.there, .string c.old.text, .bool c.old.runs, .bool d.new.there, .string d.new.text, .bool d.new.runs] 68)) 28 28 W0.heap.size 68 i0 _ 7 80 Try.underlying28 hi hz0 hz1 hzb rfl (by decide) (.slice ad9 cs.length cp9) cs.length (ccells cs) (owns_below HST.out.row hb1') ⟨X.heap.size, 0, none⟩ 1 1 (chL ⟨s, c.old, d.new⟩) rfl (news_7 X.drew ⟨s, c.old, d.new⟩ _ _ rfl) (one_7 _) (by omega) (by unfold maxLen; omega) (by omega) (by simp; omega) (X.heap.size + 1) (by simp)
                                    subst hw
                                    exact wpIn_append _ _ _ rfl ev ex hr3 (hinv.app rfl h11 (q14 hL) hL hown3 hgrow3)
                                  | 13, _, hL, ho, hdep =>
                                    injection ho with ho; subst ho
                                    dsimp only
                                    rw [if_pos (by rfl)]
                                    refine ⟨fun f _ => trivial, ?_⟩
                                    have e9 : a2.tmps[9]?.getD undef = .pointer (some ⟨ob, 0, none⟩) := hinv.sl.old (by decide)
                                    go_simp
                                    exact hinv.step (i := 13) rfl (by omega) (by omega) (by omega) rfl
                                  | 14, _, hL, ho, hdep =>
                                    injection ho with ho; subst ho
                                    dsimp only
                                    rw [if_pos (by rfl)]
                                    refine ⟨fun f _ => trivial, ?_⟩
                                    have h12 := hdep ⟨12, .data⟩ (by simp) rfl
                                    obtain ⟨g3, cap3, ex, hown3, hgrow3⟩ := hinv.w2 h12 (getD_ft hL)
                                    have e119 := evalD2 ex
                                    have e120 : a2.tmps[120]?.getD undef = .pointer (some ⟨ob, 0, none⟩) := hinv.sl.new (i := 13) (by decide) rfl (hdep ⟨13, .data⟩ (by simp) rfl)
                                    obtain ⟨oc3, of3⟩ := HST.out.mid hb1' hgrow3
                                    go_simp
                                    exact hinv.last (q411 hL h12) h12 hL ⟨_, HST.out.append hb1' hgrow3 hown3⟩
                · obtain rfl : k = ns.length := by omega
                  rw [List.take_length] at hst HNC
                  have r2 := hst.keep k0 (by have := HS.out; have := HZ.out; omega) (by have := HS.out; have := HZ.out; omega)
                  have rf2 : wr.frozen? ⟨g, 0, none⟩ = false := frozen_of (hst.grown.block g (by have := HS.out; have := HZ.out; omega) (fun e => by have := HS.out; have := HZ.out; cases e; omega)) kf
                  obtain ⟨ad, cap2, rfl⟩ := owns_slice hst.row
                  have o2 := hst.cell
                  have hcl := cl_of_row hst.row
                  rw [HNS.out] at HNC hst hcl o2 ⊢
                  have HNC3 : Keep (∀ n ∈ joinNs ps qs, clJ ps qs n = false) := ⟨HNC.out⟩
                  by_cases hle : (joinN ps qs (joinNs ps qs)).length ≤ 200
                  · have hle' : ¬ (200 : Int) < (joinN ps qs (joinNs ps qs)).length := by omega
                    have HB : Keep (JoinPost ps qs w (.returned (.tuple #[.agg #[.slice ad (joinN ps qs (joinNs ps qs)).length cap2], .bool true])) (wr.setCell ⟨g, 0, none⟩ (.slice ad (joinN ps qs (joinNs ps qs)).length cap2))) := ⟨⟨_, true, .inr ⟨hv.1, hv.2, .inr ⟨HNC3.out, .inr ⟨hle, rfl, rfl⟩⟩⟩, ⟨ad, cap2, rfl, (hcl.grown (row := some g) (grown_set0 wr g 0 _) (fun j _ hj _ e => by have := HS.out; have := HZ.out; cases e; omega)).mono (show w.heap.size ≤ W0.heap.size by have := HS.out; have := HZ.out; omega)⟩, hbr.setCell (p := ⟨g, 0, none⟩) (by have := HS.out; show _ ≤ g; omega) _⟩⟩
                    clear hcl hst hbr HNC
                    generalize joinN ps qs (joinNs ps qs) = cs at *
                    go_wp2
                    refine bodyPost_ret (v := .tuple #[.agg #[.slice ad cs.length cap2], .bool true]) ?_ rfl HB.out
                    go_light
                    simp [results, Try.results17, go_sem, r2]
                  · have hle' : (200 : Int) < (joinN ps qs (joinNs ps qs)).length := by omega
                    have HB : Keep (JoinPost ps qs w (.returned (.tuple #[.agg #[.slice none ([] : List Ch).length 0], .bool false])) (wr.setCell ⟨g, 0, none⟩ (.slice none 0 0))) := ⟨⟨[], false, .inr ⟨hv.1, hv.2, .inr ⟨HNC3.out, .inl ⟨by omega, rfl, rfl⟩⟩⟩, ⟨none, 0, rfl, CL.nil _ _ _⟩, hbr.setCell (p := ⟨g, 0, none⟩) (by have := HS.out; show _ ≤ g; omega) _⟩⟩
                    clear hcl hst hbr HNC
                    generalize joinN ps qs (joinNs ps qs) = cs at *
                    go_wp2
                    refine bodyPost_ret (v := .tuple #[.agg #[.slice none ([] : List Ch).length 0], .bool false]) ?_ rfl HB.out
                    go_light
                    simp [results, Try.results17, go_sem, r2]
end Go.Proofs.Ytjlflmbifeocbaa

namespace Go.Proofs.Ytjlflmbifeocbaa
open Go.RowKit

theorem fnd_asc {p : List Ch} (hA : AscK Ch.path p) {c : Ch} (hc : c ∈ p) : fnd Ch.path p c.path = some c := by
  cases h : fnd Ch.path p c.path with
  | none =>
    unfold fnd at h
    rw [List.find?_eq_none] at h
    exact absurd (eqb_iff.2 rfl) (h c hc)
  | some d =>
    obtain ⟨hd1, hd2⟩ := fnd_some h
    obtain ⟨i, hi, rfl⟩ := List.getElem_of_mem hd1
    obtain ⟨j, hj, rfl⟩ := List.getElem_of_mem hc
    rcases Nat.lt_trichotomy i j with h' | h' | h'
    · exact absurd hd2 (less_ne (List.pairwise_iff_getElem.1 hA i j hi hj h'))
    · subst h'; rfl
    · exact absurd hd2.symm (less_ne (List.pairwise_iff_getElem.1 hA j i hj hi h'))
theorem fnd_noC {p : List Ch} {n : ByteArray} (h : fnd Ch.path p n = none) : ∀ c ∈ p, c.path ≠ n := fun c hc e => by
  unfold fnd at h
  rw [List.find?_eq_none] at h
  exact h c hc (eqb_iff.2 e)
theorem vp_ok {p : List Ch} (h : ValidP p) {c : Ch} (hc : c ∈ p) : chOk c = true := by
  obtain ⟨i, hi, rfl⟩ := List.getElem_of_mem hc
  obtain ⟨_, h1, _⟩ := h.2 i hi
  exact h1
theorem fl_off {f : Fl} (h : flOk f = true) (h0 : f.there = false) : f = noFl := by
  obtain ⟨f1, f2, f3⟩ := f
  simp only [flOk, Bool.and_eq_true, Bool.or_eq_true, decide_eq_true_eq, Bool.not_eq_true'] at h
  have h1 : f1 = false := h0
  subst h1
  rcases h.2 with h2 | ⟨h2, h3⟩
  · cases h2
  · have h4 : f2 = ⟨#[]⟩ := WideShapes.bytes_inj (by rw [← Lib.toList_data, List.isEmpty_iff.1 h2])
    have h5 : f3 = false := h3
    subst h4 h5
    rfl
/-- What lies under a path behind a patch. -/
theorem app_at {t : List En} {p : List Ch} {x : List En} (ht : Asc t) (hp : ValidP p) (h : AppRel t p x) (n : ByteArray) : atL x n = ((fnd Ch.path p n).map Ch.new).getD (atL t n) := by
  have hA := vp_asc hp
  cases hf : fnd Ch.path p n with
  | some c =>
    obtain ⟨hc, rfl⟩ := fnd_some hf
    show atL x c.path = c.new
    cases hth : c.new.there with
    | true =>
      have h1 : (⟨c.path, c.new.text, c.new.runs⟩ : En) ∈ x := (h.mem _).2 (.inl ⟨c, hc, hth, rfl⟩)
      have h2 := at_mem h.asc h1
      have h3 : atL x c.path = ⟨true, c.new.text, c.new.runs⟩ := h2
      rw [h3, ← hth]
    | false =>
      have h4 := vp_ok hp hc
      simp only [chOk, Bool.and_eq_true] at h4
      rw [fl_off h4.1.2 hth]
      rcases at_cases x c.path with ⟨h1, _⟩ | ⟨e, h1, h2, _⟩
      · exact h1
      · exfalso
        rcases (h.mem e).1 h1 with ⟨c', hc', h5, rfl⟩ | ⟨_, h5⟩
        · have h6 := fnd_asc hA hc'
          have h7 : c'.path = c.path := h2
          rw [h7, hf] at h6
          cases h6
          rw [hth] at h5
          cases h5
        · exact h5 c hc h2.symm
  | none =>
    show atL x n = atL t n
    have hno := fnd_noC hf
    rcases at_cases x n with ⟨h1, h2⟩ | ⟨e, h1, rfl, h3⟩
    · rcases at_cases t n with ⟨h4, _⟩ | ⟨e, h4, rfl, _⟩
      · rw [h1, h4]
      · exact absurd rfl (h2 e ((h.mem e).2 (.inr ⟨h4, fun c hc => hno c hc⟩)))
    · rcases (h.mem e).1 h1 with ⟨c, hc, _, rfl⟩ | ⟨h4, _⟩
      · exact absurd rfl (hno c hc)
      · rw [h3, at_mem ht h4]
/-- Joined they are the patch between the ends. -/
theorem join_two {t x y : List En} {p q j : List Ch} (h1 : ApplyRel t p x 0) (h2 : ApplyRel x q y 0) (hj : JoinRel p q j true) : ValidTs t ∧ ValidTs y ∧ j = diffL t y := by
  rcases h1 with ⟨_, _, h⟩ | ⟨vt, vp, ⟨_, _, h⟩ | ⟨op, x', ax, ⟨_, _, h⟩ | ⟨vx, rfl, _⟩⟩⟩
  · cases h
  · cases h
  · cases h
  rcases h2 with ⟨_, _, h⟩ | ⟨_, vq, ⟨_, _, h⟩ | ⟨oq, y', ay, ⟨_, _, h⟩ | ⟨vy, rfl, _⟩⟩⟩
  · cases h
  · cases h
  · cases h
  refine ⟨vt, vy, ?_⟩
  rcases hj with ⟨_, _, h⟩ | ⟨_, _, ⟨_, _, h⟩ | ⟨_, ⟨_, _, h⟩ | ⟨_, rfl, _⟩⟩⟩
  · cases h
  · cases h
  · cases h
  have tx := app_at (valid_asc vt) vp ax
  have ty := app_at (valid_asc vx) vq ay
  have hout : ∀ n ∈ joinNs p q, outJ p q n = if sameF (atL t n) (atL y n) = true then [] else [diffC t y n] := by
    intro n hn
    have e1 := tx n
    have e2 := ty n
    unfold outJ
    cases hp : fnd Ch.path p n with
    | none =>
      rw [hp] at e1
      have e1' : atL x n = atL t n := e1
      cases hq : fnd Ch.path q n with
      | none =>
        exfalso
        rcases ((joinNs_mem p q).2 n).1 hn with ⟨c, hc, e⟩ | ⟨c, hc, e⟩
        · exact fnd_noC hp c hc e
        · exact fnd_noC hq c hc e
      | some d =>
        rw [hq] at e2
        have e2' : atL y n = d.new := e2
        obtain ⟨hd, rfl⟩ := fnd_some hq
        have h3 := sameF_iff.1 (oq d hd)
        have h4 := vp_ok vq hd
        simp only [chOk, Bool.and_eq_true, Bool.not_eq_true'] at h4
        have h5 : d.old = atL t d.path := by rw [← h3, e1']
        rw [e2', ← h5, h4.2]
        show [d] = [(⟨d.path, atL t d.path, atL y d.path⟩ : Ch)]
        rw [e2', ← h5]
    | some c =>
      rw [hp] at e1
      have e1' : atL x n = c.new := e1
      obtain ⟨hc, rfl⟩ := fnd_some hp
      have h3 := sameF_iff.1 (op c hc)
      cases hq : fnd Ch.path q c.path with
      | none =>
        rw [hq] at e2
        have e2' : atL y c.path = atL x c.path := e2
        have h4 := vp_ok vp hc
        simp only [chOk, Bool.and_eq_true, Bool.not_eq_true'] at h4
        rw [e2', e1', h3, h4.2]
        show [c] = [(⟨c.path, atL t c.path, atL y c.path⟩ : Ch)]
        rw [e2', e1', h3]
      | some d =>
        rw [hq] at e2
        have e2' : atL y c.path = d.new := e2
        rw [e2', h3]
        show (if sameF c.old d.new = true then [] else [(⟨c.path, c.old, d.new⟩ : Ch)]) = if sameF c.old d.new = true then [] else [(⟨c.path, atL t c.path, atL y c.path⟩ : Ch)]
        rw [e2', h3]
  have h1 : joinN p q (joinNs p q) = diffN t y (joinNs p q) := by
    unfold joinN diffN
    rw [List.flatMap_def, List.flatMap_def, List.map_congr_left hout]
  rw [h1]
  refine diffNs_unique (joinNs_mem _ _).1 (paths_mem t y).1 fun n hn => ?_
  constructor
  · exact fun _ => ((paths_mem t y).2 n).2 (paths_differ hn)
  · intro _
    rw [(joinNs_mem p q).2]
    cases hp : fnd Ch.path p n with
    | some c => exact .inl ⟨c, (fnd_some hp).1, (fnd_some hp).2⟩
    | none =>
      cases hq : fnd Ch.path q n with
      | some d => exact .inr ⟨d, (fnd_some hq).1, (fnd_some hq).2⟩
      | none =>
        exfalso
        have e1 := tx n
        have e2 := ty n
        rw [hp] at e1
        rw [hq] at e2
        have e3 : atL y n = atL t n := e2.trans e1
        rw [e3, sameF_iff.2 rfl] at hn
        cases hn
theorem join_apply {t x y : List En} {p q j : List Ch} (h1 : ApplyRel t p x 0) (h2 : ApplyRel x q y 0) (hj : JoinRel p q j true) : ApplyRel t j y 0 := by
  obtain ⟨vt, vy, rfl⟩ := join_two h1 h2 hj
  exact diff_apply vt vy
end Go.Proofs.Ytjlflmbifeocbaa

namespace Go.Proofs.Ytjlflmbifeocbaa
open Go.RowKit

/-- A patch in a box. -/
structure PBj (b : Nat) (ad : Option Addr) (cp : Nat) (cs : List Ch) (W : World) : Prop where
  c : W.cell? ⟨b, 0, none⟩ = some (.slice ad cs.length cp)
  cs : CS W ad cs
theorem PBj.later {b : Nat} {ad : Option Addr} {cp : Nat} {cs : List Ch} {W W' : World} (h : PBj b ad cp cs W) (hb : Below W.heap.size W W') : PBj b ad cp cs W' := ⟨cell_later hb h.c, h.cs.below hb⟩
theorem PBj.new {ad : Option Addr} {cp : Nat} {cs : List Ch} {W : World} (h : CS W ad cs) : PBj W.heap.size ad cp cs (W.alloc (.cells #[.slice ad cs.length cp] 30)) := ⟨by simp, h.below (below_oneD _ _)⟩
theorem kqJ {w A B : World} (h : Below w.heap.size w A) (h2 : Below A.heap.size A B) : Below w.heap.size w B := h.trans (h2.mono h.size)
theorem join_fewN {p q js : List Ch} {ok : Bool} {N : Nat} (h : JoinRel p q js ok) (hp : ∀ c ∈ p, c.path.size ≤ N) (hq : ∀ c ∈ q, c.path.size ≤ N) : js.length ≤ 200 ∧ ∀ c ∈ js, c.path.size ≤ N := by
  have hno : ([] : List Ch).length ≤ 200 ∧ ∀ c ∈ ([] : List Ch), c.path.size ≤ N := ⟨Nat.zero_le _, fun c hc => (by cases hc)⟩
  rcases h with ⟨_, rfl, _⟩ | ⟨_, _, ⟨_, rfl, _⟩ | ⟨_, ⟨_, rfl, _⟩ | ⟨h1, rfl, _⟩⟩⟩
  · exact hno
  · exact hno
  · exact hno
  · refine ⟨h1, fun c hc => ?_⟩
    unfold joinN at hc
    obtain ⟨n, hn, hc⟩ := List.mem_flatMap.1 hc
    have hnN : n.size ≤ N := by
      rcases ((joinNs_mem p q).2 n).1 hn with ⟨x, hx, rfl⟩ | ⟨x, hx, rfl⟩
      · exact hp x hx
      · exact hq x hx
    unfold outJ outJ2 at hc
    split at hc
    · rename_i hy
      cases hf : fnd Ch.path q n with
      | none =>
        rw [hf] at hc
        rw [List.mem_singleton.1 hc]
        exact Nat.zero_le _
      | some y =>
        rw [hf] at hc
        rw [List.mem_singleton.1 hc]
        exact hq y (List.mem_of_find?_eq_some hf)
    · rename_i x hx hy
      rw [List.mem_singleton.1 hc]
      exact hp x (List.mem_of_find?_eq_some hx)
    · split at hc
      · cases hc
      · rw [List.mem_singleton.1 hc]
        exact hnN

set_option maxRecDepth 100000 in
set_option maxHeartbeats 16000000 in
theorem join_walk (a : Option Addr) (cap : Nat) (zs : List Int) (w : World) (hc : Code0 w a cap zs) :
    Calls Try.prog 4 #[.slice a zs.length cap] w fun e w' => e = .returned (.bool true) ∧ Below w.heap.size w w' := by
  by_cases hbig : (1048576 : Int) < zs.length
  · go_enter Try.func4, Try.ntmps4
    go_wp2
    go_ret
    exact ⟨rfl, Below.refl _ _⟩
  go_enter Try.func4, Try.ntmps4
  go_wp2_with fail
  refine (drawJoin_any a cap zs w hc).mono ?_
  rintro e w1 ⟨⟨adp, cpp, ps⟩, ⟨adq, cpq, qs⟩, rfl, hcp, hcq, qp, qq, rmp, rmq, hb1⟩
  dsimp only at hcp hcq rmp rmq ⊢
  have ba1 : Below w1.heap.size w1 ((w1.alloc (.cells #[.slice adp ps.length cpp] 30)).alloc (.cells #[.slice adq qs.length cpq] 30)) := (below_oneD _ _).trans ((below_oneD _ _).mono (by simp))
  have P3 : PBj w1.heap.size adp cpp ps ((w1.alloc (.cells #[.slice adp ps.length cpp] 30)).alloc (.cells #[.slice adq qs.length cpq] 30)) := ⟨by simp [go_sem], hcp.below ba1⟩
  have P4 : PBj (w1.heap.size + 1) adq cpq qs ((w1.alloc (.cells #[.slice adp ps.length cpp] 30)).alloc (.cells #[.slice adq qs.length cpq] 30)) := ⟨by simp [go_sem], hcq.below ba1⟩
  have hbw : Below w.heap.size w ((w1.alloc (.cells #[.slice adp ps.length cpp] 30)).alloc (.cells #[.slice adq qs.length cpq] 30)) := kqJ hb1 ba1
  have hlp : ps.length ≤ 310 := qp.1
  have hlq : qs.length ≤ 310 := qq.1
  have HZ : Keep (TinyC 1100 10000 ps ∧ TinyC 1100 10000 qs) := ⟨⟨qp.2, qq.2⟩⟩
  clear hcp hcq qp qq hb1 ba1
  go_upto_region 4 with fail
  generalize (w1.alloc (.cells #[.slice adp ps.length cpp] 30)).alloc (.cells #[.slice adq qs.length cpq] 30) = w2 at *
  generalize w1.heap.size + 1 = b4 at *
  generalize w1.heap.size = b3 at *
  go_wp2_with fail
  refine (drawApply_any a cap zs w2 (code_laterJ hc hbw)).mono ?_
  rintro e w3 ⟨⟨adt, cpt, ts⟩, ⟨ad6, cp6, cs6⟩, rfl, het, hc6, qt, hNil, rmt, _, hb3⟩
  dsimp only at het hc6 hNil rmt ⊢
  have ba3 : Below w3.heap.size w3 ((w3.alloc (.cells #[.slice adt ts.length cpt] 25)).alloc (.cells #[.slice ad6 cs6.length cp6] 30)) := (below_oneD _ _).trans ((below_oneD _ _).mono (by simp))
  have X5 : TBx w3.heap.size adt cpt ts ((w3.alloc (.cells #[.slice adt ts.length cpt] 25)).alloc (.cells #[.slice ad6 cs6.length cp6] 30)) := ⟨by simp [go_sem], het.below ba3⟩
  replace P3 := (P3.later hb3).later ba3
  replace P4 := (P4.later hb3).later ba3
  replace hbw := kqJ (kqJ hbw hb3) ba3
  have hlt : ts.length ≤ 300 := qt.1
  have HT : Keep (Tiny 1000 20000 ts) := ⟨qt.2⟩
  have HN : Keep (NilOk adt cpt) := ⟨hNil⟩
  clear het hc6 qt hNil hb3 ba3
  go_upto_region 5 with fail
  generalize (w3.alloc (.cells #[.slice adt ts.length cpt] 25)).alloc (.cells #[.slice ad6 cs6.length cp6] 30) = w4 at *
  generalize w3.heap.size + 1 = b6 at *
  generalize w3.heap.size = b5 at *
  have x3 := P3.c
  have x4 := P4.c
  have hm := implJoinC_any adp adq cpp cpq ps qs w4 P3.cs P4.cs (by omega) (by omega) rmp rmq (fun c hc => by have := (HZ.out.1 c hc).1; omega) (fun c hc => by have := (HZ.out.2 c hc).1; omega)
  go_wp2_with fail
  refine hm.mono ?_
  rintro e w5 ⟨js, ok, hJ, ⟨adj, cpj, rfl, hclj, hrj⟩, hb⟩
  have ba := below_oneD w5 (.cells #[.slice adj js.length cpj] 30)
  have P7 : PBj w5.heap.size adj cpj js (w5.alloc (.cells #[.slice adj js.length cpj] 30)) := PBj.new hclj.cs
  replace P3 := (P3.later hb).later ba
  replace P4 := (P4.later hb).later ba
  replace X5 := (X5.later hb).later ba
  replace hbw := kqJ (kqJ hbw hb) ba
  have hfj := (join_fewN (N := 1100) hJ (fun c hc => (HZ.out.1 c hc).1) (fun c hc => (HZ.out.2 c hc).1)).1
  have HJ : Keep (JoinRel ps qs js ok ∧ ∀ c ∈ js, c.path.size ≤ 1100) := ⟨⟨hJ, (join_fewN (N := 1100) hJ (fun c hc => (HZ.out.1 c hc).1) (fun c hc => (HZ.out.2 c hc).1)).2⟩⟩
  clear hm x3 x4 hclj hb ba hJ
  go_upto_region 6 with fail
  generalize w5.alloc (.cells #[.slice adj js.length cpj] 30) = w6 at *
  generalize w5.heap.size = b7 at *
  have x3 := P3.c
  have x4 := P4.c
  have hm := specJoin_any adp adq cpp cpq ps qs w6 P3.cs P4.cs (by omega) (by omega)
  go_wp2_with fail
  refine hm.mono ?_
  rintro e w7 ⟨js', ok', hJ', ⟨adk, cpk, rfl, hclk⟩, hb⟩
  obtain ⟨rfl, rfl⟩ := join_one HJ.out.1 hJ'
  have ba := below_oneD w7 (.cells #[.slice adk js.length cpk] 30)
  have P9 : PBj w7.heap.size adk cpk js (w7.alloc (.cells #[.slice adk js.length cpk] 30)) := PBj.new hclk.cs
  replace P3 := (P3.later hb).later ba
  replace P4 := (P4.later hb).later ba
  replace X5 := (X5.later hb).later ba
  replace P7 := (P7.later hb).later ba
  replace hbw := kqJ (kqJ hbw hb) ba
  clear hm x3 x4 hclk hb ba hJ'
  go_upto_region 7 with fail
  generalize w7.alloc (.cells #[.slice adk js.length cpk] 30) = w8 at *
  generalize w7.heap.size = b9 at *
  have x7 := P7.c
  have x9 := P9.c
  have hm := wPatch_any adj adk cpj cpk js w8 P7.cs P9.cs (by omega)
  have hok : (ok != ok) = false := by simp
  go_wp2_with fail
  refine hm.mono ?_
  rintro e w9 ⟨rfl, hb⟩
  replace P3 := P3.later hb
  replace P4 := P4.later hb
  replace X5 := X5.later hb
  replace P7 := P7.later hb
  replace hbw := kqJ hbw hb
  clear hm x7 x9 P9 hb hok
  go_upto_region 9 with fail
  have x5 := X5.c
  have x3 := P3.c
  have hm := implApplyC_any adt adp cpt cpp ts ps w9 X5.es P3.cs (by omega) (by omega) rmt rmp (fun c hc => by have := (HT.out c hc).1; omega) (fun c hc => by have := (HZ.out.1 c hc).1; omega)
  go_wp2_with fail
  refine hm.mono ?_
  rintro e w10 ⟨xs, c, hA1, ⟨adx, cpx, rfl, helx, hrx⟩, hb⟩
  unfold TreeV
  have ba := below_oneD w10 (.cells #[.slice adx xs.length cpx] 25)
  have X11 : TBx w10.heap.size adx cpx xs (w10.alloc (.cells #[.slice adx xs.length cpx] 25)) := ⟨by simp, helx.es.below ba⟩
  replace P3 := (P3.later hb).later ba
  replace P4 := (P4.later hb).later ba
  replace X5 := (X5.later hb).later ba
  replace P7 := (P7.later hb).later ba
  replace hbw := kqJ (kqJ hbw hb) ba
  have hat := apply_tiny (P := 1100) (T := 20000) hA1 (HT.out.wide (by omega) (by omega)) (HZ.out.1.wide (by omega) (by omega))
  have hlx := hat.2
  have HA1 : Keep (ApplyRel ts ps xs c ∧ Tiny 1100 1500 xs) := ⟨⟨hA1, hat.1⟩⟩
  clear hm x5 x3 helx hb ba hA1 hat
  go_upto_region 10 with fail
  generalize w10.alloc (.cells #[.slice adx xs.length cpx] 25) = w11 at *
  generalize w10.heap.size = b11 at *
  have x11 := X11.c
  have x4 := P4.c
  have hm := implApplyC_any adx adq cpx cpq xs qs w11 X11.es P4.cs (by omega) (by omega) hrx rmq (fun c hc => by have := (HA1.out.2 c hc).1; omega) (fun c hc => by have := (HZ.out.2 c hc).1; omega)
  go_wp2_with fail
  refine hm.mono ?_
  rintro e w12 ⟨ys, d, hA2, ⟨ady, cpy, rfl, hely, hry⟩, hb⟩
  unfold TreeV
  have ba := below_oneD w12 (.cells #[.slice ady ys.length cpy] 25)
  have X13 : TBx w12.heap.size ady cpy ys (w12.alloc (.cells #[.slice ady ys.length cpy] 25)) := ⟨by simp, hely.es.below ba⟩
  replace P3 := (P3.later hb).later ba
  replace X5 := (X5.later hb).later ba
  replace P7 := (P7.later hb).later ba
  replace hbw := kqJ (kqJ hbw hb) ba
  have hly := (apply_tiny (P := 1100) (T := 20000) hA2 (HA1.out.2.wide (by omega) (by omega)) (HZ.out.2.wide (by omega) (by omega))).2
  have HA2 : Keep (ApplyRel xs qs ys d) := ⟨hA2⟩
  clear hm x11 x4 hely hb ba hA2 P4 X11
  go_upto_region 11 with fail
  generalize w12.alloc (.cells #[.slice ady ys.length cpy] 25) = w13 at *
  generalize w12.heap.size = b13 at *
  have x5 := X5.c
  have x3 := P3.c
  by_cases c0 : c = 0
  · by_cases d0 : d = 0
    · subst c0
      subst d0
      have x7 := P7.c
      have hm := implApplyC_any adt adj cpt cpj ts js w13 X5.es P7.cs (by omega) (by omega) rmt hrj (fun c hc => by have := (HT.out c hc).1; omega) (fun c hc => by have := HJ.out.2 c hc; omega)
      go_wp2_with fail
      refine hm.mono ?_
      rintro e w14 ⟨vs, c', hA3, ⟨adz, cpz, rfl, helz, _⟩, hb⟩
      unfold TreeV
      have ba := below_oneD w14 (.cells #[.slice adz vs.length cpz] 25)
      have X15 : TBx w14.heap.size adz cpz vs (w14.alloc (.cells #[.slice adz vs.length cpz] 25)) := ⟨by simp, helz.es.below ba⟩
      replace X13 := (X13.later hb).later ba
      replace hbw := kqJ (kqJ hbw hb) ba
      have HA3 : Keep (ApplyRel ts js vs c') := ⟨hA3⟩
      clear hm x5 x3 x7 helz hb ba hA3 P3 X5 P7
      go_upto_region 14 with fail
      generalize w14.alloc (.cells #[.slice adz vs.length cpz] 25) = w15 at *
      generalize w14.heap.size = b15 at *
      cases ok with
      | false =>
        go_wp2
        go_ret
        exact ⟨rfl, hbw⟩
      | true =>
        obtain ⟨rfl, rfl⟩ := apply_one (join_apply HA1.out.1 HA2.out HJ.out.1) HA3.out
        have x15 := X15.c
        have x13 := X13.c
        have hm := wTree_any adz ady cpz cpy ys w15 X15.es X13.es (by omega)
        go_wp2_with fail
        refine hm.mono ?_
        rintro e w16 ⟨rfl, hb⟩
        replace hbw := kqJ hbw hb
        clear hm hb x15 x13
        go_wp2
        go_ret
        exact ⟨rfl, hbw⟩
    · subst c0
      have hd1 : (d == 0) = false := by simpa using d0
      have hd2 : (d != 0) = true := by simpa using d0
      have hm := wCode_any adt adp cpt cpp ts ps w13 X5.es P3.cs (by omega) (by omega) HN.out
      go_wp2_with fail
      refine hm.mono ?_
      rintro e w14 ⟨us', c', hA', rfl, hb⟩
      obtain ⟨_, rfl⟩ := apply_one HA1.out.1 hA'
      replace hbw := kqJ hbw hb
      clear hm hb hA'
      go_wp2
      go_ret
      exact ⟨by simp, hbw⟩
  · have hc1 : (c == 0) = false := by simpa using c0
    have hc2 : (c != 0) = true := by simpa using c0
    have hm := wCode_any adt adp cpt cpp ts ps w13 X5.es P3.cs (by omega) (by omega) HN.out
    go_wp2_with fail
    refine hm.mono ?_
    rintro e w14 ⟨us', c', hA', rfl, hb⟩
    obtain ⟨_, rfl⟩ := apply_one HA1.out.1 hA'
    replace hbw := kqJ hbw hb
    clear hm hb hA'
    go_wp2
    go_ret
    exact ⟨by simp, hbw⟩
end Go.Proofs.Ytjlflmbifeocbaa

namespace Go.Proofs.Ytjlflmbifeocbaa.fnJoin
open Go.ChangeShapes Go.WideShapes Go.ChangeAt Go.RowKit
set_option linter.unusedVariables false

theorem own : ownKnob Try.prog.godebug = none := by kernel_rfl
theorem laidOut : laidOutB Try.prog = true := by kernel_rfl

theorem open_code {H : Type} {enc : TypeId × Value → H} {W : World} {a : Option Addr} {len cap : Nat} {d : DataW H} {p : List MemPlace} (h : DataW.Trod enc Try.prog W 0 (fun _ => true) true 22 (.slice a len cap) d p) :
    ∃ zs : List Int, len = zs.length ∧ Code0 W a cap zs := by
  obtain ⟨fuel, hf⟩ := h
  rcases open_ints Try.underlying22 Try.underlying5 (by kernel_rfl) hf with ⟨hcs, _⟩ | ⟨x, l, c, zs, hcs, _, hl, hm, hz, _, hcell, hwz⟩
  · simp [Value.cells] at hcs
    obtain ⟨rfl, rfl, rfl⟩ := hcs
    exact ⟨[], rfl, .inl rfl, Nat.zero_le _, Nat.zero_le _, fun z hz => by simp at hz⟩
  · simp [Value.cells] at hcs
    obtain ⟨rfl, rfl, rfl⟩ := hcs
    have hz' : zs.length = cap := by simpa using hz
    refine ⟨zs.take len, by simp; omega, ?_, by simp; omega, hm, fun z hz => ?_⟩
    · by_cases h0 : len = 0
      · left; simp [h0]
      · right
        obtain ⟨b, off, rfl, hc⟩ := ints_at hcell (by omega)
        refine ⟨b, off, rfl, ?_, fun i hi => ?_⟩
        · have h1 := hc 0 (by omega)
          unfold World.cell? at h1
          cases hh : W.heap[b]? with
          | none => simp [hh] at h1
          | some o => exact (Array.getElem?_eq_some_iff.1 hh).1
        · have hi' : i < zs.length := by simp at hi; omega
          rw [hc i hi']
          simp [List.getD, hi']
    · have := bounds_u8 (hwz z (List.mem_of_mem_take hz))
      omega

set_option maxRecDepth 100000 in
theorem lifted (os : Os) (started : os.Started) (H : Type) (enc : TypeId × Value → H) :
    ReturnsInHanded {} Try.checked os 4 .any (Rows.fnJoinSpec.pre6 enc Try.prog Try.f4 Rows.fnJoinRow.domain false) (Rows.fnJoinSpec.post enc Try.prog Try.f4 false true false false) := by
  refine returnsInHanded_of_change (C := Try.checked) own started (by kernel_rfl) Try.func4
    (ChangeSpec.witness6 (enc := enc) (C := Try.checked) false ⟨#[], #[.slice none 0 0], []⟩ 8 (by kernel_rfl) (by kernel_rfl) (by kernel_rfl) (by kernel_rfl)) ?_
  intro W base args ds gs before hval0 hW hcnd _
  have hval : ∀ (j : Nat) t v, Try.f4.params[j]? = some t → args[j]? = some v → Value.okWide Try.prog W .any base t v := hval0
  have hW' := hW
  obtain ⟨p, q, hA0, hV, rfl, hfz, hnd⟩ := hW
  have hA : DataW.TrodAll enc Try.prog W 0 (fun _ => true) true Try.f4.params.toList args.toList ds p := hA0
  rw [Try.params4] at hA hval
  obtain ⟨v0, vs0, d0, ds0, p0, q0, hargs, rfl, rfl, h0, r0⟩ := trodAll_cons hA
  obtain ⟨rfl, rfl, rfl⟩ := trodAll_nil r0
  obtain rfl : args = #[v0] := by cases args; simp_all
  obtain ⟨rfl, rfl⟩ := trodVars_none hV
  obtain ⟨a0, len0, cap0, rfl⟩ := okWide_slice Try.underlying22 (hval 0 22 v0 rfl rfl)
  have k0 := h0
  have lt0 : ∀ x ∈ p0, x.block < W.heap.size := by obtain ⟨m, hm⟩ := k0; exact DataW.trod_lt m _ _ _ hm
  obtain ⟨zs, rfl, hc⟩ := open_code h0
  clear hA0 hval0
  refine (join_walk a0 cap0 zs W hc).mono fun e W' ⟨he, bel⟩ => ?_
  subst he
  exact ⟨_, rfl, _, _, _, [], _, [], hW', trodAll_mk1 (shut_bool Try.underlying4 _), (trodAll_cons_mk (Below.trod laidOut (by kernel_rfl) (of_decide_eq_true (by kernel_rfl)) k0 bel lt0) trodAll_mk0), rfl, bel.frame _, fun h => by cases h⟩

theorem over : Rows.fnJoinRow.holds Try.pinned (OpenSpec.ofChange Rows.fnJoinSpec) :=
  OpenClaim.holds_of_wide 4 Try.f4 rfl rfl rfl rfl rfl rfl rfl ⟨rfl, rfl, rfl, rfl, rfl⟩ rfl rfl rfl rfl rfl (by kernel_rfl) Try.func4 (by kernel_rfl)
    (of_decide_eq_true (by kernel_rfl)) (by unfold Func.isWrapper; first | (rw [if_pos (by decide +kernel)]; kernel_rfl) | (rw [if_neg (by decide +kernel)]; exact ⟨rfl, rfl⟩))
    (fun os started H enc _ => lifted os started H enc)

theorem proved : Rows.FnJoinSaid := over
end Go.Proofs.Ytjlflmbifeocbaa.fnJoin
