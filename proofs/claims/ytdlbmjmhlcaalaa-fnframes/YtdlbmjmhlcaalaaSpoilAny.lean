/-
  spec.l3Spoil: the walk.
-/
import Derived.Test.YtdlbmjmhlcaalaaDrawSpoil
namespace Go.Proofs.Ytdlbmjmhlcaalaa
open Go.RowKit


set_option maxRecDepth 20000 in
set_option maxHeartbeats 8000000 in
theorem spoil_any (g : Nat) (a : Option Addr) (cap : Nat) (zs : List Int) (p B : Nat) (m : Int) (rest : ByteArray) (ad : Option Addr) (cp : Nat) (ss : List ByteArray) (bad : Bool) (w : World) (h : Rd w g a cap zs p) (hp : p ≤ 1000000) (hown : w.ownsRow B 9 1 (.slice ad ss.length cp) ss.length (ss.map .string)) (hsm : Small rest ss) (hl19 : ss.length ≤ 1999) (hgB : g < B) (hBw : B ≤ w.heap.size) :
    Calls Try.prog 43 #[.pointer (some ⟨g, 0, none⟩), decV m rest (.slice ad ss.length cp) bad] w fun e w' => SpoilPost g a cap zs p B (Value.slice ad ss.length cp).ownBlock w e w' := by
  obtain ⟨i0, hi, hz0, hz1, hz2⟩ := info_parts Try.infoStr
  unfold decV
  have hlen := hsm.len
  have hrow : ∀ k, (Value.slice ad ss.length cp).ownBlock = some k → k < w.heap.size := fun k hk => own_lt hown hk
  have hL0 : SP w ((w.alloc (.cells #[.int .i64 m, .string rest, .slice ad ss.length cp, .bool bad] 32)).alloc (.cells #[.int .i64 0, .string ⟨#[]⟩, .slice none 0 0, .bool false] 32)) g a cap zs p B (Value.slice ad ss.length cp).ownBlock m rest (.slice ad ss.length cp) bad ss := by
    have b1 : Below w.heap.size w (w.alloc (.cells #[.int .i64 m, .string rest, .slice ad ss.length cp, .bool bad] 32)) := (Below.refl _ _).alloc (Nat.le_refl _) _
    have b2 : Below (w.alloc (.cells #[.int .i64 m, .string rest, .slice ad ss.length cp, .bool bad] 32)).heap.size (w.alloc (.cells #[.int .i64 m, .string rest, .slice ad ss.length cp, .bool bad] 32)) ((w.alloc (.cells #[.int .i64 m, .string rest, .slice ad ss.length cp, .bool bad] 32)).alloc (.cells #[.int .i64 0, .string ⟨#[]⟩, .slice none 0 0, .bool false] 32)) := (Below.refl _ _).alloc (Nat.le_refl _) _
    have b12 := b1.trans (b2.mono b1.size)
    have hf2 := fed_new (w.alloc (.cells #[.int .i64 m, .string rest, .slice ad ss.length cp, .bool bad] 32)) 0 ⟨#[]⟩ (.slice none 0 0) false
    simp only [World.size_alloc] at hf2
    exact ⟨h.below b12, ⟨b12.os, b12.tape, b12.output, b12.size, fun k hk _ _ => b12.block k hk⟩, hf2, (fed_new w m rest (.slice ad ss.length cp) bad).later b2, owns_below hown b12, fun k hk => .inl ⟨hk.symm, hrow k hk⟩, hgB, hBw, by simp⟩
  generalize hrow0 : (Value.slice ad ss.length cp).ownBlock = row at *
  clear hrow0 hrow hown h
  go_enter Try.func43, Try.ntmps43
  go_wp2_with fail
  refine (pick_any g a cap zs p 5 _ hL0.rd (by omega) (by omega) (by omega)).mono ?_
  rintro e w1 ⟨x, rfl, hx, hgr1, hR1⟩
  have hL := hL0.pick hgr1 hR1
  clear hL0 hgr1 hR1
  by_cases h0 : x = 0
  · have hB0 : ((x : Int) == 0) = true := by simp; omega
    clear h0
    go_wp2_with fail
    refine (pick_any g a cap zs (p + 1) 11 _ hL.rd (by omega) (by omega) (by omega)).mono ?_
    rintro e w2 ⟨y, rfl, hy, hgr2, hR2⟩
    have hL2 := hL.pick hgr2 hR2
    have k0 := hL2.f3.c0
    have kf := hL2.f3.cf
    have hL := hL2.set 0 (.int .i64 ((y : Int) - 1)) hL2.f3.set0
    clear hgr2 hR2
    have y1 := hL2.f3.c1
    have y2 := hL2.f3.c2
    have y3 := hL2.f3.c3
    have v0 := hL2.f2.c0
    have v1 := hL2.f2.c1
    have v2 := hL2.f2.c2
    have v3 := hL2.f2.c3
    have vf := hL2.f2.cf
    obtain ⟨hT, hO, hRd, hGr⟩ := hL.ends
    have z0 := hL.f3.c0
    have z1 := hL.f3.c1
    have z2 := hL.f3.c2
    have z3 := hL.f3.c3
    have u0 := hL.f2.c0
    have u1 := hL.f2.c1
    have u2 := hL.f2.c2
    have u3 := hL.f2.c3
    have uf := hL.f2.cf
    go_wp2
    generalize ((((w2.setCell ⟨w.heap.size, 0, none⟩ (.int .i64 ((y : Int) - 1))).setCell ⟨w.heap.size + 1, 0, none⟩ (.int .i64 ((y : Int) - 1))).setCell ⟨w.heap.size + 1, 1, none⟩ (.string rest)).setCell ⟨w.heap.size + 1, 2, none⟩ (.slice ad ss.length cp)).setCell ⟨w.heap.size + 1, 3, none⟩ (.bool bad) = W9 at *
    have t0 := hT.c0
    have t1 := hT.c1
    have t2 := hT.c2
    have t3 := hT.c3
    refine bodyPost_ret (v := decV ((y : Int) - 1) rest (.slice ad ss.length cp) bad) ?_ rfl ⟨_, _, _, _, ss, _, rfl, hO, hsm, ⟨_, by omega, hRd⟩, hGr⟩
    go_light
    simp [results, Try.results43, go_sem, t0, t1, t2, t3, decV]
  · have hB0 : ((x : Int) == 0) = false := by simp; omega
    by_cases h1 : x = 1
    · have hB1 : ((x : Int) == 1) = true := by simp; omega
      clear h0 h1
      have bw : Below w1.heap.size w1 (w1.alloc (.cells #[.string ⟨#[119]⟩] 9)) := (Below.refl _ _).alloc (Nat.le_refl _) _
      have hLw := hL.below bw
      clear hL
      go_wp2_with fail
      refine (specEnc_any (some ⟨w1.heap.size, 0, none⟩) 1 [⟨#[119]⟩] 4 _ (.inr ⟨w1.heap.size, 0, rfl, fun i hi => by obtain rfl : i = 0 := (by simpa using hi); simp⟩) (by show 1 ≤ maxLen; unfold maxLen; omega)).mono ?_
      rintro e w2 ⟨rfl, hb2⟩
      have hL2 := hLw.below hb2
      have htz := encV_size [⟨#[119]⟩] 4
      generalize encV [⟨#[119]⟩] 4 = t at *
      clear hLw bw hb2
      have b3 : Below w2.heap.size w2 (w2.alloc (.cells #[.string ⟨#[133, 0]⟩, .string ⟨#[129, 0, 97]⟩, .string ⟨#[0]⟩, .string ⟨#[128]⟩, .string ⟨#[128, 0]⟩, .string ⟨#[255, 7]⟩, .string ⟨#[232, 7]⟩, .string ⟨#[233, 7]⟩, .string ⟨#[1, 97]⟩, .string t, .string ⟨#[133, 133]⟩] 9)) := (Below.refl _ _).alloc (Nat.le_refl _) _
      have hL3 := hL2.below b3
      have hwl := hL2.rd.lt
      clear hL2
      go_wp2_with fail
      refine (pick_any g a cap zs (p + 1) 11 _ hL3.rd (by omega) (by omega) (by omega)).mono ?_
      rintro e w4 ⟨y, rfl, hy, hgr4, hR4⟩
      have hcell : ∀ j v, (w2.alloc (.cells #[.string ⟨#[133, 0]⟩, .string ⟨#[129, 0, 97]⟩, .string ⟨#[0]⟩, .string ⟨#[128]⟩, .string ⟨#[128, 0]⟩, .string ⟨#[255, 7]⟩, .string ⟨#[232, 7]⟩, .string ⟨#[233, 7]⟩, .string ⟨#[1, 97]⟩, .string t, .string ⟨#[133, 133]⟩] 9)).cell? ⟨w2.heap.size, j, none⟩ = some v → w4.cell? ⟨w2.heap.size, j, none⟩ = some v := fun j v hv => hgr4.cell (a := ⟨w2.heap.size, j, none⟩) hv (by simp; omega)
      obtain ⟨u, hu, hu2⟩ : ∃ u : ByteArray, w4.cell? ⟨w2.heap.size, y, none⟩ = some (.string u) ∧ u.size ≤ 100000000 := by
        match y, hy with
        | 0, _ => exact ⟨⟨#[133, 0]⟩, hcell 0 _ (by simp), by show 2 ≤ 100000000; omega⟩
        | 1, _ => exact ⟨⟨#[129, 0, 97]⟩, hcell 1 _ (by simp), by show 3 ≤ 100000000; omega⟩
        | 2, _ => exact ⟨⟨#[0]⟩, hcell 2 _ (by simp), by show 1 ≤ 100000000; omega⟩
        | 3, _ => exact ⟨⟨#[128]⟩, hcell 3 _ (by simp), by show 1 ≤ 100000000; omega⟩
        | 4, _ => exact ⟨⟨#[128, 0]⟩, hcell 4 _ (by simp), by show 2 ≤ 100000000; omega⟩
        | 5, _ => exact ⟨⟨#[255, 7]⟩, hcell 5 _ (by simp), by show 2 ≤ 100000000; omega⟩
        | 6, _ => exact ⟨⟨#[232, 7]⟩, hcell 6 _ (by simp), by show 2 ≤ 100000000; omega⟩
        | 7, _ => exact ⟨⟨#[233, 7]⟩, hcell 7 _ (by simp), by show 2 ≤ 100000000; omega⟩
        | 8, _ => exact ⟨⟨#[1, 97]⟩, hcell 8 _ (by simp), by show 2 ≤ 100000000; omega⟩
        | 9, _ => exact ⟨t, hcell 9 _ (by simp), by omega⟩
        | 10, _ => exact ⟨⟨#[133, 133]⟩, hcell 10 _ (by simp), by show 2 ≤ 100000000; omega⟩
      have hL4 := hL3.pick hgr4 hR4
      have y0 := hL4.f3.c0
      have y1 := hL4.f3.c1
      have y2 := hL4.f3.c2
      have y3 := hL4.f3.c3
      have yf := hL4.f3.cf
      have v0 := hL4.f2.c0
      have v1 := hL4.f2.c1
      have v2 := hL4.f2.c2
      have v3 := hL4.f2.c3
      have vf := hL4.f2.cf
      have hL := hL4.set 1 (.string u) hL4.f3.set1
      clear hL3 hgr4 hR4 hcell b3
      obtain ⟨hT, hO, hRd, hGr⟩ := hL.ends
      have z0 := hL.f3.c0
      have z1 := hL.f3.c1
      have z2 := hL.f3.c2
      have z3 := hL.f3.c3
      have u0 := hL.f2.c0
      have u1 := hL.f2.c1
      have u2 := hL.f2.c2
      have u3 := hL.f2.c3
      have uf := hL.f2.cf
      go_wp2
      generalize ((((w4.setCell ⟨w.heap.size, 1, none⟩ (.string u)).setCell ⟨w.heap.size + 1, 0, none⟩ (.int .i64 m)).setCell ⟨w.heap.size + 1, 1, none⟩ (.string u)).setCell ⟨w.heap.size + 1, 2, none⟩ (.slice ad ss.length cp)).setCell ⟨w.heap.size + 1, 3, none⟩ (.bool bad) = W9 at *
      have t0 := hT.c0
      have t1 := hT.c1
      have t2 := hT.c2
      have t3 := hT.c3
      refine bodyPost_ret (v := decV m u (.slice ad ss.length cp) bad) ?_ rfl ⟨_, _, _, _, ss, _, rfl, hO, ⟨hu2, hsm.len, hsm.each⟩, ⟨_, by omega, hRd⟩, hGr⟩
      go_light
      simp [results, Try.results43, go_sem, t0, t1, t2, t3, decV]
    · have hB1 : ((x : Int) == 1) = false := by simp; omega
      by_cases h2 : x = 2
      · have hB2 : ((x : Int) == 2) = true := by simp; omega
        clear h0 h1 h2
        have k2 := hL.f3.c2
        have kf := hL.f3.cf
        have hwl := hL.rd.lt
        have hLd := hL.below (Below.refl _ _).drew
        have hp1 := pick_any g a cap zs (p + 1) 2 w1.drew hLd.rd (by omega) (by omega) (by omega)
        have hmm1 : ∀ x1 : Nat, x1 < 2 → (⟨#[102]⟩ : ByteArray).size * (1000 + x1) ≤ 1073741824 := fun x1 h => by show 1 * (1000 + x1) ≤ _; omega
        have hmm2 : ∀ x1 : Nat, x1 < 2 → 1000 + x1 ≤ 1073741824 := fun x1 h => by omega
        have hmm3 : 1 ≤ (⟨#[102]⟩ : ByteArray).size := Nat.le_refl _
        have hmm4 : (⟨#[102]⟩ : ByteArray).size ≤ 1073741824 := by show 1 ≤ _; omega
        have hmm5 : ∀ (x1 : Nat) (t : ByteArray), x1 < 2 → t.size = (⟨#[102]⟩ : ByteArray).size * (1000 + x1) → t.size ≤ 5000 := fun x1 t h ht => by rw [ht]; show 1 * (1000 + x1) ≤ 5000; omega
        have hq1 : 1 ≤ 2 := by omega
        have hq2 : 2 ≤ 1000000 := by omega
        have hq3 : p + 1 + 1 ≤ 1000000000 := by omega
        have hmanyW : ∀ (x1 : Nat) (w2 : World), x1 < 2 → Calls Try.prog 44 #[.string ⟨#[102]⟩, .int .i64 (IntKind.i64.wrap (1000 + (x1 : Int)))] w2 fun e w' => ∃ o : ByteArray, e = .returned (.string o) ∧ o.size = (⟨#[102]⟩ : ByteArray).size * (1000 + x1) ∧ w2 = w' := by
          intro x1 w2 hx1
          have e : IntKind.i64.wrap (1000 + (x1 : Int)) = ((1000 + x1 : Nat) : Int) := by rw [IntKind.wrap_i64]; omega
          rw [e]
          exact many_any ⟨#[102]⟩ (1000 + x1) w2 (hmm1 x1 hx1) (hmm2 x1 hx1) hmm3 hmm4
        have hcellA : ∀ (w2 : World) (t : ByteArray), g < w2.heap.size → t.size ≤ 5000 → ∀ (w3 : World) (y : Nat), y < 2 → (w2.alloc (.cells #[.string ⟨#[]⟩, .string t] 9)).grownBy w3 (some g) → ∃ u : ByteArray, w3.cell? ⟨w2.heap.size, y, none⟩ = some (.string u) ∧ u.size ≤ 5000 := by
          intro w2 t hg2 ht w3 y hy hgr
          have hne : some w2.heap.size ≠ some g := by simp; omega
          match y, hy with
          | 0, _ => exact ⟨⟨#[]⟩, hgr.cell (a := ⟨w2.heap.size, 0, none⟩) (by simp) hne, Nat.zero_le _⟩
          | 1, _ => exact ⟨t, hgr.cell (a := ⟨w2.heap.size, 1, none⟩) (by simp) hne, ht⟩
        have hlitB : ∀ (t : ByteArray) (y : Nat), y < 2 → t.size ≤ 5000 → ∃ u : ByteArray, (#[.string ⟨#[]⟩, .string t] : Array Value)[y]? = some (.string u) ∧ u.size ≤ 5000 ∧ ∀ h, ([.string ⟨#[]⟩, .string t] : List Value)[y]'h = .string u := by
          intro t y hy ht
          match y, hy with
          | 0, _ => exact ⟨⟨#[]⟩, rfl, Nat.zero_le _, fun _ => rfl⟩
          | 1, _ => exact ⟨t, rfl, ht, fun _ => rfl⟩
        have hall : ∀ {W : World} {q : Nat}, SP w W g a cap zs q B row m rest (.slice ad ss.length cp) bad ss → ∀ o, (W.alloc o).cell? ⟨w.heap.size, 2, none⟩ = some (.slice ad ss.length cp) := fun hL o => (hL.below ((Below.refl _ _).alloc (Nat.le_refl _) o)).f3.c2
        have hall2 : ∀ {W : World} {q : Nat}, SP w W g a cap zs q B row m rest (.slice ad ss.length cp) bad ss → ∀ o o', ((W.alloc o).alloc o').cell? ⟨w.heap.size, 2, none⟩ = some (.slice ad ss.length cp) := fun hL o o' => ((hL.below ((Below.refl _ _).alloc (Nat.le_refl _) o)).below ((Below.refl _ _).alloc (Nat.le_refl _) o')).f3.c2
        have hfin : ∀ {W W6 : World} {q g6 cp6 : Nat} {u : ByteArray}, SP w W g a cap zs q B row m rest (.slice ad ss.length cp) bad ss → (W.alloc (.cells #[.string u] 9)).grownBy W6 (Value.slice ad ss.length cp).ownBlock → W6.ownsRow B 9 1 (.slice (some ⟨g6, 0, none⟩) (ss.length + 1) cp6) (ss.length + 1) (ss.map .string ++ [.string u]) → ((Value.slice ad ss.length cp).ownBlock = some g6 ∨ g6 = W.heap.size + 1) → SP w (W6.setCell ⟨w.heap.size, 2, none⟩ (.slice (some ⟨g6, 0, none⟩) (ss.length + 1) cp6)) g a cap zs q B row m rest (.slice (some ⟨g6, 0, none⟩) (ss.length + 1) cp6) bad (ss ++ [u]) := by
          intro W W6 q g6 cp6 u hL hg ho hat
          have e1 : (ss ++ [u]).length = ss.length + 1 := by simp
          have hz := hL.size
          have hq := (hL.below ((Below.refl _ _).alloc (Nat.le_refl _) _)).app (ss' := ss ++ [u]) (g' := g6) (cp' := cp6) hg (by rw [e1, List.map_append]; exact ho) (by rcases hat with h | h; exact .inl h; exact .inr (by omega))
          rw [e1] at hq
          exact hq
        have hfin2 : ∀ {W W6 : World} {q : Nat} {o : Obj}, SP w W g a cap zs q B row m rest (.slice ad ss.length cp) bad ss → (W.alloc o).grownBy W6 (Value.slice ad ss.length cp).ownBlock → Fed W6 w.heap.size m rest (.slice ad ss.length cp) bad := fun hL hg => (hL.f3.later ((Below.refl _ _).alloc (Nat.le_refl _) _)).grown hg (fun e => by rcases hL.rows _ e.symm with h | h <;> omega)
        have hcn : ∀ (w3 : World) (o : Obj) (u : ByteArray), ∀ j v, [Value.string u][j]? = some v → ((w3.alloc o).alloc (.cells #[.string u] 9)).cell? ((⟨w3.heap.size + 1, 0, none⟩ : Addr).add j) = some v := by
          intro w3 o u j v h
          have h2 := cell_one_new (w3.alloc o) (.string u) 9 j v h
          rw [World.size_alloc] at h2
          exact h2
        go_wp2_with fail
        go_region_law ((first | (refine step_fn2 (by rfl) 41 _ _ _ _ (by rfl) (Value.pointer (some ⟨g, 0, none⟩)) (.int .i64 2) (by rfl) (by rfl) (fun _ => by kernel_rfl) hp1 ?_; rintro e w2 ⟨x1, rfl, hx1, hgr2, hR2⟩; refine ⟨_, rfl, ?_⟩; have hL2 := hLd.pick hgr2 hR2; have l2 := hL2.f3.c2; have hmany := hmanyW x1 w2 hx1) | (refine step_fn2 (by rfl) 44 _ _ _ _ (by rfl) (.string ⟨#[102]⟩) (.int .i64 (IntKind.i64.wrap (1000 + (x1 : Int)))) (by kernel_rfl) (by kernel_rfl) (fun _ => by kernel_rfl) hmany ?_; rintro e w2' ⟨t, rfl, ht, rfl⟩; refine ⟨_, rfl, ?_⟩; have ht2 := hmm5 x1 t hx1 ht; have bl := (Below.refl w2.heap.size w2).alloc (Nat.le_refl _) (.cells #[.string ⟨#[]⟩, .string t] 9); have hLa := hL2.below bl; have m2 := hLa.f3.c2; have hpa := pick_any g a cap zs (p + 1 + 1) 2 _ hLa.rd hq1 hq2 hq3; have hpb := pick_any g a cap zs (p + 1 + 1) 2 _ hL2.rd hq1 hq2 hq3; have hca := hcellA w2 t hL2.rd.lt ht2) | (refine step_fn2 (by rfl) 41 _ _ _ _ (by rfl) (Value.pointer (some ⟨g, 0, none⟩)) (.int .i64 2) (by rfl) (by rfl) (fun _ => by kernel_rfl) hpa ?_; rintro e w3 ⟨y, rfl, hy, hgr3, hR3⟩; refine ⟨_, rfl, ?_⟩; have hL3 := hLa.pick hgr3 hR3; have hyi : (y : Int) < 2 := (by omega); have n2 := hL3.f3.c2; obtain ⟨u, hu, hu2T⟩ := hca w3 y hy hgr3; have n2' := hall hL3; have ho3 := hL3.own; have hz3 := hL3.size) | (refine step_fn2 (by rfl) 41 _ _ _ _ (by rfl) (Value.pointer (some ⟨g, 0, none⟩)) (.int .i64 2) (by rfl) (by rfl) (fun _ => by kernel_rfl) hpb ?_; rintro e w3 ⟨y, rfl, hy, hgr3, hR3⟩; refine ⟨_, rfl, ?_⟩; have hL3 := hL2.pick hgr3 hR3; have hyi : (y : Int) < 2 := (by omega); have n2 := hL3.f3.c2; obtain ⟨u, hu, hu2T, hu3⟩ := hlitB t y hy ht2; have n2' := hall hL3; have n2'' := hall2 hL3; have ho3 := hL3.own; have hz3 := hL3.size; have hL3b := hL3.below ((Below.refl w3.heap.size w3).alloc (Nat.le_refl _) (.cells #[.string ⟨#[]⟩, .string t] 9)); have ho3b := hL3b.own; have hz3b := hL3b.size) | (refine step_append_lies _ (by rfl) _ _ 22 (by rfl) B 9 i0 _ 1 16 Try.underlying22 hi hz0 hz1 hz2 rfl (by decide) (.slice ad ss.length cp) ss.length (ss.map .string) (by rfl) (ho3.alloc _) ⟨w3.heap.size, 0, none⟩ 1 1 [.string u] (by rfl) (by rfl) (cell_one_new _ _ _) (by simp [Value.oneCell']) (by omega) (by unfold maxLen; omega) (by omega) (by simp; omega) (w3.heap.size + 1) (by simp) ?_; intro g6 cp6 w6 ho6 hg6 hat6 hlt6; have hL6 := hfin hL3 hg6 ho6 hat6; have hfw := hfin2 hL3 hg6; have r2 := hfw.c2; have rf := hfw.cf) | (refine step_append_lies _ (by rfl) _ _ 22 (by rfl) B 9 i0 _ 1 16 Try.underlying22 hi hz0 hz1 hz2 rfl (by decide) (.slice ad ss.length cp) ss.length (ss.map .string) (by rfl) (ho3b.alloc _) ⟨(w3.heap.size + 1), 0, none⟩ 1 1 [.string u] (by rfl) (by rfl) (hcn _ _ _) (by simp [Value.oneCell']) (by omega) (by unfold maxLen; omega) (by omega) (by simp; omega) ((w3.heap.size + 1) + 1) (by simp) ?_; intro g6 cp6 w6 ho6 hg6 hat6 hlt6; have hL6 := hfin hL3b hg6 ho6 (by simpa using hat6); have hfw := hfin2 hL3b hg6; have r2 := hfw.c2; have rf := hfw.cf)))
        all_goals
          have e1 : (ss ++ [u]).length = ss.length + 1 := by simp
          have hsm6 : ∀ s ∈ ss ++ [u], s.size ≤ 5000 := fun s hs => by
            rcases List.mem_append.1 hs with h | h
            · exact hsm.each s h
            · rw [List.mem_singleton.1 h]; exact hu2T
          obtain ⟨hT, hO, hRd, hGr⟩ := hL6.ends
          have z0 := hL6.f3.c0
          have z1 := hL6.f3.c1
          have z2 := hL6.f3.c2
          have z3 := hL6.f3.c3
          have u0 := hL6.f2.c0
          have u1 := hL6.f2.c1
          have u2 := hL6.f2.c2
          have u3 := hL6.f2.c3
          have uf := hL6.f2.cf
          generalize w6.setCell ⟨w.heap.size, 2, none⟩ (.slice (some ⟨g6, 0, none⟩) (ss.length + 1) cp6) = W7 at *
          go_wp2
          generalize (((W7.setCell ⟨w.heap.size + 1, 0, none⟩ (.int .i64 m)).setCell ⟨w.heap.size + 1, 1, none⟩ (.string rest)).setCell ⟨w.heap.size + 1, 2, none⟩ (.slice (some ⟨g6, 0, none⟩) (ss.length + 1) cp6)).setCell ⟨w.heap.size + 1, 3, none⟩ (.bool bad) = W9 at *
          have t0 := hT.c0
          have t1 := hT.c1
          have t2 := hT.c2
          have t3 := hT.c3
          rw [e1] at hO
          refine bodyPost_ret (v := decV m rest (.slice (some ⟨g6, 0, none⟩) (ss.length + 1) cp6) bad) ?_ rfl ⟨m, rest, some ⟨g6, 0, none⟩, cp6, ss ++ [u], bad, by rw [e1], by rw [e1]; exact hO, ⟨hsm.rest, by rw [e1]; omega, hsm6⟩, ⟨_, by omega, hRd⟩, hGr⟩
          go_light
          simp [results, Try.results43, go_sem, t0, t1, t2, t3, decV]
      · have hB2 : ((x : Int) == 2) = false := by simp; omega
        by_cases h3 : x = 3
        · have hB3 : ((x : Int) == 3) = true := by simp; omega
          clear h0 h1 h2 h3
          have k3 := hL.f3.c3
          have kf := hL.f3.cf
          have y0 := hL.f3.c0
          have y1 := hL.f3.c1
          have y2 := hL.f3.c2
          have v0 := hL.f2.c0
          have v1 := hL.f2.c1
          have v2 := hL.f2.c2
          have v3 := hL.f2.c3
          have vf := hL.f2.cf
          have hL := hL.set 3 (.bool (!bad)) hL.f3.set3
          obtain ⟨hT, hO, hRd, hGr⟩ := hL.ends
          have z0 := hL.f3.c0
          have z1 := hL.f3.c1
          have z2 := hL.f3.c2
          have z3 := hL.f3.c3
          have u0 := hL.f2.c0
          have u1 := hL.f2.c1
          have u2 := hL.f2.c2
          have u3 := hL.f2.c3
          have uf := hL.f2.cf
          go_wp2
          generalize ((((w1.setCell ⟨w.heap.size, 3, none⟩ (.bool (!bad))).setCell ⟨w.heap.size + 1, 0, none⟩ (.int .i64 m)).setCell ⟨w.heap.size + 1, 1, none⟩ (.string rest)).setCell ⟨w.heap.size + 1, 2, none⟩ (.slice ad ss.length cp)).setCell ⟨w.heap.size + 1, 3, none⟩ (.bool (!bad)) = W9 at *
          have t0 := hT.c0
          have t1 := hT.c1
          have t2 := hT.c2
          have t3 := hT.c3
          refine bodyPost_ret (v := decV m rest (.slice ad ss.length cp) (!bad)) ?_ rfl ⟨_, _, _, _, ss, _, rfl, hO, hsm, ⟨_, by omega, hRd⟩, hGr⟩
          go_light
          simp [results, Try.results43, go_sem, t0, t1, t2, t3, decV]
        · have hB3 : ((x : Int) == 3) = false := by simp; omega
          clear h0 h1 h2 h3
          go_wp2_with fail
          refine (pick_any g a cap zs (p + 1) 2 _ hL.rd (by omega) (by omega) (by omega)).mono ?_
          rintro e w2 ⟨y, rfl, hy, hgr2, hR2⟩
          have hL2 := hL.pick hgr2 hR2
          clear hL hgr2 hR2
          go_wp2
          go_loopw [11] (fun _ wr => ∃ ss' ad' cp', ss'.length ≤ 2000 ∧ Small rest ss' ∧ SP w wr g a cap zs (p + 1 + 1) B row m rest (.slice ad' (List.length ss') cp') bad ss') (fun _ wr => 2600 - lenAt w.heap.size wr)
          case atStart => exact ⟨ss, ad, cp, hlen, hsm, hL2⟩
          case round =>
            obtain ⟨ss', ad', cp', hl', hsm', hLr⟩ := hrel
            have z2 := hLr.f3.c2
            have hm0 : lenAt w.heap.size wr = ss'.length := by unfold lenAt; rw [z2]; rfl
            by_cases hlt' : (ss'.length : Int) < 500 + y
            · have ho := hLr.own
              have hBs := hLr.size
              go_wp2_with (at_builtin; refine wpList_append_lies _ rfl _ _ 22 rfl B 9 i0 _ 1 16 Try.underlying22 hi hz0 hz1 hz2 rfl (by decide) _ _ _ rfl (ho.alloc _) ⟨wr.heap.size, 0, none⟩ 1 1 [.string ⟨#[102]⟩] rfl rfl (cell_one_new _ _ _) (by simp [Value.oneCell']) (by omega) (by unfold maxLen; omega) (by omega) (by simp; omega) (wr.heap.size + 1) (by simp) ?_; intro g6 cp6 w6' ho6 hg6 hat6 hlt6; have hfw := (hLr.f3.later ((Below.refl _ _).alloc (Nat.le_refl _) _)).grown hg6 (fun e => by rcases hLr.rows _ e.symm with h | h <;> omega); have q2 := hfw.c2; have qf := hfw.cf)
              refine ⟨⟨ss' ++ [⟨#[102]⟩], some ⟨g6, 0, none⟩, cp6, by simp; omega, ⟨hsm'.rest, by simp; omega, ?_⟩, ?_⟩, ?_⟩
              · intro u hu
                rcases List.mem_append.1 hu with h | h
                · exact hsm'.each u h
                · rw [List.mem_singleton.1 h]; show 1 ≤ 5000; omega
              · have e1 : (ss' ++ [(⟨#[102]⟩ : ByteArray)]).length = ss'.length + 1 := by simp
                have hq := (hLr.below ((Below.refl _ _).alloc (Nat.le_refl _) _)).app (ss' := ss' ++ [⟨#[102]⟩]) (g' := g6) (cp' := cp6) hg6 (by rw [List.length_append, List.map_append]; exact ho6) (by rcases hat6 with h | h; exact .inl h; exact .inr (by omega))
                rw [e1] at hq ⊢
                exact hq
              · rw [hm0]
                have hfe := hfw.set2 (sl' := .slice (some ⟨g6, 0, none⟩) (ss'.length + 1) cp6)
                unfold lenAt
                rw [hfe.c2]
                simp only [lenV]
                omega
            · have hL := hLr
              clear hm0
              obtain ⟨hT, hO, hRd, hGr⟩ := hL.ends
              have z0 := hL.f3.c0
              have z1 := hL.f3.c1
              have z2 := hL.f3.c2
              have z3 := hL.f3.c3
              have u0 := hL.f2.c0
              have u1 := hL.f2.c1
              have u2 := hL.f2.c2
              have u3 := hL.f2.c3
              have uf := hL.f2.cf
              go_wp2
              generalize (((wr.setCell ⟨w.heap.size + 1, 0, none⟩ (.int .i64 m)).setCell ⟨w.heap.size + 1, 1, none⟩ (.string rest)).setCell ⟨w.heap.size + 1, 2, none⟩ (.slice ad' ss'.length cp')).setCell ⟨w.heap.size + 1, 3, none⟩ (.bool bad) = W9 at *
              have t0 := hT.c0
              have t1 := hT.c1
              have t2 := hT.c2
              have t3 := hT.c3
              refine bodyPost_ret (v := decV m rest (.slice ad' ss'.length cp') bad) ?_ rfl ⟨_, _, _, _, ss', _, rfl, hO, hsm', ⟨_, by omega, hRd⟩, hGr⟩
              go_light
              simp [results, Try.results43, go_sem, t0, t1, t2, t3, decV]
end Go.Proofs.Ytdlbmjmhlcaalaa
