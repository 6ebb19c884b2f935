/-
  A chunk's state is turned, and what is counted with it; a chunk is sent, marked.
  Conditions: the box lies in memory.
-/
import Derived.Test.YtjceeckcfjjkkaaObB
namespace Go.Proofs.Ytjceeckcfjjkkaa.Ob
open Go.ChangeShapes Go.WideShapes Go.ChangeAt Go.RowKit
open Ba (hidden Has Only cell_lt heap_lt)
open Ow (Own)
set_option linter.unusedVariables false

def cfs (x : Ch) (z : Int) (fs : Nat → Int) (k : Nat) : Int := if x.st = 1 ∧ (k : Int) = x.pa then fs k + z else fs k
def cmk (x : Ch) (z m : Int) : Int := if x.st = 2 then m + z else m
section
variable {D F : Nat → Prop} {w w' : World} {t f : Nat} {rv : Value} {P : List CV} {nx : Int} {n : Nat} {L : List Ch} {fs : Nat → Int} {m : Int} {i g o : Nat} {x y : Ch}
theorem No.drew (h : No D w t f rv P nx n L fs m) : No D w.drew t f rv P nx n L fs m := h.later ⟨rfl, rfl, rfl, Nat.le_refl _, fun _ _ => rfl⟩
theorem Mod.drewr {F : Nat → Prop} {w w' : World} (h : Mod F w w') : Mod F w w'.drew := ⟨h.os, h.tape, h.output, h.size, h.block⟩
theorem count (h : No D w t f rv P nx n L fs m) (hp : Pl rv i g o) (hi : L[i]? = some x) (h0 : 0 ≤ x.pa) (h1 : x.pa < n) (z : Int) (hz : -1099511627776 ≤ z ∧ z ≤ 1099511627776) (hf : ∀ k, k < n → -1099511627776 ≤ fs k ∧ fs k ≤ 1099511627776) (hm : -1099511627776 ≤ m ∧ m ≤ 1099511627776) :
    Calls Try.prog 88 #[.pointer (some ⟨t, 0, none⟩), .pointer (some ⟨g, o, none⟩), .int .i64 z] w fun e w' => e = .returned (.tuple #[]) ∧ No D w' t f rv P nx n L (cfs x z fs) (cmk x z m) ∧ Mod (FC t f rv) w w' := by
  obtain ⟨v, hc, hb, hg, hfr⟩ := h.chunk hp hi
  have c6 := hc 6 _ rfl
  have c1 := hc 1 _ rfl
  simp only at c6 c1
  have H := hidden h
  obtain ⟨z0, z1⟩ := hz
  obtain ⟨m0, m1⟩ := hm
  unfold cfs cmk
  generalize hst : x.st = s at c6 ⊢
  generalize x.pa = pa at c1 h0 h1 ⊢
  obtain ⟨j, rfl⟩ : ∃ j : Nat, pa = j := ⟨pa.toNat, by omega⟩
  have hj : j < n := by omega
  have q2 := h.q.cell 2 rfl
  have q3 := h.q.cell 3 rfl
  have r3 := h.q.frozen 3
  have htl := h.q.lt
  obtain ⟨cs, hcs, hl⟩ := h.fl
  have fj := hcs.cell j (hl j hj)
  have rj := hcs.frozen j
  have hfl := hcs.lt
  have hfj := hf j hj
  obtain ⟨e0, e1⟩ := hfj
  clear hc hb h hp hi hcs hl hf hfr
  by_cases s1 : s = 1
  · subst s1
    have hw : IntKind.i64.wrap (fs j + z) = fs j + z := by rw [IntKind.wrap_i64]; omega
    have HF : Hid (∀ k, k < n → (if k = j then fs j + z else fs k) = (if (1 : Int) = 1 ∧ (k : Int) = (j : Int) then fs k + z else fs k)) := fun k hk => by
      by_cases e : k = j
      · subst e; simp
      · rw [if_neg e, if_neg (by omega)]
    have HM : Hid (m = if (1 : Int) = 2 then m + z else m) := rfl
    generalize hG : (fun k : Nat => if (1 : Int) = 1 ∧ (k : Int) = (j : Int) then fs k + z else fs k) = fs2
    generalize hG2 : (if (1 : Int) = 2 then m + z else m) = m2 at HM ⊢
    have HF2 : Hid (∀ k, k < n → (if k = j then fs j + z else fs k) = fs2 k) := fun k hk => by rw [HF.out k hk, ← hG]
    clear HF hG hG2
    generalize hyy : fs j = yy at *
    go_enter Try.func88, Try.ntmps88
    go_upto_region 2 with fail
    go_region
    go_wp2
    go_end0
    exact ⟨rfl, ((H.out.setF hj (yy + z)).congr HF2.out HM.out rfl).drew, (Mod.setCell w (F := FC t f rv) (p := ⟨f, j, none⟩) (.inr (.inl rfl)) _).drewr⟩
  · have s1b : (s == 1) = false := by simp [s1]
    by_cases s2 : s = 2
    · subst s2
      have hw : IntKind.i64.wrap (m + z) = m + z := by rw [IntKind.wrap_i64]; omega
      have HF : Hid (∀ k, k < n → fs k = (if (2 : Int) = 1 ∧ (k : Int) = (j : Int) then fs k + z else fs k)) := fun k hk => by rw [if_neg (by omega)]
      have HM : Hid (m + z = if (2 : Int) = 2 then m + z else m) := by simp [Hid]
      generalize hG : (fun k : Nat => if (2 : Int) = 1 ∧ (k : Int) = (j : Int) then fs k + z else fs k) = fs2
      generalize hG2 : (if (2 : Int) = 2 then m + z else m) = m2 at HM ⊢
      have HF2 : Hid (∀ k, k < n → fs k = fs2 k) := fun k hk => by rw [HF.out k hk, ← hG]
      clear HF hG hG2
      go_enter Try.func88, Try.ntmps88
      go_wp2
      go_end0
      exact ⟨rfl, (H.out.setQ (j := 3) (u := .int .i64 (m + z)) (nx' := nx) (m' := m + z) rfl).congr HF2.out HM.out rfl, Mod.setCell w (p := ⟨t, 3, none⟩) (.inl rfl) _⟩
    · have s2b : (s == 2) = false := by simp [s2]
      have HF : Hid (∀ k, k < n → fs k = (if s = 1 ∧ (k : Int) = (j : Int) then fs k + z else fs k)) := fun k hk => by rw [if_neg (fun h => s1 h.1)]
      have HM : Hid (m = if s = 2 then m + z else m) := by rw [if_neg s2]; trivial
      generalize hG : (fun k : Nat => if s = 1 ∧ (k : Int) = (j : Int) then fs k + z else fs k) = fs2
      generalize hG2 : (if s = 2 then m + z else m) = m2 at HM ⊢
      have HF2 : Hid (∀ k, k < n → fs k = fs2 k) := fun k hk => by rw [HF.out k hk, ← hG]
      clear HF hG hG2
      go_enter Try.func88, Try.ntmps88
      go_wp2
      go_end0
      exact ⟨rfl, H.out.congr HF2.out HM.out rfl, Mod.refl _ _⟩
theorem Mod.then {F : Nat → Prop} {a b c : World} (h : Mod F a b) (k : Mod F b c) : Mod F a c := h.trans k (fun x hx => .inl hx)
theorem fl_set (hi : L[i]? = some x) (p : Int) : fl (L.set i y) p = fl L p - flF p x + flF p y := sm_set L i x hi
theorem mk_set (hi : L[i]? = some x) : mk (L.set i y) = mk L - mkF x + mkF y := sm_set L i x hi
theorem set_at (hi : L[i]? = some x) : (L.set i y)[i]? = some y := by
  rw [List.getElem?_set, if_pos rfl, if_pos (List.getElem?_eq_some_iff.1 hi).1]
theorem set_set (L : List Ch) (i : Nat) (x y : Ch) : (L.set i x).set i y = L.set i y := List.set_set ..
/-- a chunk's state is turned -/
theorem turn (h : No D w t f rv P nx n L (fun k => fl L k) (mk L)) (hk : Lk n L) (hp : Pl rv i g o) (hi : L[i]? = some x) (s : Int) :
    Calls Try.prog 75 #[.pointer (some ⟨t, 0, none⟩), .pointer (some ⟨g, o, none⟩), .int .i64 s] w fun e w' => e = .returned (.tuple #[]) ∧ (∃ P', No D w' t f rv P' nx n (L.set i { x with st := s }) (fun k => fl (L.set i { x with st := s }) k) (mk (L.set i { x with st := s }))) ∧ Mod (FC t f rv) w w' := by
  have hx := hk.2 x (List.mem_of_getElem? hi)
  obtain ⟨hx1, hx2, hx3⟩ := hx
  have S1 := hidden (size h hp hi)
  have hs0 := sz_nn x
  have hs1 : sz x ≤ 65536 := by unfold sz; omega
  have C1 := hidden (count h hp hi hx2 hx3 (-(sz x)) (by omega) (fun k _ => by have := hk.fl (k : Int); omega) (by have := hk.mk; omega))
  have HP := hidden hp
  have HI := hidden hi
  have HK := hidden hk
  have HX := hidden (And.intro hx1 (And.intro hx2 hx3))
  generalize hz : sz x = z at *
  have hw : IntKind.i64.wrap (-z) = -z := by rw [IntKind.wrap_i64]; omega
  clear h hp hi hk hx1 hx2 hx3
  go_enter Try.func75, Try.ntmps75
  go_wp2_with fail
  refine Calls.mono S1.out ?_
  rintro e w' ⟨rfl, rfl⟩
  go_wp2_with fail
  refine Calls.mono C1.out ?_
  rintro e w1 ⟨rfl, hN1, hm1⟩
  obtain ⟨v1, hc1, _, hg1, hfr1⟩ := hN1.chunk HP.out HI.out
  have c6 := hc1 6 _ rfl
  simp only at c6
  have r6 := hfr1 (o + 6)
  obtain ⟨P2, hN2⟩ := hN1.setC (y := { x with st := s }) (c := 6) (u := .int .i64 s) HP.out HI.out (by decide) (fun _ => rfl) rfl
  have hi2 := set_at (y := { x with st := s }) HI.out
  have S2 := hidden (size hN2 HP.out hi2)
  have hz2 : sz { x with st := s } = z := hz
  rw [hz2] at S2
  have hx := HX.out
  have hmk := HK.out.mk
  have hfl := HK.out.fl
  have C2 := hidden (count hN2 HP.out hi2 hx.2.1 hx.2.2 z (by omega) (fun k _ => by have := hfl (k : Int); unfold cfs; dsimp only; split <;> omega) (by unfold cmk; split <;> omega))
  have HM1 := hidden hm1
  have HZ := hidden hz
  generalize hst : x.st = xs at c6
  clear hN1 hm1 hc1 hN2 hi2 hx hmk hfl hz2 hst hz S1 C1
  go_wp2_with fail
  refine Calls.mono S2.out ?_
  rintro e w' ⟨rfl, rfl⟩
  go_wp2_with fail
  refine Calls.mono C2.out ?_
  rintro e w3 ⟨rfl, hN3, hm3⟩
  have G : Hid ((∃ P', No D w3 t f rv P' nx n (L.set i { x with st := s }) (fun k => fl (L.set i { x with st := s }) k) (mk (L.set i { x with st := s }))) ∧ Mod (FC t f rv) w w3) := by
    refine ⟨⟨_, hN3.congr (fun k hk => ?_) ?_ rfl⟩, (HM1.out.then (Mod.setCell (F := FC t f rv) w1 (p := ⟨g, o + 6, none⟩) (.inr (.inr HP.out.own)) _)).then hm3⟩
    · have hz3 : sz { x with st := s } = z := HZ.out
      have hz4 := HZ.out
      rw [fl_set HI.out]
      unfold cfs flF
      rw [hz3, hz4]
      simp only
      by_cases e : (k : Int) = x.pa
      · by_cases e1 : x.st = 1 <;> by_cases e2 : s = 1 <;> simp [e, e1, e2] <;> omega
      · have e' : ¬ x.pa = (k : Int) := fun h => e h.symm
        by_cases e1 : x.st = 1 <;> by_cases e2 : s = 1 <;> simp [e, e', e1, e2]
    · have hz3 : sz { x with st := s } = z := HZ.out
      have hz4 := HZ.out
      rw [mk_set HI.out]
      unfold cmk mkF
      rw [hz3, hz4]
      simp only
      by_cases e1 : x.st = 2 <;> by_cases e2 : s = 2 <;> simp [e1, e2] <;> omega
  clear hN3 hm3
  go_wp2
  go_end0
  exact ⟨rfl, G.out⟩
/-- a chunk is marked -/
theorem mark (h : No D w t f rv P nx n L (fun k => fl L k) (mk L)) (hk : Lk n L) (hp : Pl rv i g o) (hi : L[i]? = some x) :
    Calls Try.prog 62 #[.pointer (some ⟨t, 0, none⟩), .pointer (some ⟨g, o, none⟩)] w fun e w' => e = .returned (.tuple #[]) ∧ (∃ P', No D w' t f rv P' nx n (L.set i { x with st := 2, mi := 0 }) (fun k => fl (L.set i { x with st := 2, mi := 0 }) k) (mk (L.set i { x with st := 2, mi := 0 }))) ∧ Mod (FC t f rv) w w' := by
  have T := hidden (turn h hk hp hi 2)
  have HP := hidden hp
  have HI := hidden hi
  clear h hk hp hi
  go_enter Try.func62, Try.ntmps62
  go_wp2_with fail
  refine Calls.mono T.out ?_
  rintro e w1 ⟨rfl, ⟨P1, hN1⟩, hm1⟩
  have hi1 := set_at (y := { x with st := 2 }) HI.out
  obtain ⟨v1, hc1, _, hg1, hfr1⟩ := hN1.chunk HP.out hi1
  have c4 := hc1 4 _ rfl
  simp only at c4
  have r4 := hfr1 (o + 4)
  obtain ⟨P2, hN2⟩ := hN1.setC (y := { x with st := 2, mi := 0 }) (c := 4) (u := .int .i64 0) HP.out hi1 (by decide) (fun _ => rfl) rfl
  rw [set_set] at hN2
  have G : Hid ((∃ P', No D (w1.setCell ⟨g, o + 4, none⟩ (.int .i64 0)) t f rv P' nx n (L.set i { x with st := 2, mi := 0 }) (fun k => fl (L.set i { x with st := 2, mi := 0 }) k) (mk (L.set i { x with st := 2, mi := 0 }))) ∧ Mod (FC t f rv) w (w1.setCell ⟨g, o + 4, none⟩ (.int .i64 0))) := by
    refine ⟨⟨_, hN2.congr (fun k hk => ?_) ?_ rfl⟩, hm1.then (Mod.setCell (F := FC t f rv) w1 (p := ⟨g, o + 4, none⟩) (.inr (.inr HP.out.own)) _)⟩
    · rw [fl_set HI.out, fl_set HI.out]; rfl
    · rw [mk_set HI.out, mk_set HI.out]; rfl
  generalize x.mi = xm at c4
  clear hN1 hN2 hm1 hc1 hi1 T
  go_wp2
  go_end0
  exact ⟨rfl, G.out⟩
/-- a chunk is sent -/
theorem send (h : No D w t f rv P nx n L (fun k => fl L k) (mk L)) (hk : Lk n L) (hp : Pl rv i g o) (hi : L[i]? = some x) (h1 : x.st ≠ 1) (ht : 0 ≤ x.ti ∧ x.ti ≤ 2000) (pa now : Int) (hpa : 0 ≤ pa ∧ pa < n) :
    Calls Try.prog 46 #[.pointer (some ⟨t, 0, none⟩), .pointer (some ⟨g, o, none⟩), .int .i64 pa, .int .i64 now] w fun e w' => e = .returned (.tuple #[]) ∧ (∃ P', No D w' t f rv P' nx n (L.set i { x with pa := pa, se := now, ti := x.ti + 1, mi := 0, st := 1 }) (fun k => fl (L.set i { x with pa := pa, se := now, ti := x.ti + 1, mi := 0, st := 1 }) k) (mk (L.set i { x with pa := pa, se := now, ti := x.ti + 1, mi := 0, st := 1 }))) ∧ Mod (FC t f rv) w w' := by
  obtain ⟨v1, hc, _, hg1, hfr1⟩ := h.chunk hp hi
  have c1 := hc 1 _ rfl
  have c2 := hc 2 _ rfl
  have c3 := hc 3 _ rfl
  have c4 := hc 4 _ rfl
  simp only at c1 c2 c3 c4
  have r1 := hfr1 (o + 1)
  have r2 := hfr1 (o + 2)
  have r3 := hfr1 (o + 3)
  have r4 := hfr1 (o + 4)
  have ho := hp.own
  obtain ⟨P1, k1⟩ := h.setC (y := { x with pa := pa }) (c := 1) (u := .int .i64 pa) hp hi (by decide) (fun _ => rfl) rfl
  obtain ⟨P2, k2⟩ := k1.setC (y := { x with pa := pa, se := now }) (c := 3) (u := .int .i64 now) hp (set_at hi) (by decide) (fun _ => rfl) rfl
  rw [set_set] at k2
  obtain ⟨P3, k3⟩ := k2.setC (y := { x with pa := pa, se := now, ti := x.ti + 1 }) (c := 2) (u := .int .i64 (x.ti + 1)) hp (set_at hi) (by decide) (fun _ => rfl) rfl
  rw [set_set] at k3
  obtain ⟨P4, k4⟩ := k3.setC (y := { x with pa := pa, se := now, ti := x.ti + 1, mi := 0 }) (c := 4) (u := .int .i64 0) hp (set_at hi) (by decide) (fun _ => rfl) rfl
  rw [set_set] at k4
  have k5 := k4.congr (fs' := fun k => fl (L.set i { x with pa := pa, se := now, ti := x.ti + 1, mi := 0 }) k) (m' := mk (L.set i { x with pa := pa, se := now, ti := x.ti + 1, mi := 0 })) (L' := L.set i { x with pa := pa, se := now, ti := x.ti + 1, mi := 0 }) (fun k hk => by
    rw [fl_set hi]
    unfold flF
    simp [h1]) (by rw [mk_set hi]; unfold mkF sz; simp) rfl
  have hx := hk.2 x (List.mem_of_getElem? hi)
  have T := hidden (turn k5 (hk.set (x := x) hx.1 hpa.1 hpa.2) hp (set_at hi) 1)
  rw [set_set] at T
  have HM : Hid (Mod (FC t f rv) w ((((w.setCell ⟨g, o + 1, none⟩ (.int .i64 pa)).setCell ⟨g, o + 3, none⟩ (.int .i64 now)).setCell ⟨g, o + 2, none⟩ (.int .i64 (x.ti + 1))).setCell ⟨g, o + 4, none⟩ (.int .i64 0))) :=
    ((((Mod.refl _ w).set (p := ⟨g, o + 1, none⟩) (.inr (.inr ho)) _).set (p := ⟨g, o + 3, none⟩) (.inr (.inr ho)) _).set (p := ⟨g, o + 2, none⟩) (.inr (.inr ho)) _).set (p := ⟨g, o + 4, none⟩) (.inr (.inr ho)) _
  have hw : IntKind.i64.wrap (x.ti + 1) = x.ti + 1 := by rw [IntKind.wrap_i64]; omega
  generalize { x with pa := pa, se := now, ti := x.ti + 1, mi := 0, st := 1 } = y at *
  generalize x.ti = ti at *
  generalize x.pa = xp at *
  generalize x.se = xe at *
  generalize x.mi = xm at *
  clear h hk hp hi k1 k2 k3 k4 k5 hx ho hfr1 hc ht
  go_enter Try.func46, Try.ntmps46
  go_wp2_with fail
  refine Calls.mono T.out ?_
  rintro e w3 ⟨rfl, hP, hm3⟩
  have G := hidden (And.intro hP (HM.out.then hm3))
  clear hP hm3 T HM
  go_wp2
  go_end0
  exact ⟨rfl, G.out⟩
theorem next (h : No D w t f rv P nx n L fs m) : Calls Try.prog 15 #[.pointer (some ⟨t, 0, none⟩)] w fun e w' => e = .returned (.int .u32 nx) ∧ w = w' := by
  have U := hidden (unmade h)
  have c1 := h.q.cell 1 rfl
  clear h
  go_enter Try.func15, Try.ntmps15
  go_wp2_with fail
  refine Calls.mono U.out ?_
  rintro e w' ⟨rfl, rfl⟩
  go_wp2
  go_ret
  exact ⟨rfl, rfl⟩
theorem next_no {p : Option Addr} (h : Un w p) : Calls Try.prog 15 #[.pointer p] w fun e w' => e = .returned (.int .u32 0) ∧ w = w' := by
  have U := hidden (unmade_no h)
  clear h
  go_enter Try.func15, Try.ntmps15
  go_wp2_with fail
  refine Calls.mono U.out ?_
  rintro e w' ⟨rfl, rfl⟩
  go_wp2
  go_ret
  exact ⟨rfl, rfl⟩
theorem len (h : No D w t f rv P nx n L fs m) : Calls Try.prog 14 #[.pointer (some ⟨t, 0, none⟩)] w fun e w' => e = .returned (.int .i64 (L.length : Int)) ∧ w = w' := by
  have U := hidden (unmade h)
  have c0 := h.q.cell 0 rfl
  obtain ⟨a, cap, hv, _⟩ := h.rw_.slice
  rw [h.len] at hv
  rw [hv] at c0
  generalize L.length = z at *
  clear h hv
  go_enter Try.func14, Try.ntmps14
  go_wp2_with fail
  refine Calls.mono U.out ?_
  rintro e w' ⟨rfl, rfl⟩
  go_wp2
  go_ret
  exact ⟨rfl, rfl⟩
theorem len_no {p : Option Addr} (h : Un w p) : Calls Try.prog 14 #[.pointer p] w fun e w' => e = .returned (.int .i64 0) ∧ w = w' := by
  have U := hidden (unmade_no h)
  clear h
  go_enter Try.func14, Try.ntmps14
  go_wp2_with fail
  refine Calls.mono U.out ?_
  rintro e w' ⟨rfl, rfl⟩
  go_wp2
  go_ret
  exact ⟨rfl, rfl⟩
theorem cum (h : No D w t f rv P nx n L fs m) (hl : L.length ≤ 100000) : Calls Try.prog 19 #[.pointer (some ⟨t, 0, none⟩)] w fun e w' => e = .returned (.int .u32 ((nx - (L.length : Int) - 1) % 4294967296)) ∧ ∃ k, w' = w.drewN k := by
  have U := hidden (unmade h)
  have c0 := h.q.cell 0 rfl
  have c1 := h.q.cell 1 rfl
  obtain ⟨a, cap, hv, _⟩ := h.rw_.slice
  rw [h.len] at hv
  rw [hv] at c0
  have HE : Hid (∀ z : Int, ((nx - z) % 4294967296 - 1) % 4294967296 = (nx - z - 1) % 4294967296) := fun z => by omega
  generalize L.length = z at *
  clear h hv
  go_enter Try.func19, Try.ntmps19
  go_wp2_with fail
  refine Calls.mono U.out ?_
  rintro e w' ⟨rfl, rfl⟩
  go_wp2_with fail
  go_quiet (fail)
  go_wp2
  go_ret
  exact ⟨congrArg (fun y => Ending.returned (.int .u32 y)) (HE.out _), _, rfl⟩
theorem cum_no {p : Option Addr} (h : Un w p) : Calls Try.prog 19 #[.pointer p] w fun e w' => e = .returned (.int .u32 0) ∧ w = w' := by
  have U := hidden (unmade_no h)
  clear h
  go_enter Try.func19, Try.ntmps19
  go_wp2_with fail
  refine Calls.mono U.out ?_
  rintro e w' ⟨rfl, rfl⟩
  go_wp2
  go_ret
  exact ⟨rfl, rfl⟩
theorem flying (h : No D w t f rv P nx n L fs m) (s : Int) : Calls Try.prog 27 #[.pointer (some ⟨t, 0, none⟩), .int .i64 s] w fun e w' => e = .returned (.int .i64 (if 0 ≤ s ∧ s < (n : Int) then fs s.toNat else 0)) ∧ w = w' := by
  have U := hidden (unmade h)
  have H := hidden (has h s)
  by_cases hs : 0 ≤ s ∧ s < (n : Int)
  · rw [if_pos hs]
    rw [decide_eq_true hs] at H
    obtain ⟨h0, h1⟩ := hs
    have c2 := h.q.cell 2 rfl
    obtain ⟨cs, hcs, hl⟩ := h.fl
    have fj := hcs.cell s.toNat (hl s.toNat (by omega))
    clear h hcs hl
    generalize fs s.toNat = y at *
    go_enter Try.func27, Try.ntmps27
    go_wp2_with fail
    refine Calls.mono U.out ?_
    rintro e w' ⟨rfl, rfl⟩
    go_wp2_with fail
    refine Calls.mono H.out ?_
    rintro e w' ⟨rfl, rfl⟩
    go_wp2
    go_ret
    exact ⟨rfl, rfl⟩
  · rw [if_neg hs]
    rw [decide_eq_false hs] at H
    clear h hs
    go_enter Try.func27, Try.ntmps27
    go_wp2_with fail
    refine Calls.mono U.out ?_
    rintro e w' ⟨rfl, rfl⟩
    go_wp2_with fail
    refine Calls.mono H.out ?_
    rintro e w' ⟨rfl, rfl⟩
    go_wp2
    go_ret
    exact ⟨rfl, rfl⟩
theorem flying_no {p : Option Addr} (h : Un w p) (s : Int) : Calls Try.prog 27 #[.pointer p, .int .i64 s] w fun e w' => e = .returned (.int .i64 0) ∧ w = w' := by
  have U := hidden (unmade_no h)
  clear h
  go_enter Try.func27, Try.ntmps27
  go_wp2_with fail
  refine Calls.mono U.out ?_
  rintro e w' ⟨rfl, rfl⟩
  go_wp2
  go_ret
  exact ⟨rfl, rfl⟩
/-- the sum of the first numbers -/
def tot (fs : Nat → Int) : Nat → Int
  | 0 => 0
  | k + 1 => tot fs k + fs k
theorem tot_bound (hf : ∀ k, k < n → 0 ≤ fs k ∧ fs k ≤ 1099511627776) : ∀ k, k ≤ n → 0 ≤ tot fs k ∧ tot fs k ≤ 1099511627776 * (k : Int)
  | 0, _ => by simp [tot]
  | k + 1, h => by
    have h1 := tot_bound hf k (by omega)
    have h2 := hf k (by omega)
    simp only [tot]
    omega
theorem total (h : No D w t f rv P nx n L fs m) (hn : n ≤ 8) (hf : ∀ k, k < n → 0 ≤ fs k ∧ fs k ≤ 1099511627776) : Calls Try.prog 28 #[.pointer (some ⟨t, 0, none⟩)] w fun e w' => e = .returned (.int .i64 (tot fs n)) ∧ w = w' := by
  have U := hidden (unmade h)
  have c2 := h.q.cell 2 rfl
  obtain ⟨cs, hcs, hl⟩ := h.fl
  have HL := hidden (And.intro hcs hl)
  have HF := hidden hf
  clear h hcs hl hf
  go_enter Try.func28, Try.ntmps28
  go_wp2_with fail
  refine Calls.mono U.out ?_
  rintro e w' ⟨rfl, rfl⟩
  go_wp2_with fail
  go_loopw [3, 14] (fun a d wr => ∃ k : Nat, d = .int .i64 (k : Int) ∧ a = .int .i64 (tot fs k) ∧ k ≤ n ∧ wr = w) (fun a d wr => n - (intOf d).toNat)
  case atStart => exact ⟨0, rfl, rfl, Nat.zero_le _, rfl⟩
  case round =>
    obtain ⟨k, rfl, rfl, hk, rfl⟩ := hrel
    by_cases hkn : k = n
    · subst hkn
      go_wp2
      go_ret
      exact ⟨rfl, by trivial⟩
    · have hlt : (k : Int) < (n : Int) := by omega
      have fj := HL.out.1.cell k (HL.out.2 k (by omega))
      have hb := tot_bound HF.out k (by omega)
      have hb2 := HF.out k (by omega)
      have hw : IntKind.i64.wrap (tot fs k + fs k) = tot fs k + fs k := by rw [IntKind.wrap_i64]; omega
      have hw2 : IntKind.i64.wrap ((k : Int) + 1) = (k : Int) + 1 := by rw [IntKind.wrap_i64]; omega
      have HT : Hid (tot fs k + fs k = tot fs (k + 1)) := rfl
      generalize tot fs k = tk at *
      generalize fs k = fk at *
      clear hb hb2
      go_wp2
      go_roundw
      case rel => exact ⟨k + 1, by simp, by rw [← HT.out], by omega, by trivial⟩
      case measure => simp only [intOf]; omega
theorem total_no {p : Option Addr} (h : Un w p) : Calls Try.prog 28 #[.pointer p] w fun e w' => e = .returned (.int .i64 0) ∧ w = w' := by
  have U := hidden (unmade_no h)
  clear h
  go_enter Try.func28, Try.ntmps28
  go_wp2_with fail
  refine Calls.mono U.out ?_
  rintro e w' ⟨rfl, rfl⟩
  go_wp2
  go_ret
  exact ⟨rfl, rfl⟩
end
end Go.Proofs.Ytjceeckcfjjkkaa.Ob
