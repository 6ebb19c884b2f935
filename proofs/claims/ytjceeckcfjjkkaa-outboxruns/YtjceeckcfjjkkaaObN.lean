/-
  A report while it is taken, in memory; a report passes a chunk over.
  Conditions: as at each lemma.
-/
import Derived.Test.YtjceeckcfjjkkaaObL
import Derived.Test.YtjceeckcfjjkkaaObO
namespace Go.Proofs.Ytjceeckcfjjkkaa.Ob
open Go.ChangeShapes Go.WideShapes Go.ChangeAt Go.RowKit Go.Shelf
open Ba (hidden Has cell_lt heap_lt)
set_option linter.unusedVariables false

/-- what is told of paths, in memory -/
def Aw (w : World) (b n : Nat) (ak : Nat → Ak) : Prop := ∃ cs, Has w b cs 69 ∧ ∀ i, i < n → cs[i * 4]? = some (.int .i64 (ak i).by_) ∧ cs[i * 4 + 1]? = some (.bool (ak i).mv) ∧ cs[i * 4 + 2]? = some (.int .i64 (ak i).tr) ∧ cs[i * 4 + 3]? = some (.int .i64 (ak i).lo)
section
variable {F : Nat → Prop} {w w' : World} {b n j : Nat} {ak ak' : Nat → Ak}
theorem Aw.stay (h : Aw w b n ak) (hm : Mod F w w') (hF : ¬ F b) : Aw w' b n ak := by obtain ⟨cs, hh, hc⟩ := h; exact ⟨cs, hm.has hh hF, hc⟩
theorem Aw.later (h : Aw w b n ak) (hB : Below w.heap.size w w') : Aw w' b n ak := by obtain ⟨cs, hh, hc⟩ := h; exact ⟨cs, hh.later hB, hc⟩
theorem Aw.calm {B : Nat} (h : Aw w b n ak) (hc : Calm B w w') : Aw w' b n ak := by obtain ⟨cs, hh, hl⟩ := h; exact ⟨cs, hc.has hh, hl⟩
theorem Aw.lt (h : Aw w b n ak) : b < w.heap.size := by obtain ⟨cs, hh, hc⟩ := h; exact hh.lt
theorem Aw.frozen (h : Aw w b n ak) (j : Nat) : w.frozen? ⟨b, j, none⟩ = false := by obtain ⟨cs, hh, hl⟩ := h; exact hh.frozen j
theorem Aw.cells (h : Aw w b n ak) (hj : j < n) : w.cell? ⟨b, j * 4, none⟩ = some (.int .i64 (ak j).by_) ∧ w.cell? ⟨b, j * 4 + 1, none⟩ = some (.bool (ak j).mv) ∧ w.cell? ⟨b, j * 4 + 2, none⟩ = some (.int .i64 (ak j).tr) ∧ w.cell? ⟨b, j * 4 + 3, none⟩ = some (.int .i64 (ak j).lo) := by
  obtain ⟨cs, hh, hl⟩ := h
  obtain ⟨h0, h1, h2, h3⟩ := hl j hj
  exact ⟨hh.cell _ h0, hh.cell _ h1, hh.cell _ h2, hh.cell _ h3⟩
theorem Aw.congr (h : Aw w b n ak) (hf : ∀ i, i < n → ak i = ak' i) : Aw w b n ak' := by
  obtain ⟨cs, hh, hl⟩ := h
  exact ⟨cs, hh, fun i hi => by rw [← hf i hi]; exact hl i hi⟩
theorem Aw.set (h : Aw w b n ak) (hj : j < n) {c : Nat} (hc : c < 4) {u : Value} (a : Ak) (h0 : (if c = 0 then u else .int .i64 (ak j).by_) = .int .i64 a.by_) (h1 : (if c = 1 then u else .bool (ak j).mv) = .bool a.mv) (h2 : (if c = 2 then u else .int .i64 (ak j).tr) = .int .i64 a.tr) (h3 : (if c = 3 then u else .int .i64 (ak j).lo) = .int .i64 a.lo) :
    Aw (w.setCell ⟨b, j * 4 + c, none⟩ u) b n (fun k => if k = j then a else ak k) := by
  obtain ⟨cs, hh, hl⟩ := h
  refine ⟨_, hh.set (j * 4 + c) u, fun i hi => ?_⟩
  have hb : ∀ d, d < 4 → ∀ v, cs[i * 4 + d]? = some v → (cs.setIfInBounds (j * 4 + c) u)[i * 4 + d]? = some (if i = j ∧ c = d then u else v) := fun d hd v hv => by
    have hs := (Array.getElem?_eq_some_iff.1 hv).1
    rw [Array.getElem?_setIfInBounds]
    by_cases e : j * 4 + c = i * 4 + d
    · rw [if_pos e, if_pos (by omega), if_pos (by omega)]
    · rw [if_neg e, if_neg (by omega)]; exact hv
  obtain ⟨q0, q1, q2, q3⟩ := hl i hi
  have p0 := hb 0 (by decide) _ q0
  have p1 := hb 1 (by decide) _ q1
  have p2 := hb 2 (by decide) _ q2
  have p3 := hb 3 (by decide) _ q3
  rw [Nat.add_zero] at p0
  rw [p0, p1, p2, p3]
  by_cases e : i = j
  · subst e
    simp only [true_and, if_true]
    rw [h0, h1, h2, h3]
    exact ⟨rfl, rfl, rfl, rfl⟩
  · simp only [e, false_and, if_false]
    exact ⟨trivial, trivial, trivial, trivial⟩
end
/-- a reading in memory -/
def Rd (w : World) (R t ap n N tb fb nb : Nat) (fr rn : Int) : Prop := Has w R #[.slice (some ⟨ap, 0, none⟩) n n, .int .i64 fr, .int .i64 rn, .pointer (some ⟨t, 0, none⟩), .slice (some ⟨tb, 0, none⟩) N N, .slice (some ⟨fb, 0, none⟩) N N, .slice (some ⟨nb, 0, none⟩) N N] 123
/-- a chunk that is passed over -/
def msB (x : Ch) : Bool := decide (3 ≤ x.mi + 1) && !x.qu
def msC (x : Ch) : Ch := if msB x then { x with st := 2, qu := true, mi := 0 } else { x with mi := x.mi + 1 }
section
variable {D F : Nat → Prop} {w w' : World} {t f : Nat} {rv : Value} {P : List CV} {nx : Int} {n : Nat} {L : List Ch} {fs : Nat → Int} {m : Int} {i g o : Nat} {x y : Ch} {R ap N tb fb nb : Nat} {fr rn : Int} {ak : Nat → Ak}
set_option maxHeartbeats 1000000 in
theorem miss (h : No D w t f rv P nx n L (fun k => fl L k) (mk L)) (hk : Lk n L) (hp : Pl rv i g o) (hi : L[i]? = some x) (hm0 : 0 ≤ x.mi ∧ x.mi ≤ 2000) (hq : x.qu = false → x.mi ≤ 2) (hR : Rd w R t ap n N tb fb nb fr rn) (hA : Aw w ap n ak) (hlo : ∀ i, i < n → 0 ≤ (ak i).lo ∧ (ak i).lo ≤ 1099511627776) :
    Calls Try.prog 91 #[.pointer (some ⟨R, 0, none⟩), .pointer (some ⟨g, o, none⟩)] w fun e w' => e = .returned (.tuple #[]) ∧ (∃ P', No D w' t f rv P' nx n (L.set i (msC x)) (fun k => fl (L.set i (msC x)) k) (mk (L.set i (msC x)))) ∧ Aw w' ap n (fun j => if (j : Int) = x.pa ∧ msB x = true then { ak j with lo := (ak j).lo + sz x } else ak j) ∧ Mod (fun k => FC t f rv k ∨ k = ap) w w' := by
  obtain ⟨v1, hc, _, hg1, hfr1⟩ := h.chunk hp hi
  have c4 := hc 4 _ rfl
  have c5 := hc 5 _ rfl
  simp only at c4 c5
  have r4 := hfr1 (o + 4)
  have r5 := hfr1 (o + 5)
  have ho := hp.own
  have hx := hk.2 x (List.mem_of_getElem? hi)
  have hw1 : IntKind.i64.wrap (x.mi + 1) = x.mi + 1 := by rw [IntKind.wrap_i64]; omega
  by_cases hb : msB x = true
  · have hqu : x.qu = false := by unfold msB at hb; cases hqq : x.qu <;> simp_all
    have hmi : x.mi = 2 := by unfold msB at hb; have := hq hqu; simp only [Bool.and_eq_true, decide_eq_true_eq] at hb; omega
    have hms : msC x = { x with st := 2, qu := true, mi := 0 } := by unfold msC; rw [if_pos hb]
    have hgt : g ≠ t := h.nt g ho
    obtain ⟨P1, k1⟩ := h.setC (y := { x with mi := 3 }) (c := 4) (u := .int .i64 3) hp hi (by decide) (fun _ => rfl) rfl
    obtain ⟨P2, k2⟩ := k1.setC (y := { x with mi := 3, qu := true }) (c := 5) (u := .bool true) hp (set_at hi) (by decide) (fun _ => rfl) rfl
    rw [set_set] at k2
    have hRg : R ≠ g := fun e => by obtain ⟨cur, hu⟩ := h.rw_.obj ho; exact hu.ne (show Has w R _ 123 from hR) (by decide) e.symm
    have hap : ¬ FC t f rv ap := fun e => by
      obtain ⟨cs, ty, h1, h2⟩ := h.type e
      obtain ⟨ca, ha, _⟩ := hA
      have := has_type ha h1
      rcases h2 with rfl | rfl | rfl <;> cases this
    have hag : ap ≠ g := fun e => hap (.inr (.inr (e ▸ ho)))
    obtain ⟨W, hW⟩ : ∃ W, W = (w.setCell ⟨g, o + 4, none⟩ (.int .i64 3)).setCell ⟨g, o + 5, none⟩ (.bool true) := ⟨_, rfl⟩
    have hmW : Mod (fun k => k = g) w W := by rw [hW]; exact (Mod.setCell (F := fun k => k = g) w (p := ⟨g, o + 4, none⟩) rfl _).set (p := ⟨g, o + 5, none⟩) rfl _
    rw [← hW] at k2
    have hRW : Rd W R t ap n N tb fb nb fr rn := hmW.has hR hRg
    have hAW : Aw W ap n ak := hA.stay hmW hag
    have hi2 := set_at (y := { x with mi := 3, qu := true }) hi
    obtain ⟨v2, hc2, _, hg2, hfr2⟩ := k2.chunk hp hi2
    have d1 := hc2 1 _ rfl
    simp only at d1
    have SZ0 := size k2 hp hi2
    have hz2 : sz { x with mi := 3, qu := true } = sz x := rfl
    rw [hz2] at SZ0
    obtain ⟨j, hj⟩ : ∃ j : Nat, x.pa = j := ⟨x.pa.toNat, by omega⟩
    have hjn : j < n := by omega
    have hlj := hlo j hjn
    have hsz0 := sz_nn x
    have hsz1 : sz x ≤ 65536 := by unfold sz; omega
    obtain ⟨_, _, _, e3⟩ := hAW.cells hjn
    have f3 := hAW.frozen (j * 4 + 3)
    have l3 := hAW.lt
    have hAX := hAW.set (j := j) hjn (c := 3) (by decide) (u := .int .i64 ((ak j).lo + sz x)) { ak j with lo := (ak j).lo + sz x } rfl rfl rfl rfl
    have hmX : Mod (fun k => k = ap) W (W.setCell ⟨ap, j * 4 + 3, none⟩ (.int .i64 ((ak j).lo + sz x))) := Mod.setCell (F := fun k => k = ap) W (p := ⟨ap, j * 4 + 3, none⟩) rfl _
    have k3 := k2.stay hmX (fun k hk e => hap (e ▸ hk)) (fun k cur _ hh e => by subst e; obtain ⟨ca, ha, _⟩ := hAW; exact hh.ne ha (by decide) rfl)
    have hRX : Rd (W.setCell ⟨ap, j * 4 + 3, none⟩ (.int .i64 ((ak j).lo + sz x))) R t ap n N tb fb nb fr rn := hmX.has hRW (fun e => by obtain ⟨ca, ha, _⟩ := hAW; exact (show Has W R _ 123 from hRW).ne ha (by decide) e)
    have k4 := k3.congr (fs' := fun k => fl (L.set i { x with mi := 3, qu := true }) k) (m' := mk (L.set i { x with mi := 3, qu := true })) (L' := L.set i { x with mi := 3, qu := true }) (fun k hk => by
      rw [fl_set hi]
      have e1 : flF k { x with mi := 3, qu := true } = flF k x := rfl
      rw [e1]; omega) (by rw [mk_set hi]; have e1 : mkF { x with mi := 3, qu := true } = mkF x := rfl; rw [e1]; omega) rfl
    have MK0 := mark k4.drew (hk.set (x := x) hx.1 hx.2.1 hx.2.2) hp hi2
    rw [set_set] at MK0
    have C0 : Hid (W.drew.cell? ⟨R, 0, none⟩ = some (.slice (some ⟨ap, 0, none⟩) n n)) := (show Has W R _ 123 from hRW).cell 0 rfl
    have C1 : Hid (W.drew.cell? ⟨g, o + 1, none⟩ = some (.int .i64 (j : Int))) := by rw [← hj]; exact d1
    have C3 : Hid (W.drew.cell? ⟨ap, j * 4 + 3, none⟩ = some (.int .i64 (ak j).lo)) := e3
    have F3 : Hid (W.drew.frozen? ⟨ap, j * 4 + 3, none⟩ = false) := f3
    have HIX : Hid (∀ w, (Instr.indexAt 32 (.slice (some ⟨ap, 0, none⟩) n n) (.int .i64 (j : Int))).run Try.prog w = .ok (.pointer (some ⟨ap, j * 4, none⟩)) w) := fun w => by
      have hjn2 : (j : Int) < (n : Int) := by omega
      simp [go_sem, hjn2]
    have HW2 : Hid (IntKind.i64.wrap ((ak j).lo + sz x) = (ak j).lo + sz x) := by show _ = _; rw [IntKind.wrap_i64]; omega
    have SZ : Hid (Calls Try.prog 89 #[.pointer (some ⟨g, o, none⟩)] W.drew fun e w' => e = .returned (.int .i64 (sz x)) ∧ W.drew = w') := by
      have := size k2.drew hp hi2
      rw [hz2] at this
      exact this
    have HST : Hid ((Instr.storeAt 3 (.pointer (some ⟨ap, j * 4 + 3, none⟩)) (.int .i64 ((ak j).lo + sz x))).run Try.prog W.drew = .ok () (W.drew.setCell ⟨ap, j * 4 + 3, none⟩ (.int .i64 ((ak j).lo + sz x)))) := by
      show _ = _
      simp [go_sem, C3.out, F3.out]
    have ES : Hid (∀ (args : Array Value) (w : World), (callFunc 89 args).run Try.prog w = .ok (.enter 89 args) w) := enters_of Try.func89 (by kernel_rfl) rfl
    have MK := hidden MK0
    have G1 : Hid (Aw (W.setCell ⟨ap, j * 4 + 3, none⟩ (.int .i64 ((ak j).lo + sz x))) ap n (fun k => if k = j then { ak j with lo := (ak j).lo + sz x } else ak k) ∧ Mod (fun k => FC t f rv k ∨ k = ap) w (W.setCell ⟨ap, j * 4 + 3, none⟩ (.int .i64 ((ak j).lo + sz x))) ∧ ¬ FC t f rv ap) :=
      ⟨hAX, (hmW.mono (fun k hk => .inl (.inr (.inr (hk ▸ ho))))).trans (hmX.mono (G := fun k => FC t f rv k ∨ k = ap) (fun k hk => .inr hk)) (fun x hx => .inl hx), hap⟩
    have RX := hidden ((show Has (W.setCell ⟨ap, j * 4 + 3, none⟩ (.int .i64 ((ak j).lo + sz x))) R _ 123 from hRX).cell 3 rfl)
    have HW := hidden hW
    have HB := hidden hb
    have HJ := hidden hj
    have HMS := hidden hms
    rw [hmi] at c4
    rw [hqu] at c5
    generalize hlo' : (ak j).lo = lo at *
    have HLO := hidden hlo'
    generalize hz' : sz x = z at *
    have HZ := hidden hz'
    clear h hk hp hi hm0 hq hR hA hlo hc hfr1 k1 k2 hRW hAW hc2 hfr2 d1 SZ0 e3 f3 l3 hAX hmX k3 hRX k4 MK0 hmW hW hx hb hms hw1 hlo' hz' hj hlj hsz0 hsz1 hmi hqu
    go_enter Try.func91, Try.ntmps91
    go_upto_region 3 with fail
    rw [← HW.out]
    refine Ord.wp_region_ex0 (X := Unit) (by kernel_rfl) 55 (fun x => [(some 31, .pointer (some ⟨R, 0, none⟩)), (some 32, .pointer (some ⟨R, 0, none⟩)), (some 33, .pointer (some ⟨R, 0, none⟩)), (some 34, .pointer (some ⟨R, 0, none⟩)), (some 35, .slice (some ⟨ap, 0, none⟩) n n), (some 36, .pointer (some ⟨g, o, none⟩)), (some 37, .pointer (some ⟨g, o, none⟩)), (some 38, .pointer (some ⟨g, o, none⟩)), (some 39, .pointer (some ⟨g, o + 1, none⟩)), (some 40, .int .i64 (j : Int)), (some 41, .pointer (some ⟨ap, j * 4, none⟩)), (some 42, .pointer (some ⟨ap, j * 4 + 3, none⟩)), (some 43, .int .i64 lo), (some 44, .pointer (some ⟨g, o, none⟩)), (some 45, .int .i64 z), (some 46, .int .i64 (lo + z)), (some 47, .pointer (some ⟨ap, j * 4, none⟩)), (some 48, .pointer (some ⟨ap, j * 4 + 3, none⟩)), (none, undef)]) [some 31, some 32, some 33, some 34, some 35, some 36, some 37, some 38, some 39, some 40, some 41, some 42, some 43, some 44, some 45, some 46, some 47, some 48, none] rfl (fun listed hsz hr => Ord.all_listedC (rank := [0, 1, 2, 3, 4, 5, 6, 7, 8, 9, 10, 11, 12, 13, 14, 15, 16, 17, 18]) (by kernel_rfl) hsz hr) (by rfl) (fun _ => rfl) (by kernel_rfl) (Rg.StM [18] (fun k x w' => (k = 0 → w' = W.drew) ∧ (k = 1 → w' = W.drew.setCell ⟨ap, j * 4 + 3, none⟩ (.int .i64 (lo + z))))) (fun _ _ _ _ hL h => h.ext (n := 19) (by decide) hL) ?_ ?_ () ?_
    case refine_1 =>
      intro x Lq iq oq ac w' ho hi hcl hdep hF hW
      have f1 : ac.tmps.size = 55 := hF.1
      match iq, ho, hi, hdep with
      | 0, ho, hi, hdep =>
        cases ho
        have da0 : ac.eval (.tmp 0) = .pointer (some ⟨R, 0, none⟩) := hF.old 0 rfl
        exact Ord.ex_value x rfl rfl (Rg.mv da0 rfl) rfl (hW.keep (by decide))
      | 1, ho, hi, hdep =>
        cases ho
        have da0 : ac.eval (.tmp 31) = .pointer (some ⟨R, 0, none⟩) := hF.2.2.2 0 31 _ rfl (hdep ⟨0, .data⟩ (by simp) rfl)
        exact Ord.ex_value x rfl rfl (Rg.nilc da0 rfl) rfl (hW.keep (by decide))
      | 2, ho, hi, hdep =>
        cases ho
        have da0 : ac.eval (.tmp 32) = .pointer (some ⟨R, 0, none⟩) := hF.2.2.2 1 32 _ rfl (hdep ⟨1, .data⟩ (by simp) rfl)
        exact Ord.ex_value x rfl rfl (Rg.fa da0 rfl (by simp [go_sem])) rfl (hW.keep (by decide))
      | 3, ho, hi, hdep =>
        cases ho
        have da0 : ac.eval (.tmp 33) = .pointer (some ⟨R, 0, none⟩) := hF.2.2.2 2 33 _ rfl (hdep ⟨2, .data⟩ (by simp) rfl)
        exact Ord.ex_value x rfl rfl (Rg.fa da0 rfl (by simp [go_sem])) rfl (hW.keep (by decide))
      | 4, ho, hi, hdep =>
        cases ho
        have da0 : ac.eval (.tmp 34) = .pointer (some ⟨R, 0, none⟩) := hF.2.2.2 3 34 _ rfl (hdep ⟨3, .data⟩ (by simp) rfl)
        obtain ⟨kq, hlo, hhi, hA⟩ := hW.range 0 0 (.inl rfl) (.inr ⟨18, rfl, (Rg.no_of (fun h => hcl 18 _ rfl (h) ⟨4, .phase⟩ (by simp) rfl) hi)⟩)
        exact Ord.ex_value x rfl rfl (Rg.load da0 rfl (by rw [hA.1 (by omega)]; simp [go_sem, C0.out])) rfl (hW.keep (by decide))
      | 5, ho, hi, hdep =>
        cases ho
        have da0 : ac.eval (.tmp 1) = .pointer (some ⟨g, o, none⟩) := hF.old 1 rfl
        exact Ord.ex_value x rfl rfl (Rg.mv da0 rfl) rfl (hW.keep (by decide))
      | 6, ho, hi, hdep =>
        cases ho
        have da0 : ac.eval (.tmp 36) = .pointer (some ⟨g, o, none⟩) := hF.2.2.2 5 36 _ rfl (hdep ⟨5, .data⟩ (by simp) rfl)
        exact Ord.ex_value x rfl rfl (Rg.nilc da0 rfl) rfl (hW.keep (by decide))
      | 7, ho, hi, hdep =>
        cases ho
        have da0 : ac.eval (.tmp 37) = .pointer (some ⟨g, o, none⟩) := hF.2.2.2 6 37 _ rfl (hdep ⟨6, .data⟩ (by simp) rfl)
        exact Ord.ex_value x rfl rfl (Rg.fa da0 rfl (by simp [go_sem])) rfl (hW.keep (by decide))
      | 8, ho, hi, hdep =>
        cases ho
        have da0 : ac.eval (.tmp 38) = .pointer (some ⟨g, o, none⟩) := hF.2.2.2 7 38 _ rfl (hdep ⟨7, .data⟩ (by simp) rfl)
        exact Ord.ex_value x rfl rfl (Rg.fa da0 rfl (by simp [go_sem])) rfl (hW.keep (by decide))
      | 9, ho, hi, hdep =>
        cases ho
        have da0 : ac.eval (.tmp 39) = .pointer (some ⟨g, o + 1, none⟩) := hF.2.2.2 8 39 _ rfl (hdep ⟨8, .data⟩ (by simp) rfl)
        obtain ⟨kq, hlo, hhi, hA⟩ := hW.range 0 0 (.inl rfl) (.inr ⟨18, rfl, (Rg.no_of (fun h => hcl 18 _ rfl (h) ⟨9, .phase⟩ (by simp) rfl) hi)⟩)
        exact Ord.ex_value x rfl rfl (Rg.load da0 rfl (by rw [hA.1 (by omega)]; simp [go_sem, C1.out])) rfl (hW.keep (by decide))
      | 10, ho, hi, hdep =>
        cases ho
        have da0 : ac.eval (.tmp 35) = .slice (some ⟨ap, 0, none⟩) n n := hF.2.2.2 4 35 _ rfl (hdep ⟨4, .data⟩ (by simp) rfl)
        have da1 : ac.eval (.tmp 40) = .int .i64 (j : Int) := hF.2.2.2 9 40 _ rfl (hdep ⟨9, .data⟩ (by simp) rfl)
        exact Ord.ex_value x rfl rfl (Rg.ix da0 da1 rfl (HIX.out _)) rfl (hW.keep (by decide))
      | 11, ho, hi, hdep =>
        cases ho
        have da0 : ac.eval (.tmp 41) = .pointer (some ⟨ap, j * 4, none⟩) := hF.2.2.2 10 41 _ rfl (hdep ⟨10, .data⟩ (by simp) rfl)
        exact Ord.ex_value x rfl rfl (Rg.fa da0 rfl (by simp [go_sem])) rfl (hW.keep (by decide))
      | 12, ho, hi, hdep =>
        cases ho
        have da0 : ac.eval (.tmp 42) = .pointer (some ⟨ap, j * 4 + 3, none⟩) := hF.2.2.2 11 42 _ rfl (hdep ⟨11, .data⟩ (by simp) rfl)
        obtain ⟨kq, hlo, hhi, hA⟩ := hW.range 0 0 (.inl rfl) (.inr ⟨18, rfl, (Rg.no_of (fun h => hcl 18 _ rfl (h) ⟨12, .phase⟩ (by simp) rfl) hi)⟩)
        exact Ord.ex_value x rfl rfl (Rg.load da0 rfl (by rw [hA.1 (by omega)]; simp [go_sem, C3.out])) rfl (hW.keep (by decide))
      | 13, ho, hi, hdep =>
        cases ho
        have da0 : ac.eval (.tmp 1) = .pointer (some ⟨g, o, none⟩) := hF.old 1 rfl
        exact Ord.ex_value x rfl rfl (Rg.mv da0 rfl) rfl (hW.keep (by decide))
      | 14, ho, hi, hdep =>
        cases ho
        have da0 : ac.eval (.tmp 44) = .pointer (some ⟨g, o, none⟩) := hF.2.2.2 13 44 _ rfl (hdep ⟨13, .data⟩ (by simp) rfl)
        obtain ⟨kq, hlo, hhi, hA⟩ := hW.range 0 0 (.inl rfl) (.inr ⟨18, rfl, (Rg.no_of (fun h => hcl 18 _ rfl (h) ⟨14, .chain⟩ (by simp) rfl) hi)⟩)
        have hw := hA.1 (by omega)
        subst hw
        exact Rg.ex_call x rfl rfl (Rg.enter (args := #[.pointer (some ⟨g, o, none⟩)]) rfl rfl (by simp [da0]) ES.out) (Calls.mono SZ.out (by rintro e w2 ⟨rfl, rfl⟩; exact ⟨rfl, (hW.keep (by decide))⟩))
      | 15, ho, hi, hdep =>
        cases ho
        have da0 : ac.eval (.tmp 43) = .int .i64 lo := hF.2.2.2 12 43 _ rfl (hdep ⟨12, .data⟩ (by simp) rfl)
        have da1 : ac.eval (.tmp 45) = .int .i64 z := hF.2.2.2 14 45 _ rfl (hdep ⟨14, .data⟩ (by simp) rfl)
        exact Ord.ex_value x rfl rfl (Rg.bin da0 da1 rfl (by simp [go_sem, HW2.out])) rfl (hW.keep (by decide))
      | 16, ho, hi, hdep =>
        cases ho
        have da0 : ac.eval (.tmp 35) = .slice (some ⟨ap, 0, none⟩) n n := hF.2.2.2 4 35 _ rfl (hdep ⟨4, .data⟩ (by simp) rfl)
        have da1 : ac.eval (.tmp 40) = .int .i64 (j : Int) := hF.2.2.2 9 40 _ rfl (hdep ⟨9, .data⟩ (by simp) rfl)
        exact Ord.ex_value x rfl rfl (Rg.ix da0 da1 rfl (HIX.out _)) rfl (hW.keep (by decide))
      | 17, ho, hi, hdep =>
        cases ho
        have da0 : ac.eval (.tmp 47) = .pointer (some ⟨ap, j * 4, none⟩) := hF.2.2.2 16 47 _ rfl (hdep ⟨16, .data⟩ (by simp) rfl)
        exact Ord.ex_value x rfl rfl (Rg.fa da0 rfl (by simp [go_sem])) rfl (hW.keep (by decide))
      | 18, ho, hi, hdep =>
        cases ho
        have da0 : ac.eval (.tmp 48) = .pointer (some ⟨ap, j * 4 + 3, none⟩) := hF.2.2.2 17 48 _ rfl (hdep ⟨17, .data⟩ (by simp) rfl)
        have da1 : ac.eval (.tmp 46) = .int .i64 (lo + z) := hF.2.2.2 15 46 _ rfl (hdep ⟨15, .data⟩ (by simp) rfl)
        have hA := hW.at (k := 0) rfl hi (.inl rfl)
        have hw := hA.1 rfl
        subst hw
        exact Rg.ex_skip x rfl rfl (Rg.sto da0 da1 rfl HST.out) rfl (hW.next (k := 0) rfl (by decide) hi (.inl rfl) ⟨fun e => absurd e (by decide), fun _ => rfl⟩)
    case refine_3 => exact Rg.StM.first ⟨fun _ => rfl, fun e => absurd e (by decide)⟩
    case refine_2 =>
      intro v' w2 hW
      have hA := hW.last
      have hw2 := hA.2 rfl
      subst hw2
      clear hW hA
      simp only [Ord.puts, Ord.prs]
      go_simp
      have rx := RX.out
      go_wp2_with fail
      refine Calls.mono MK.out ?_
      rintro e w3 ⟨rfl, hP, hm3⟩
      have G : Hid ((∃ P', No D w3 t f rv P' nx n (L.set i (msC x)) (fun k => fl (L.set i (msC x)) k) (mk (L.set i (msC x)))) ∧ Aw w3 ap n (fun j => if (j : Int) = x.pa ∧ msB x = true then { ak j with lo := (ak j).lo + z } else ak j) ∧ Mod (fun k => FC t f rv k ∨ k = ap) w w3) := by
        refine ⟨by rw [HMS.out]; exact hP, (G1.out.1.stay hm3.drew G1.out.2.2).congr (fun k hk => ?_), G1.out.2.1.trans hm3.drew (fun x hx => .inl (.inl hx))⟩
        by_cases e : k = j
        · subst e
          rw [if_pos rfl, if_pos ⟨HJ.out.symm, HB.out⟩, HLO.out]
        · rw [if_neg e, if_neg (fun h => by have := HJ.out; omega)]
      clear hP hm3
      go_wp2
      go_end0
      exact ⟨rfl, G.out⟩
  · have hms : msC x = { x with mi := x.mi + 1 } := by unfold msC; rw [if_neg hb]
    obtain ⟨P1, k1⟩ := h.setC (y := { x with mi := x.mi + 1 }) (c := 4) (u := .int .i64 (x.mi + 1)) hp hi (by decide) (fun _ => rfl) rfl
    have k2 := k1.congr (fs' := fun k => fl (L.set i { x with mi := x.mi + 1 }) k) (m' := mk (L.set i { x with mi := x.mi + 1 })) (L' := L.set i { x with mi := x.mi + 1 }) (fun k hk => by
      rw [fl_set hi]
      have e1 : flF k { x with mi := x.mi + 1 } = flF k x := rfl
      rw [e1]; omega) (by rw [mk_set hi]; have e1 : mkF { x with mi := x.mi + 1 } = mkF x := rfl; rw [e1]; omega) rfl
    have hmW : Mod (fun k => k = g) w (w.setCell ⟨g, o + 4, none⟩ (.int .i64 (x.mi + 1))) := Mod.setCell (F := fun k => k = g) w (p := ⟨g, o + 4, none⟩) rfl _
    have hag : ap ≠ g := fun e => by
      obtain ⟨cur, hu⟩ := h.rw_.obj ho
      obtain ⟨ca, ha, _⟩ := hA
      exact ha.ne hu (by decide) e
    have G : Hid ((∃ P', No D (w.setCell ⟨g, o + 4, none⟩ (.int .i64 (x.mi + 1))) t f rv P' nx n (L.set i (msC x)) (fun k => fl (L.set i (msC x)) k) (mk (L.set i (msC x)))) ∧ Aw (w.setCell ⟨g, o + 4, none⟩ (.int .i64 (x.mi + 1))) ap n (fun j => if (j : Int) = x.pa ∧ msB x = true then { ak j with lo := (ak j).lo + sz x } else ak j) ∧ Mod (fun k => FC t f rv k ∨ k = ap) w (w.setCell ⟨g, o + 4, none⟩ (.int .i64 (x.mi + 1)))) := by
      refine ⟨⟨P1, by rw [hms]; exact k2⟩, (hA.stay hmW hag).congr (fun k hk => by rw [if_neg (fun h => hb h.2)]), hmW.mono (fun k hk => .inl (.inr (.inr (hk ▸ ho))))⟩
    by_cases h3 : x.mi + 1 = 3
    · have hqu : x.qu = true := by cases hqq : x.qu with
        | true => rfl
        | false => exact absurd (by unfold msB; rw [hqq]; simp; omega) hb
      have h2 : x.mi = 2 := by omega
      rw [hqu] at c5
      rw [h2] at c4 hw1 G
      generalize hmc : msC x = mc at G ⊢
      generalize msB x = mb at G ⊢
      generalize sz x = z at G ⊢
      clear h hk hp hi hm0 hq hR hA hlo hc hfr1 k1 k2 hmW hx hb hms h3 hqu h2 hmc
      go_enter Try.func91, Try.ntmps91
      go_wp2
      go_end0
      exact ⟨rfl, G.out⟩
    · have h3b : (x.mi + 1 == 3) = false := by simp [h3]
      generalize hmc : msC x = mc at G ⊢
      generalize msB x = mb at G ⊢
      generalize sz x = z at G ⊢
      generalize x.mi = mi at *
      clear h hk hp hi hm0 hq hR hA hlo hc hfr1 k1 k2 hmW hx hms hmc
      go_enter Try.func91, Try.ntmps91
      go_wp2
      go_end0
      exact ⟨rfl, G.out⟩
end
end Go.Proofs.Ytjceeckcfjjkkaa.Ob
