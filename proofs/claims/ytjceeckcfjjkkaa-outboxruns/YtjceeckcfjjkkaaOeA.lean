/-
  The document's comparison of two chunks that are alike.
  Conditions: the bytes of both can be read.
-/
import Derived.Test.YtjceeckcfjjkkaaOdA
namespace Go.Proofs.Ytjceeckcfjjkkaa.Ob
open Go.ChangeShapes Go.WideShapes Go.ChangeAt Go.RowKit
open Ba (hidden Has cell_lt heap_lt)
set_option linter.unusedVariables false
/-- a part as cells -/
def ptc (p : Pt) (u : Value) : Array Value := #[.int .u16 p.sm, .int .u16 p.sn, .int .u32 p.pr, .bool p.un, u, .bool p.bg, .bool p.en]
def ptz : Array Value := #[.int .u16 0, .int .u16 0, .int .u32 0, .bool false, .slice none 0 0, .bool false, .bool false]
/-- worlds while two parts are laid, in either order -/
structure SaI (W : World) (pc qc : Array Value) (x : Nat × Nat) (l4 l5 l6 l7 : Bool) (w' : World) : Prop where
  b : Below W.heap.size W w'
  a : l4 = true → W.heap.size ≤ x.1 ∧ Has w' x.1 (if l6 = true then pc else ptz) 42
  c : l5 = true → W.heap.size ≤ x.2 ∧ Has w' x.2 (if l7 = true then qc else ptz) 42
  n : l4 = true → l5 = true → x.1 ≠ x.2
  o : l6 = true → l4 = true ∧ l5 = true
  p : l7 = true → l6 = true
section
variable {W w' : World} {pc qc : Array Value} {x : Nat × Nat} {l4 l5 l6 l7 : Bool}
theorem SaI.first (W : World) (pc qc : Array Value) (x : Nat × Nat) : SaI W pc qc x false false false false W.drew :=
  ⟨(Below.refl _ _).drew, fun e => (by cases e), fun e => (by cases e), fun e => (by cases e), fun e => (by cases e), fun e => (by cases e)⟩
theorem SaI.s4 (h : SaI W pc qc x false l5 l6 l7 w') : SaI W pc qc (w'.heap.size, x.2) true l5 l6 l7 (w'.alloc (.cells ptz 42)) := by
  have e6 : l6 = false := by cases l6 with | false => rfl | true => exact (h.o rfl).1.symm
  subst e6
  have e7 : l7 = false := by cases l7 with | false => rfl | true => exact (h.p rfl).symm
  subst e7
  have hB : Below w'.heap.size w' (w'.alloc (.cells ptz 42)) := (Below.refl _ _).alloc (Nat.le_refl _) _
  refine ⟨h.b.trans (hB.mono h.b.size), fun _ => ⟨h.b.size, Has.new _ _ _⟩, fun e => ⟨(h.c e).1, (h.c e).2.later hB⟩, fun _ e => ?_, fun e => (by cases e), fun e => (by cases e)⟩
  have := (h.c e).2.lt
  simp only
  omega
theorem SaI.s5 (h : SaI W pc qc x l4 false l6 l7 w') : SaI W pc qc (x.1, w'.heap.size) l4 true l6 l7 (w'.alloc (.cells ptz 42)) := by
  have e6 : l6 = false := by cases l6 with | false => rfl | true => exact (h.o rfl).2.symm
  subst e6
  have e7 : l7 = false := by cases l7 with | false => rfl | true => exact (h.p rfl).symm
  subst e7
  have hB : Below w'.heap.size w' (w'.alloc (.cells ptz 42)) := (Below.refl _ _).alloc (Nat.le_refl _) _
  refine ⟨h.b.trans (hB.mono h.b.size), fun e => ⟨(h.a e).1, (h.a e).2.later hB⟩, fun _ => ⟨h.b.size, Has.new _ _ _⟩, fun e _ => ?_, fun e => (by cases e), fun e => (by cases e)⟩
  have := (h.a e).2.lt
  simp only
  omega
theorem row_mod (w : World) (b : Nat) (cs : Array Value) {cs0 : Array Value} {t : TypeId} (h : Has w b cs0 t) : Mod (fun j => j = b) w (w.setRow b cs) := by
  refine ⟨rfl, rfl, rfl, ?_, fun k hk hn => setRow_other w b k cs hn⟩
  have := below_setRow (Below.refl b w) (Nat.le_refl b) cs
  exact this.size
theorem SaI.s6 (h : SaI W pc qc x true true false l7 w') : SaI W pc qc x true true true l7 (w'.setRow x.1 pc) := by
  have e7 : l7 = false := by cases l7 with | false => rfl | true => exact (h.p rfl).symm
  subst e7
  have h1 := h.a rfl
  have h2 := h.c rfl
  have hm := row_mod w' x.1 pc h1.2
  exact ⟨h.b.trans (hm.below h.b.size (fun j hj => by rw [hj]; exact h1.1)), fun _ => ⟨h1.1, setRow_heap w' x.1 ptz pc 42 (0, 0) h1.2⟩, fun _ => ⟨h2.1, hm.has h2.2 (fun e => h.n rfl rfl e.symm)⟩, h.n, fun _ => ⟨rfl, rfl⟩, fun e => (by cases e)⟩
theorem SaI.s7 (h : SaI W pc qc x true true true false w') : SaI W pc qc x true true true true (w'.setRow x.2 qc) := by
  have h1 := h.a rfl
  have h2 := h.c rfl
  have hm := row_mod w' x.2 qc h2.2
  exact ⟨h.b.trans (hm.below h.b.size (fun j hj => by rw [hj]; exact h2.1)), fun _ => ⟨h1.1, hm.has h1.2 (fun e => h.n rfl rfl e)⟩, fun _ => ⟨h2.1, setRow_heap w' x.2 ptz qc 42 (0, 0) h2.2⟩, h.n, fun _ => ⟨rfl, rfl⟩, fun _ => rfl⟩
theorem SaI.keep {L : Nat → Bool} {i : Nat} (hi : i < 4) (h : SaI W pc qc x (L 4) (L 5) (L 6) (L 7) w') : SaI W pc qc x (Ord.upd L i 4) (Ord.upd L i 5) (Ord.upd L i 6) (Ord.upd L i 7) w' := by
  rw [Rg.upd_ne L (c := 4) (i := i) (decide_eq_false (by omega)), Rg.upd_ne L (c := 5) (i := i) (decide_eq_false (by omega)), Rg.upd_ne L (c := 6) (i := i) (decide_eq_false (by omega)), Rg.upd_ne L (c := 7) (i := i) (decide_eq_false (by omega))]
  exact h
theorem alloc_pt (w : World) : (Instr.alloc 42 true (.tuple #[])).run Try.prog w = .ok (.pointer (some ⟨w.heap.size, 0, none⟩)) (w.alloc (.cells ptz 42)) := by kernel_rfl
theorem store_pt {b : Nat} {cs : Array Value} (p : Pt) (a : Option Addr) (l c : Nat) (h : Has w' b cs 42) (hs : cs.size = 7) : (Instr.storeAt 42 (.pointer (some ⟨b, 0, none⟩)) (.agg (ptc p (.slice a l c)))).run Try.prog w' = .ok () (w'.setRow b (ptc p (.slice a l c))) :=
  Ow.store_row h (by kernel_rfl) hs (by simp [ptc, Value.oneCell'])
theorem load_pt {b : Nat} {x : Ch} {u : Value} (h : Has w' b (oc x u) 59) : (Instr.loadAt 42 (.pointer (some ⟨b, 7, none⟩))).run Try.prog w' = .ok (.agg (ptc x.p u)) w' := by
  unfold oc at h
  obtain ⟨e0, e1, e2, e3, e4, e5, e6, e7, e8, e9, e10, e11, e12, e13⟩ := cells14 h
  simp [go_sem, e7, e8, e9, e10, e11, e12, e13, ptc]
end
section
variable {w w' : World} {x : Ch} {a a' : Option Addr} {l l' c c' : Nat}
set_option maxRecDepth 8000 in
set_option maxHeartbeats 4000000 in
theorem r_same (x : Ch) (h : Row w a l x.p.d) (h' : Row w a' l' x.p.d) : Calls Try.prog 31 #[ov x (.slice a l c), ov x (.slice a' l' c')] w fun e w' => e = .returned (.bool true) ∧ Below w.heap.size w w' := by
  obtain ⟨W, hW⟩ : ∃ W, W = (w.alloc (.cells (oc x (.slice a l c)) 59)).alloc (.cells (oc x (.slice a' l' c')) 59) := ⟨_, rfl⟩
  have hO : Ow.Own w W [(w.heap.size + 1, oc x (.slice a' l' c'), 59), (w.heap.size, oc x (.slice a l c), 59)] := by
    have := ((Ow.Own.refl w).alloc (oc x (.slice a l c)) 59).alloc (oc x (.slice a' l' c')) 59
    simp only [World.size_alloc] at this
    rw [hW]
    exact this
  have HO := hidden hO
  obtain ⟨ss, hss⟩ : ∃ ss, ss = strOfNums x.p.d := ⟨_, rfl⟩
  have HCA : Hid (∀ X, Below W.heap.size W X → (convert 38 9 (.slice a l c)).run Try.prog X = .ok (.string ss) X) := fun X hX => by rw [hss]; exact ((h.later hO.below).later hX).conv c
  have HCB : Hid (∀ X, Below W.heap.size W X → (convert 38 9 (.slice a' l' c')).run Try.prog X = .ok (.string ss) X) := fun X hX => by rw [hss]; exact ((h'.later hO.below).later hX).conv c'
  have HL1 : Hid (∀ X, Below W.heap.size W X → (Instr.loadAt 42 (.pointer (some ⟨w.heap.size, 7, none⟩))).run Try.prog X = .ok (.agg (ptc x.p (.slice a l c))) X) := fun X hX => load_pt ((HO.out.later hX).has (List.mem_cons_of_mem _ (List.mem_cons_self ..)))
  have HL2 : Hid (∀ X, Below W.heap.size W X → (Instr.loadAt 42 (.pointer (some ⟨w.heap.size + 1, 7, none⟩))).run Try.prog X = .ok (.agg (ptc x.p (.slice a' l' c'))) X) := fun X hX => load_pt ((HO.out.later hX).has (List.mem_cons_self ..))
  unfold oc at hW
  have HW := hidden hW
  clear h h' hW hO hss
  unfold ov
  go_enter Try.func31, Try.ntmps31
  go_upto_region 1 with fail
  rw [← HW.out]
  refine Ord.wp_region_ex0 (X := Nat × Nat) (by kernel_rfl) 119 (fun y => [(some 7, .pointer (some ⟨w.heap.size, 7, none⟩)), (some 8, .agg (ptc x.p (.slice a l c))), (some 9, .pointer (some ⟨w.heap.size + 1, 7, none⟩)), (some 10, .agg (ptc x.p (.slice a' l' c'))), (some 5, .pointer (some ⟨y.1, 0, none⟩)), (some 6, .pointer (some ⟨y.2, 0, none⟩)), (none, undef), (none, undef)]) [some 7, some 8, some 9, some 10, some 5, some 6, none, none] rfl (fun listed hsz hr => Ord.all_listedC (rank := [0, 1, 2, 3, 4, 5, 6, 7]) (by kernel_rfl) hsz hr) (by rfl) (fun _ => rfl) (by kernel_rfl) (fun y L w' => SaI W (ptc x.p (.slice a l c)) (ptc x.p (.slice a' l' c')) y (L 4) (L 5) (L 6) (L 7) w') (fun _ L L' _ hL h => by rw [← hL 4 (by decide), ← hL 5 (by decide), ← hL 6 (by decide), ← hL 7 (by decide)]; exact h) ?_ ?_ (0, 0) ?_
  case refine_1 =>
    intro y Lq iq oq ac w' ho hi hcl hdep hF hW
    have f1 : ac.tmps.size = 119 := hF.1
    match iq, ho, hi, hdep with
    | 0, ho, hi, hdep =>
      cases ho
      have da0 : ac.eval (.tmp 2) = .pointer (some ⟨w.heap.size, 0, none⟩) := hF.old 2 rfl
      exact Ord.ex_value y rfl rfl (Rg.fa da0 rfl (by simp [go_sem])) rfl (hW.keep (by decide))
    | 1, ho, hi, hdep =>
      cases ho
      have da0 : ac.eval (.tmp 7) = .pointer (some ⟨w.heap.size, 7, none⟩) := hF.2.2.2 0 7 _ rfl (hdep ⟨0, .data⟩ (by simp) rfl)
      exact Ord.ex_value y rfl rfl (Rg.load da0 rfl (HL1.out _ hW.b)) rfl (hW.keep (by decide))
    | 2, ho, hi, hdep =>
      cases ho
      have da0 : ac.eval (.tmp 3) = .pointer (some ⟨w.heap.size + 1, 0, none⟩) := hF.old 3 rfl
      exact Ord.ex_value y rfl rfl (Rg.fa da0 rfl (by simp [go_sem])) rfl (hW.keep (by decide))
    | 3, ho, hi, hdep =>
      cases ho
      have da0 : ac.eval (.tmp 9) = .pointer (some ⟨w.heap.size + 1, 7, none⟩) := hF.2.2.2 2 9 _ rfl (hdep ⟨2, .data⟩ (by simp) rfl)
      exact Ord.ex_value y rfl rfl (Rg.load da0 rfl (HL2.out _ hW.b)) rfl (hW.keep (by decide))
    | 4, ho, hi, hdep =>
      cases ho
      refine Ord.ex_letter y (w'.heap.size, y.2) rfl rfl (Rg.alo rfl (alloc_pt w')) rfl (fun j hj => match j, hj with | 0, _ => rfl | 1, _ => rfl | 2, _ => rfl | 3, _ => rfl | 4, hj => absurd hj (by rw [hi]; decide) | 5, _ => rfl | 6, _ => rfl | 7, _ => rfl | _ + 8, _ => rfl) ?_
      rw [Rg.upd_same, Rg.upd_ne Lq (c := 5) (i := 4) rfl, Rg.upd_ne Lq (c := 6) (i := 4) rfl, Rg.upd_ne Lq (c := 7) (i := 4) rfl]
      rw [hi] at hW
      exact hW.s4
    | 5, ho, hi, hdep =>
      cases ho
      refine Ord.ex_letter y (y.1, w'.heap.size) rfl rfl (Rg.alo rfl (alloc_pt w')) rfl (fun j hj => match j, hj with | 0, _ => rfl | 1, _ => rfl | 2, _ => rfl | 3, _ => rfl | 4, _ => rfl | 5, hj => absurd hj (by rw [hi]; decide) | 6, _ => rfl | 7, _ => rfl | _ + 8, _ => rfl) ?_
      rw [Rg.upd_same, Rg.upd_ne Lq (c := 4) (i := 5) rfl, Rg.upd_ne Lq (c := 6) (i := 5) rfl, Rg.upd_ne Lq (c := 7) (i := 5) rfl]
      rw [hi] at hW
      exact hW.s5
    | 6, ho, hi, hdep =>
      cases ho
      have q4 := hdep ⟨4, .data⟩ (by simp) rfl
      have q5 := hdep ⟨5, .phase⟩ (by simp) rfl
      have da0 : ac.eval (.tmp 5) = .pointer (some ⟨y.1, 0, none⟩) := hF.2.2.2 4 5 _ rfl q4
      have da1 : ac.eval (.tmp 8) = .agg (ptc x.p (.slice a l c)) := hF.2.2.2 1 8 _ rfl (hdep ⟨1, .data⟩ (by simp) rfl)
      have q4' : Lq 4 = true := q4
      have q5' : Lq 5 = true := q5
      rw [hi, q4', q5'] at hW
      refine Rg.ex_skip y rfl rfl (Rg.sto da0 da1 rfl (store_pt x.p a l c (hW.a rfl).2 rfl)) rfl ?_
      rw [Rg.upd_same, Rg.upd_ne Lq (c := 4) (i := 6) rfl, Rg.upd_ne Lq (c := 5) (i := 6) rfl, Rg.upd_ne Lq (c := 7) (i := 6) rfl, q4', q5']
      exact hW.s6
    | 7, ho, hi, hdep =>
      cases ho
      have q6 := hdep ⟨6, .chain⟩ (by simp) rfl
      have q6' : Lq 6 = true := q6
      have q45 := hW.o q6'
      have da0 : ac.eval (.tmp 6) = .pointer (some ⟨y.2, 0, none⟩) := hF.2.2.2 5 6 _ rfl (hdep ⟨5, .data⟩ (by simp) rfl)
      have da1 : ac.eval (.tmp 10) = .agg (ptc x.p (.slice a' l' c')) := hF.2.2.2 3 10 _ rfl (hdep ⟨3, .data⟩ (by simp) rfl)
      rw [hi, q6', q45.1, q45.2] at hW
      refine Rg.ex_skip y rfl rfl (Rg.sto da0 da1 rfl (store_pt x.p a' l' c' (hW.c rfl).2 rfl)) rfl ?_
      rw [Rg.upd_same, Rg.upd_ne Lq (c := 4) (i := 7) rfl, Rg.upd_ne Lq (c := 5) (i := 7) rfl, Rg.upd_ne Lq (c := 6) (i := 7) rfl, q45.1, q45.2, q6']
      exact hW.s7
  case refine_3 => exact SaI.first _ _ _ _
  case refine_2 =>
    rintro ⟨b5, b6⟩ X hX
    obtain ⟨hB, h5, h6, _, _, _⟩ := hX
    have p5 : Has X b5 (ptc x.p (.slice a l c)) 42 := (h5 rfl).2
    have p6 : Has X b6 (ptc x.p (.slice a' l' c')) 42 := (h6 rfl).2
    have cA := HCA.out X hB
    have cB := HCB.out X hB
    have k0 := (HO.out.later hB).has (b := w.heap.size) (List.mem_cons_of_mem _ (List.mem_cons_self ..))
    have k1 := (HO.out.later hB).has (b := w.heap.size + 1) (List.mem_cons_self ..)
    unfold oc at k0 k1
    unfold ptc at p5 p6
    obtain ⟨e0, e1, e2, e3, e4, e5, e6, _⟩ := cells14 k0
    obtain ⟨g0, g1, g2, g3, g4, g5, g6, _⟩ := cells14 k1
    have i0 := p5.cell 0 rfl
    have i1 := p5.cell 1 rfl
    have i2 := p5.cell 2 rfl
    have i3 := p5.cell 3 rfl
    have i4 := p5.cell 4 rfl
    have i5 := p5.cell 5 rfl
    have i6 := p5.cell 6 rfl
    have j0 := p6.cell 0 rfl
    have j1 := p6.cell 1 rfl
    have j2 := p6.cell 2 rfl
    have j3 := p6.cell 3 rfl
    have j4 := p6.cell 4 rfl
    have j5 := p6.cell 5 rfl
    have j6 := p6.cell 6 rfl
    have HB := hidden (HO.out.below.trans (hB.mono HO.out.below.size))
    clear hB h5 h6 p5 p6 k0 k1
    simp only [Ord.puts, Ord.prs]
    go_simp
    generalize x.ts = v0 at *
    generalize x.pa = v1 at *
    generalize x.ti = v2 at *
    generalize x.se = v3 at *
    generalize x.mi = v4 at *
    generalize x.qu = v5 at *
    generalize x.st = v6 at *
    generalize x.p.sm = v7 at *
    generalize x.p.sn = v8 at *
    generalize x.p.pr = v9 at *
    generalize x.p.un = v10 at *
    generalize x.p.bg = v11 at *
    generalize x.p.en = v12 at *
    go_wp2
    go_ret
    exact ⟨by simp, HB.out⟩
end
end Go.Proofs.Ytjceeckcfjjkkaa.Ob
