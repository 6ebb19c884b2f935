/-
  What is marked; a marked chunk is sent again.
  Conditions: the box lies in memory, or is nil, or was made by no call.
-/
import Derived.Test.YtjceeckcfjjkkaaObF
namespace Go.Proofs.Ytjceeckcfjjkkaa.Ob
open Go.ChangeShapes Go.WideShapes Go.ChangeAt Go.RowKit
open Ba (hidden Has cell_lt heap_lt)
set_option linter.unusedVariables false

/-- worlds while a chunk is told and stored into block b -/
structure MkA (W : World) (b : Nat) (y : Ch) (k : Nat) (v : Value) (w' : World) : Prop where
  bel : Mod (fun j => j = b) W w'
  h0 : k ≤ 1 → Has w' b zO 59
  h1 : 1 ≤ k → Mine W.heap.size w' v y.p.d
  h2 : k = 2 → Has w' b (oc y v) 59
section
variable {W w' w2 : World} {b : Nat} {y : Ch} {v : Value}
theorem MkA.first (h : Has W b zO 59) (v : Value) : MkA W b y 0 v W.drew := ⟨(Mod.refl _ W).drewr, fun _ => h, fun e => absurd e (by decide), fun e => absurd e (by decide)⟩
theorem MkA.one {u : Value} (h : MkA W b y 0 u w') (hb : b < W.heap.size) (hm : Mine w'.heap.size w2 v y.p.d) (hB : Below w'.heap.size w' w2) : MkA W b y (0 + 1) v w2 :=
  ⟨h.bel.trans (Mod.of_below (F := fun _ => False) hB) (fun _ h => h.elim), fun _ => (h.h0 (by decide)).later hB, fun _ => ⟨Ba.own_mono hm.1 (fun k hk => by obtain ⟨cur, _, h2⟩ := hm.obj hk; have := h.bel.size; omega), hm.2⟩, fun e => absurd e (by decide)⟩
theorem store_chunk {w : World} {b : Nat} {cs : Array Value} {y : Ch} {v : Value} (h : Has w b cs 59) (hs : cs.size = 14) (hv : ∃ a l c, v = .slice a l c) :
    (Instr.storeAt 59 (.pointer (some ⟨b, 0, none⟩)) (ov y v)).run Try.prog w = .ok () (w.setRow b (oc y v)) ∧ Has (w.setRow b (oc y v)) b (oc y v) 59 ∧ Mod (fun j => j = b) w (w.setRow b (oc y v)) := by
  refine ⟨Ow.store_row (cs' := oc y v) h (by kernel_rfl) (by rw [hs]; rfl) ?_, setRow_heap w b cs (oc y v) _ (0, 0) h, ?_⟩
  · obtain ⟨a, l, c, rfl⟩ := hv
    simp [oc, Value.oneCell']
  · have := below_setRow (Below.refl b w) (Nat.le_refl b) (oc y v)
    refine ⟨this.os, this.tape, this.output, this.size, fun k hk hn => setRow_other w b k (oc y v) hn⟩
theorem mine_one {base : Nat} {w : World} {v : Value} {zs : List Int} (h : Mine base w v zs) : ∃ a l c, v = .slice a l c := by
  obtain ⟨a, cap, e, _⟩ := h.row
  exact ⟨a, _, cap, e⟩
theorem MkA.two (h : MkA W b y 1 v w') (hb : b < W.heap.size) : (Instr.storeAt 59 (.pointer (some ⟨b, 0, none⟩)) (ov y v)).run Try.prog w' = .ok () (w'.setRow b (oc y v)) ∧ MkA W b y (1 + 1) v (w'.setRow b (oc y v)) := by
  have hm := h.h1 (by decide)
  obtain ⟨k1, k2, k3⟩ := store_chunk (y := y) (h.h0 (by decide)) rfl (mine_one hm)
  exact ⟨k1, h.bel.then k3, fun e => absurd e (by decide), fun _ => hm.stay k3 (fun k hk e => by obtain ⟨cur, _, h2⟩ := hm.obj hk; omega), fun _ => k2⟩
end
section
variable {D F : Nat → Prop} {w w' : World} {t f : Nat} {rv : Value} {P : List CV} {nx : Int} {n : Nat} {L : List Ch} {fs : Nat → Int} {m : Int} {i g o : Nat} {x y : Ch}
set_option maxHeartbeats 1000000 in
theorem marked (h : No D w t f rv P nx n L fs (mk L)) (hk : Lk n L) (hd : ∀ x ∈ L, 1 ≤ x.p.d.length) :
    Calls Try.prog 26 #[.pointer (some ⟨t, 0, none⟩)] w fun e w' => ∃ u c, e = .returned (.tuple #[.int .i64 (mk L), u, .bool c]) ∧ To w w' (fun x => x.st = 2) L u c ∧ Below w.heap.size w w' := by
  obtain ⟨W0, hW0⟩ : ∃ W0, W0 = w.alloc (.cells zO 59) := ⟨_, rfl⟩
  have hO0 : Ow.Own w W0 [(w.heap.size, zO, 59)] := by rw [hW0]; exact (Ow.Own.refl w).alloc zO 59
  have hN0 := h.later hO0.below
  have U := hidden (unmade hN0)
  have FM := hidden (firstMarked hN0 hk hd)
  have HN0 := hidden hN0
  have HO0 := hidden hO0
  have HD := hidden hd
  have HMM : Hid (0 ≤ mk L ∧ (0 < mk L ↔ ∃ x ∈ L, x.st = 2)) := ⟨hk.mk.1, some_marked hd⟩
  unfold zO at hW0
  have HW0 := hidden hW0
  have htl := h.q.lt
  have HFC : Hid (∀ k, FC t f rv k → k < w.heap.size) := fun k hk => h.lt hk
  clear h hk hd hN0 hO0 hW0
  go_enter Try.func26, Try.ntmps26
  go_wp2_with fail
  rw [← HW0.out]
  refine Calls.mono U.out ?_
  rintro e w' ⟨rfl, rfl⟩
  go_wp2_with fail
  refine Calls.mono FM.out ?_
  rintro e W1 ⟨v1, rfl, hv1, hB1⟩
  have hO1 := HO0.out.later hB1
  have hN1 := HN0.out.later hB1
  clear U FM HW0
  rcases hv1 with ⟨i, y, g, o, hF, rfl, hp⟩ | ⟨rfl, hn⟩
  · have HLT : Hid (w.heap.size < W1.heap.size) := hO1.lt (List.mem_cons_self ..)
    have HH := hidden (hO1.has (List.mem_cons_self ..))
    have HB1 := hidden hO1.below
    have HN1 := hidden hN1
    have HST : Hid (∀ x, Mod (fun j => j = w.heap.size) W1 x → No D x t f rv P nx n L fs (mk L)) := fun x hx => HN1.out.stay hx (fun k hk e => by have := HFC.out k hk; omega) (fun k cur _ hh e => by subst e; exact hh.ne HH.out (by decide) rfl)
    have HC : Hid (∀ x, Mod (fun j => j = w.heap.size) W1 x → x.cell? ⟨t, 3, none⟩ = some (.int .i64 (mk L))) := fun x hx => (HST.out x hx).q.cell 3 rfl
    have HTD : Hid (∀ x, Has x w.heap.size zO 59 → Mod (fun j => j = w.heap.size) W1 x → Calls Try.prog 42 #[.pointer (some ⟨g, o, none⟩)] x fun e w' => ∃ v, e = .returned (ov y v) ∧ Mine x.heap.size w' v y.p.d ∧ Below x.heap.size x w') := fun x _ hx => told (HST.out x hx) hp hF.1 (HD.out y (List.mem_of_getElem? hF.1))
    have HF := hidden hF
    have ET : Hid (∀ (args : Array Value) (w : World), (callFunc 42 args).run Try.prog w = .ok (.enter 42 args) w) := enters_of Try.func42 (by kernel_rfl) rfl
    obtain ⟨b, hb⟩ : ∃ b, b = w.heap.size := ⟨_, rfl⟩
    have HBB := hidden hb
    rw [← hb] at HLT HH HST HC HTD
    rw [← hb]
    obtain ⟨M, hM⟩ : ∃ M, M = mk L := ⟨_, rfl⟩
    have HME := hidden hM
    rw [← hM] at HC
    clear hM
    obtain ⟨W, hW⟩ : ∃ W, W = W1 := ⟨_, rfl⟩
    rw [← hW] at HLT HH HST HC HTD HB1 ⊢
    clear hO1 hN1 hB1 hF hp hb hW HN1
    go_upto_region 6 with fail
    refine Ord.wp_region_ex0 (X := Value) (by kernel_rfl) 20 (fun x => [(some 14, .pointer (some ⟨t, 0, none⟩)), (some 15, .pointer (some ⟨t, 0, none⟩)), (some 16, .pointer (some ⟨t, 3, none⟩)), (some 17, .int .i64 M), (some 18, .pointer (some ⟨g, o, none⟩)), (some 19, ov y x), (some 2, .int .i64 M), (none, undef), (some 4, .bool true)]) [some 14, some 15, some 16, some 17, some 18, some 19, some 2, none, some 4] rfl (fun listed hsz hr => Ord.all_listedC (rank := [0, 1, 2, 3, 4, 5, 6, 7, 8]) (by kernel_rfl) hsz hr) (by rfl) (fun _ => rfl) (by kernel_rfl) (Rg.StM [5, 7] (fun k x w' => MkA W b y k x w')) (fun _ _ _ _ hL h => h.ext (n := 9) (by decide) hL) ?_ ?_ undef ?_
    case refine_1 =>
      intro x Lq iq oq ac w' ho hi hcl hdep hF hW
      have f1 : ac.tmps.size = 20 := hF.1
      match iq, ho, hi, hdep with
      | 0, ho, hi, hdep =>
        cases ho
        have da0 : ac.eval (.tmp 0) = .pointer (some ⟨t, 0, none⟩) := hF.old 0 rfl
        exact Ord.ex_value x rfl rfl (Rg.mv da0 rfl) rfl (hW.keep (by decide))
      | 1, ho, hi, hdep =>
        cases ho
        have da0 : ac.eval (.tmp 14) = .pointer (some ⟨t, 0, none⟩) := hF.2.2.2 0 14 _ rfl (hdep ⟨0, .data⟩ (by simp) rfl)
        exact Ord.ex_value x rfl rfl (Rg.nilc da0 rfl) rfl (hW.keep (by decide))
      | 2, ho, hi, hdep =>
        cases ho
        have da0 : ac.eval (.tmp 15) = .pointer (some ⟨t, 0, none⟩) := hF.2.2.2 1 15 _ rfl (hdep ⟨1, .data⟩ (by simp) rfl)
        exact Ord.ex_value x rfl rfl (Rg.fa da0 rfl (by simp [go_sem])) rfl (hW.keep (by decide))
      | 3, ho, hi, hdep =>
        cases ho
        have da0 : ac.eval (.tmp 16) = .pointer (some ⟨t, 3, none⟩) := hF.2.2.2 2 16 _ rfl (hdep ⟨2, .data⟩ (by simp) rfl)
        obtain ⟨kq, hlo, hhi, hA⟩ := hW.range 0 1 (.inl rfl) (.inr ⟨7, rfl, (Rg.no_of (fun h => hcl 7 _ rfl (h) ⟨3, .phase⟩ (by simp) rfl) hi)⟩)
        exact Ord.ex_value x rfl rfl (Rg.load da0 rfl (by simp [go_sem, HC.out _ hA.bel])) rfl (hW.keep (by decide))
      | 4, ho, hi, hdep =>
        cases ho
        have da0 : ac.eval (.tmp 5) = .pointer (some ⟨g, o, none⟩) := hF.old 5 rfl
        exact Ord.ex_value x rfl rfl (Rg.mv da0 rfl) rfl (hW.keep (by decide))
      | 5, ho, hi, hdep =>
        cases ho
        have da0 : ac.eval (.tmp 18) = .pointer (some ⟨g, o, none⟩) := hF.2.2.2 4 18 _ rfl (hdep ⟨4, .data⟩ (by simp) rfl)
        have hA := hW.at (k := 0) rfl hi (.inl rfl)
        refine Rg.ex_calll x rfl rfl (Rg.enter (args := #[.pointer (some ⟨g, o, none⟩)]) rfl rfl (by simp [da0]) ET.out) (Calls.mono (HTD.out _ (hA.h0 (by decide)) hA.bel) ?_)
        rintro e w2 ⟨v, rfl, hm, hB⟩
        exact ⟨v, rfl, (fun j hj => match j, hj with | 0, _ => rfl | 1, _ => rfl | 2, _ => rfl | 3, _ => rfl | 4, _ => rfl | 5, hj => absurd hj (by rw [hi]; decide) | 6, _ => rfl | 7, _ => rfl | 8, _ => rfl | _ + 9, _ => rfl), hW.next (k := 0) rfl (by decide) hi (.inl rfl) (hA.one HLT.out hm hB)⟩
      | 6, ho, hi, hdep =>
        cases ho
        have da0 : ac.eval (.tmp 17) = .int .i64 M := hF.2.2.2 3 17 _ rfl (hdep ⟨3, .data⟩ (by simp) rfl)
        exact Ord.ex_value x rfl rfl (Rg.asg da0 rfl) rfl (hW.keep (by decide))
      | 7, ho, hi, hdep =>
        cases ho
        have da0 : ac.eval (.tmp 3) = .pointer (some ⟨b, 0, none⟩) := hF.old 3 rfl
        have da1 : ac.eval (.tmp 19) = ov y x := hF.2.2.2 5 19 _ rfl (hdep ⟨5, .data⟩ (by simp) rfl)
        have hA := hW.at (k := 1) rfl hi (.inr ⟨5, rfl, (hdep ⟨5, .data⟩ (by simp) rfl)⟩)
        obtain ⟨hr, hA2⟩ := hA.two HLT.out
        exact Rg.ex_skip x rfl rfl (Rg.sto da0 da1 rfl hr) rfl (hW.next (k := 1) rfl (by decide) hi (.inr ⟨5, rfl, (hdep ⟨5, .data⟩ (by simp) rfl)⟩) hA2)
      | 8, ho, hi, hdep =>
        cases ho
        exact Ord.ex_value x rfl rfl (Rg.asg rfl rfl) rfl (hW.keep (by decide))
    case refine_3 => exact Rg.StM.first (MkA.first HH.out _)
    case refine_2 =>
      intro v' w2 hW
      have hA := hW.last
      have G := hidden hA
      clear hW hA
      simp only [Ord.puts, Ord.prs]
      go_simp
      go_wp2
      have hME := HME.out
      subst hME
      refine bodyPost_ret (res_tct (x := y) rfl rfl (G.out.h2 rfl)) rfl ⟨_, _, rfl, .inl ⟨i, y, v', HF.out, rfl, rfl, ?_⟩, ?_⟩
      · exact ⟨Ba.own_mono (G.out.h1 (by decide)).1 (fun k hk => by obtain ⟨cur, _, h2⟩ := (G.out.h1 (by decide)).obj hk; have := HB1.out.size; omega), (G.out.h1 (by decide)).2⟩
      · exact HB1.out.trans (G.out.bel.below HB1.out.size (fun k hk => by have := HBB.out; omega))
  · have HE := hidden hn
    have h0 : mk L = 0 := by
      have h1 := HMM.out
      rcases Int.lt_or_le 0 (mk L) with h2 | h2
      · obtain ⟨x, hx, e⟩ := h1.2.1 h2
        exact absurd e (hn x hx)
      · omega
    obtain ⟨z0, z1, z2, z3, z4, z5, z6, z7, z8, z9, z10, z11, z12, z13⟩ := cells14 (hO1.has (b := w.heap.size) (List.mem_cons_self ..))
    have rz := hO1.frozen (b := w.heap.size) (List.mem_cons_self ..)
    have HO1 := hidden hO1
    have H0 := hidden h0
    clear hO1 hN1 hn h0 hB1
    go_wp2
    obtain ⟨k2, k3⟩ := set14 (v0 := .int .u32 0) (v1 := .int .i64 0) (v2 := .int .i64 0) (v3 := .int .i64 0) (v4 := .int .i64 0) (v5 := .bool false) (v6 := .int .i64 0) (v7 := .int .u16 0) (v8 := .int .u16 0) (v9 := .int .u32 0) (v10 := .bool false) (v11 := .slice none 0 0) (v12 := .bool false) (v13 := .bool false) (HO1.out.has (b := w.heap.size) (List.mem_cons_self ..))
    exact bodyPost_ret (res_tct (x := zC) (v := .slice none 0 0) rfl rfl k2) rfl ⟨_, _, by rw [H0.out]; rfl, .inr ⟨rfl, rfl, HE.out⟩, HO1.out.below.trans (k3.below HO1.out.below.size (fun k hk => by omega))⟩
theorem marked_no {p : Option Addr} (h : Un w p) :
    Calls Try.prog 26 #[.pointer p] w fun e w' => e = .returned (.tuple #[.int .i64 0, ov zC (.slice none 0 0), .bool false]) ∧ Below w.heap.size w w' := by
  obtain ⟨W0, hW0⟩ : ∃ W0, W0 = w.alloc (.cells zO 59) := ⟨_, rfl⟩
  have hO0 : Ow.Own w W0 [(w.heap.size, zO, 59)] := by rw [hW0]; exact (Ow.Own.refl w).alloc zO 59
  have U := hidden (unmade_no (h.later hO0.below))
  obtain ⟨z0, z1, z2, z3, z4, z5, z6, z7, z8, z9, z10, z11, z12, z13⟩ := cells14 (hO0.has (b := w.heap.size) (List.mem_cons_self ..))
  have rz := hO0.frozen (b := w.heap.size) (List.mem_cons_self ..)
  have HO1 := hidden hO0
  unfold zO at hW0
  have HW0 := hidden hW0
  clear h hO0 hW0
  go_enter Try.func26, Try.ntmps26
  go_wp2_with fail
  rw [← HW0.out]
  refine Calls.mono U.out ?_
  rintro e w' ⟨rfl, rfl⟩
  go_wp2
  obtain ⟨k2, k3⟩ := set14 (v0 := .int .u32 0) (v1 := .int .i64 0) (v2 := .int .i64 0) (v3 := .int .i64 0) (v4 := .int .i64 0) (v5 := .bool false) (v6 := .int .i64 0) (v7 := .int .u16 0) (v8 := .int .u16 0) (v9 := .int .u32 0) (v10 := .bool false) (v11 := .slice none 0 0) (v12 := .bool false) (v13 := .bool false) (HO1.out.has (b := w.heap.size) (List.mem_cons_self ..))
  exact bodyPost_ret (res_tct (x := zC) (v := .slice none 0 0) rfl rfl k2) rfl ⟨rfl, HO1.out.below.trans (k3.below HO1.out.below.size (fun k hk => by omega))⟩
theorem again_no {p : Option Addr} (h : Un w p) (pa now : Int) :
    Calls Try.prog 24 #[.pointer p, .int .i64 pa, .int .i64 now] w fun e w' => e = .returned (.tuple #[ov zC (.slice none 0 0), .bool false, .int .i64 4]) ∧ Below w.heap.size w w' := by
  obtain ⟨W0, hW0⟩ : ∃ W0, W0 = w.alloc (.cells zO 59) := ⟨_, rfl⟩
  have hO0 : Ow.Own w W0 [(w.heap.size, zO, 59)] := by rw [hW0]; exact (Ow.Own.refl w).alloc zO 59
  have U := hidden (unmade_no (h.later hO0.below))
  obtain ⟨z0, z1, z2, z3, z4, z5, z6, z7, z8, z9, z10, z11, z12, z13⟩ := cells14 (hO0.has (b := w.heap.size) (List.mem_cons_self ..))
  have rz := hO0.frozen (b := w.heap.size) (List.mem_cons_self ..)
  have HO1 := hidden hO0
  unfold zO at hW0
  have HW0 := hidden hW0
  clear h hO0 hW0
  go_enter Try.func24, Try.ntmps24
  go_wp2_with fail
  rw [← HW0.out]
  refine Calls.mono U.out ?_
  rintro e w' ⟨rfl, rfl⟩
  go_wp2
  obtain ⟨k2, k3⟩ := set14 (v0 := .int .u32 0) (v1 := .int .i64 0) (v2 := .int .i64 0) (v3 := .int .i64 0) (v4 := .int .i64 0) (v5 := .bool false) (v6 := .int .i64 0) (v7 := .int .u16 0) (v8 := .int .u16 0) (v9 := .int .u32 0) (v10 := .bool false) (v11 := .slice none 0 0) (v12 := .bool false) (v13 := .bool false) (HO1.out.has (b := w.heap.size) (List.mem_cons_self ..))
  exact bodyPost_ret (res_ctt (x := zC) (v := .slice none 0 0) rfl rfl k2) rfl ⟨rfl, HO1.out.below.trans (k3.below HO1.out.below.size (fun k hk => by omega))⟩
theorem again_path (h : No D w t f rv P nx n L fs m) (pa now : Int) (hpa : ¬ (0 ≤ pa ∧ pa < n)) :
    Calls Try.prog 24 #[.pointer (some ⟨t, 0, none⟩), .int .i64 pa, .int .i64 now] w fun e w' => e = .returned (.tuple #[ov zC (.slice none 0 0), .bool false, .int .i64 90]) ∧ Below w.heap.size w w' := by
  obtain ⟨W0, hW0⟩ : ∃ W0, W0 = w.alloc (.cells zO 59) := ⟨_, rfl⟩
  have hO0 : Ow.Own w W0 [(w.heap.size, zO, 59)] := by rw [hW0]; exact (Ow.Own.refl w).alloc zO 59
  have U := hidden (unmade (h.later hO0.below))
  have H := hidden (has (h.later hO0.below) pa)
  rw [decide_eq_false hpa] at H
  clear hpa
  obtain ⟨z0, z1, z2, z3, z4, z5, z6, z7, z8, z9, z10, z11, z12, z13⟩ := cells14 (hO0.has (b := w.heap.size) (List.mem_cons_self ..))
  have rz := hO0.frozen (b := w.heap.size) (List.mem_cons_self ..)
  have HO1 := hidden hO0
  unfold zO at hW0
  have HW0 := hidden hW0
  clear h hO0 hW0
  go_enter Try.func24, Try.ntmps24
  go_wp2_with fail
  rw [← HW0.out]
  refine Calls.mono U.out ?_
  rintro e w' ⟨rfl, rfl⟩
  go_wp2_with fail
  refine Calls.mono H.out ?_
  rintro e w' ⟨rfl, rfl⟩
  go_wp2
  obtain ⟨k2, k3⟩ := set14 (v0 := .int .u32 0) (v1 := .int .i64 0) (v2 := .int .i64 0) (v3 := .int .i64 0) (v4 := .int .i64 0) (v5 := .bool false) (v6 := .int .i64 0) (v7 := .int .u16 0) (v8 := .int .u16 0) (v9 := .int .u32 0) (v10 := .bool false) (v11 := .slice none 0 0) (v12 := .bool false) (v13 := .bool false) (HO1.out.has (b := w.heap.size) (List.mem_cons_self ..))
  exact bodyPost_ret (res_ctt (x := zC) (v := .slice none 0 0) rfl rfl k2) rfl ⟨rfl, HO1.out.below.trans (k3.below HO1.out.below.size (fun k hk => by omega))⟩
theorem again_time (h : No D w t f rv P nx n L fs m) (pa now : Int) (hpa : 0 ≤ pa ∧ pa < n) (hnow : ¬ (0 ≤ now ∧ now ≤ 1099511627776)) :
    Calls Try.prog 24 #[.pointer (some ⟨t, 0, none⟩), .int .i64 pa, .int .i64 now] w fun e w' => e = .returned (.tuple #[ov zC (.slice none 0 0), .bool false, .int .i64 1]) ∧ Below w.heap.size w w' := by
  obtain ⟨W0, hW0⟩ : ∃ W0, W0 = w.alloc (.cells zO 59) := ⟨_, rfl⟩
  have hO0 : Ow.Own w W0 [(w.heap.size, zO, 59)] := by rw [hW0]; exact (Ow.Own.refl w).alloc zO 59
  have U := hidden (unmade (h.later hO0.below))
  have H := hidden (has (h.later hO0.below) pa)
  rw [decide_eq_true hpa] at H
  have T := hidden (isTime now W0)
  rw [decide_eq_false hnow] at T
  clear hpa hnow
  obtain ⟨z0, z1, z2, z3, z4, z5, z6, z7, z8, z9, z10, z11, z12, z13⟩ := cells14 (hO0.has (b := w.heap.size) (List.mem_cons_self ..))
  have rz := hO0.frozen (b := w.heap.size) (List.mem_cons_self ..)
  have HO1 := hidden hO0
  unfold zO at hW0
  have HW0 := hidden hW0
  clear h hO0 hW0
  go_enter Try.func24, Try.ntmps24
  go_wp2_with fail
  rw [← HW0.out]
  refine Calls.mono U.out ?_
  rintro e w' ⟨rfl, rfl⟩
  go_wp2_with fail
  refine Calls.mono H.out ?_
  rintro e w' ⟨rfl, rfl⟩
  go_wp2_with fail
  refine Calls.mono T.out ?_
  rintro e w' ⟨rfl, rfl⟩
  go_wp2
  obtain ⟨k2, k3⟩ := set14 (v0 := .int .u32 0) (v1 := .int .i64 0) (v2 := .int .i64 0) (v3 := .int .i64 0) (v4 := .int .i64 0) (v5 := .bool false) (v6 := .int .i64 0) (v7 := .int .u16 0) (v8 := .int .u16 0) (v9 := .int .u32 0) (v10 := .bool false) (v11 := .slice none 0 0) (v12 := .bool false) (v13 := .bool false) (HO1.out.has (b := w.heap.size) (List.mem_cons_self ..))
  exact bodyPost_ret (res_ctt (x := zC) (v := .slice none 0 0) rfl rfl k2) rfl ⟨rfl, HO1.out.below.trans (k3.below HO1.out.below.size (fun k hk => by omega))⟩
/-- a chunk that is sent again -/
def agC (x : Ch) (pa now : Int) : Ch := { x with pa := pa, se := now, ti := x.ti + 1, mi := 0, st := 1 }
set_option maxHeartbeats 1000000 in
theorem again (h : No D w t f rv P nx n L (fun k => fl L k) (mk L)) (hk : Lk n L) (hd : ∀ x ∈ L, 1 ≤ x.p.d.length ∧ 0 ≤ x.ti ∧ x.ti ≤ 2000) (pa now : Int) (hpa : 0 ≤ pa ∧ pa < n) (hnow : 0 ≤ now ∧ now ≤ 1099511627776) :
    Calls Try.prog 24 #[.pointer (some ⟨t, 0, none⟩), .int .i64 pa, .int .i64 now] w fun e w' =>
      (∃ i x v P', Fst (fun x => x.st = 2) L i x ∧ e = .returned (.tuple #[ov (agC x pa now) v, .bool true, .int .i64 0]) ∧ Mine w.heap.size w' v x.p.d ∧ No D w' t f rv P' nx n (L.set i (agC x pa now)) (fun k => fl (L.set i (agC x pa now)) k) (mk (L.set i (agC x pa now))) ∧ Mod (FC t f rv) w w') ∨
      (e = .returned (.tuple #[ov zC (.slice none 0 0), .bool false, .int .i64 0]) ∧ (∀ x ∈ L, x.st ≠ 2) ∧ Below w.heap.size w w') := by
  obtain ⟨W0, hW0⟩ : ∃ W0, W0 = w.alloc (.cells zO 59) := ⟨_, rfl⟩
  have hO0 : Ow.Own w W0 [(w.heap.size, zO, 59)] := by rw [hW0]; exact (Ow.Own.refl w).alloc zO 59
  have hN0 := h.later hO0.below
  have U := hidden (unmade hN0)
  have H := hidden (has hN0 pa)
  rw [decide_eq_true hpa] at H
  have T := hidden (isTime now W0)
  rw [decide_eq_true hnow] at T
  have FM := hidden (firstMarked hN0 hk (fun x hx => (hd x hx).1))
  have HN0 := hidden hN0
  have HO0 := hidden hO0
  have HD := hidden hd
  have HK := hidden hk
  have HPA := hidden hpa
  have HFC : Hid (∀ k, FC t f rv k → k < w.heap.size) := fun k hk => h.lt hk
  unfold zO at hW0
  have HW0 := hidden hW0
  clear h hO0 hW0 hN0 hd hk hpa hnow
  go_enter Try.func24, Try.ntmps24
  go_wp2_with fail
  rw [← HW0.out]
  refine Calls.mono U.out ?_
  rintro e w' ⟨rfl, rfl⟩
  go_wp2_with fail
  refine Calls.mono H.out ?_
  rintro e w' ⟨rfl, rfl⟩
  go_wp2_with fail
  refine Calls.mono T.out ?_
  rintro e w' ⟨rfl, rfl⟩
  go_wp2_with fail
  refine Calls.mono FM.out ?_
  rintro e W1 ⟨v1, rfl, hv1, hB1⟩
  have hO1 := HO0.out.later hB1
  have hN1 := HN0.out.later hB1
  clear U FM HW0 H T
  rcases hv1 with ⟨i, y, g, o, hF, rfl, hp⟩ | ⟨rfl, hn⟩
  · have hy := HD.out y (List.mem_of_getElem? hF.1)
    have SE := hidden (send hN1 HK.out hp hF.1 (by rw [hF.2.1]; decide) hy.2 pa now HPA.out)
    have HO1 := hidden hO1
    have HP := hidden hp
    have HF := hidden hF
    have HY := hidden hy
    clear hO1 hN1 hB1 hp hF hy
    go_wp2_with fail
    refine Calls.mono SE.out ?_
    rintro e W2 ⟨rfl, ⟨P2, hN2⟩, hm2⟩
    have hb2 : Has W2 w.heap.size zO 59 := hm2.has (HO1.out.has (b := w.heap.size) (List.mem_cons_self ..)) (fun e => by have := HFC.out _ e; omega)
    have TD := hidden (told hN2 HP.out (set_at HF.out.1) HY.out.1)
    have HN2 := hidden hN2
    have HM2 := hidden hm2
    have HB2 := hidden hb2
    clear hN2 hm2 hb2 SE
    go_wp2_with fail
    refine Calls.mono TD.out ?_
    rintro e W3 ⟨v, rfl, hm3, hB3⟩
    have hb3 := HB2.out.later hB3
    have hN3 := HN2.out.later hB3
    obtain ⟨z0, z1, z2, z3, z4, z5, z6, z7, z8, z9, z10, z11, z12, z13⟩ := cells14 hb3
    have rz := hb3.frozen
    have HB3 := hidden hb3
    have HN3 := hidden hN3
    have HM3 := hidden hm3
    have HB4 := hidden hB3
    obtain ⟨a4, cap4, hv4, _⟩ := hm3.row
    have HV4 := hidden hv4
    generalize hdl : y.p.d.length = dl at hv4
    clear hb3 hN3 hm3 hB3 TD HV4
    subst hv4
    have HLT : Hid (w.heap.size < W2.heap.size) := HB2.out.lt
    unfold ov
    generalize hti : y.ti + 1 = ti1
    have HTI := hidden hti
    go_wp2
    have k1 := set14 (v0 := .int .u32 y.ts) (v1 := .int .i64 pa) (v2 := .int .i64 ti1) (v3 := .int .i64 now) (v4 := .int .i64 0) (v5 := .bool y.qu) (v6 := .int .i64 1) (v7 := .int .u16 y.p.sm) (v8 := .int .u16 y.p.sn) (v9 := .int .u32 y.p.pr) (v10 := .bool y.p.un) (v11 := .slice a4 dl cap4) (v12 := .bool y.p.bg) (v13 := .bool y.p.en) HB3.out
    obtain ⟨k2, k3⟩ := k1
    have hmb : ∀ j, (Value.slice a4 dl cap4).ownBlock = some j → W2.heap.size ≤ j := fun j hj => by obtain ⟨cur, _, h2⟩ := HM3.out.obj hj; exact h2
    have hti2 := HTI.out
    subst hti2
    refine bodyPost_ret (res_ctt (x := agC y pa now) (v := .slice a4 dl cap4) rfl rfl k2) rfl (.inl ⟨i, y, .slice a4 dl cap4, P2, HF.out, rfl, ?_, ?_, ?_⟩)
    · exact Mine.stay (base := w.heap.size) (w := W3) ⟨Ba.own_mono HM3.out.1 (fun j hj => by have := hmb j hj; have := HLT.out; omega), HM3.out.2⟩ k3 (fun j hj hf => by have := hmb j hj; have := HLT.out; omega)
    · exact HN3.out.stay k3 (fun k hk e => by have := HFC.out k hk; omega) (fun k cur _ hh e => by subst e; exact hh.ne HB3.out (by decide) rfl)
    · exact (((Mod.of_below (F := FC t f rv) HO1.out.below).then HM2.out).trans (Mod.of_below (F := fun _ => False) HB4.out) (fun _ h => h.elim)).trans k3 (fun k hk => .inr (by omega))
  · have HE := hidden hn
    obtain ⟨z0, z1, z2, z3, z4, z5, z6, z7, z8, z9, z10, z11, z12, z13⟩ := cells14 (hO1.has (b := w.heap.size) (List.mem_cons_self ..))
    have rz := hO1.frozen (b := w.heap.size) (List.mem_cons_self ..)
    have HO1 := hidden hO1
    clear hO1 hN1 hn hB1
    go_wp2
    obtain ⟨k2, k3⟩ := set14 (v0 := .int .u32 0) (v1 := .int .i64 0) (v2 := .int .i64 0) (v3 := .int .i64 0) (v4 := .int .i64 0) (v5 := .bool false) (v6 := .int .i64 0) (v7 := .int .u16 0) (v8 := .int .u16 0) (v9 := .int .u32 0) (v10 := .bool false) (v11 := .slice none 0 0) (v12 := .bool false) (v13 := .bool false) (HO1.out.has (b := w.heap.size) (List.mem_cons_self ..))
    exact bodyPost_ret (res_ctt (x := zC) (v := .slice none 0 0) rfl rfl k2) rfl (.inr ⟨rfl, HE.out, HO1.out.below.trans (k3.below HO1.out.below.size (fun k hk => by omega))⟩)
end
end Go.Proofs.Ytjceeckcfjjkkaa.Ob
