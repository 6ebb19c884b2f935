/-
  The code's report; a box that nobody made.
  Conditions: as at each lemma.
-/
import Derived.Test.YtdifceikfnnfeaaDoorInF
namespace Go.Proofs.YtdifceikfnnfeaaDoor.Sp.Inb
open Go.ChangeShapes Go.WideShapes Go.ChangeAt Go.RowKit
open Ba (hidden Has cell_lt heap_lt)
set_option linter.unusedVariables false
set_option maxRecDepth 20000
section
variable {n0 : Nat} {w : World} {b bc bf : Nat} {v : Value} {s : St} {K : Nat}
theorem Rep.later {base : Nat} {w w' : World} {s : St} {most win : Int} {V : Value} (h : Rep base w s most win V) (hB : Below w.heap.size w w') : Rep base w' s most win V := by
  obtain ⟨a1, n1, k1, a2, n2, k2, a3, n3, k3, e, h1, h2, h3⟩ := h
  exact ⟨a1, n1, k1, a2, n2, k2, a3, n3, k3, e, own_later h1 hB, own_later h2 hB, own_later h3 hB⟩
theorem Rep.mod {F : Nat → Prop} {base : Nat} {w w' : World} {s : St} {most win : Int} {V : Value} (h : Rep base w s most win V) (hm : Mod F w w') (hF : ∀ k, base ≤ k → (∃ cs, Has w k cs 74 ∨ Has w k cs 22) → ¬ F k) : Rep base w' s most win V := by
  obtain ⟨a1, n1, k1, a2, n2, k2, a3, n3, k3, e, h1, h2, h3⟩ := h
  refine ⟨a1, n1, k1, a2, n2, k2, a3, n3, k3, e, hm.own h1 fun k hk => ?_, hm.own h2 fun k hk => ?_, hm.own h3 fun k hk => ?_⟩
  · obtain ⟨⟨cs, hh⟩, hb⟩ := own_type h1 hk; exact hF k hb ⟨cs, .inl hh⟩
  · obtain ⟨⟨cs, hh⟩, hb⟩ := own_type h2 hk; exact hF k hb ⟨cs, .inl hh⟩
  · obtain ⟨⟨cs, hh⟩, hb⟩ := own_type h3 hk; exact hF k hb ⟨cs, .inr hh⟩
def mostOk (most : Int) : Bool := decide (0 ≤ most ∧ most ≤ 4096)
theorem loadv_ch {X : World} {c : Nat} {kind cu win : Int} {g nr d : Value} (h : Has X c (chv kind cu win g nr d) 46) : (loadVar 46 ⟨c, 0, none⟩).run Tryd.prog X = .ok (.agg (chv kind cu win g nr d)) X := by
  have e := load_ch h
  simp only [Instr.loadAt, Instr.sureAddr, Sem.run_bind, Sem.run_pure, Result.andThen_ok] at e
  exact e
theorem res_ch {fn : Func} {p u : Tmp} {tmps : Array Value} {w : World} {c : Nat} {kind cu win : Int} {g nr d : Value} (h : fn.results = #[.cell p 46, .tmp u]) (hp : tmps.getD p undef = .pointer (some ⟨c, 0, none⟩)) (h1 : Has w c (chv kind cu win g nr d) 46) :
    (results fn tmps).run Tryd.prog w = .ok (.tuple #[.agg (chv kind cu win g nr d), tmps.getD u undef]) w := by
  have l1 := loadv_ch h1
  rw [results_cell_tmp h, hp]
  simp only [asAddr, Sem.run_pure, Result.andThen_ok, l1]
theorem keep_any {X X' : World} {c : Nat} {cs : Array Value} {T : TypeId} {base E z n : Nat} {u : Value} {xs : List Value} (hm : Mod (fun k => k = c) X X') (hc : Has X c cs T) (hE : E ≠ T) (h : X.ownsRow base E z u n xs) : X'.ownsRow base E z u n xs :=
  hm.own h fun k hk hk2 => by
    have hk2 : k = c := hk2
    subst hk2
    obtain ⟨⟨cs', h3⟩, _⟩ := own_type h hk
    exact hE (has_type h3 hc)
theorem Report_no (h : Cd n0 w b bc bf v s) (win most : Int) (hm : mostOk most = false) : Calls Tryd.prog 14 #[.pointer (some ⟨b, 0, none⟩), .int .u32 win, .int .i64 most] w fun e w' => e = .returned (.tuple #[.agg zch, .int .i64 1]) ∧ Below w.heap.size w w' := by
  obtain ⟨W, hW⟩ : ∃ W, w.alloc (.cells (chv 0 0 0 zsl zsl zsl) 46) = W := ⟨_, rfl⟩
  have hB : Below w.heap.size w W := by rw [← hW]; exact below_new w _
  have hR0 : Has W w.heap.size zch 46 := by rw [← hW]; exact Has.new w _ _
  have WI := hidden (within most 4096)
  have hd := hidden (show decide (0 ≤ most ∧ most ≤ 4096) = false from hm)
  have UM := hidden (unmade_ (h.later hB))
  have hO : Ow.Own w W [(w.heap.size, zch, 46)] := ⟨hB, fun x hx => by
    obtain rfl := List.mem_singleton.1 hx
    exact ⟨Nat.le_refl _, hR0⟩⟩
  have F2 := hidden (store_ch (kind := 0) (c := 0) (win := 0) (a1 := none) (a2 := none) (a3 := none) (n1 := 0) (n2 := 0) (n3 := 0) (k1 := 0) (k2 := 0) (k3 := 0) hR0)
  have hT := hO.row (chv 0 0 0 zsl zsl zsl) (by simp)
  have F3 := hidden (hT.has (.head _))
  have F4 := hidden hT.below
  clear h hm hB hR0 hO hT
  go_enter Tryd.func14, Tryd.ntmps14
  go_wp2_with fail
  change Calls _ _ _ (w.alloc (.cells (chv 0 0 0 zsl zsl zsl) 46)) _
  rw [hW]
  refine Calls.mono UM.out ?_
  rintro e w' ⟨rfl, rfl⟩
  go_wp2_with fail
  refine Calls.mono (WI.out _) ?_
  rintro e w' ⟨rfl, rfl⟩
  rw [hd.out]
  go_wp2_with (refine wpList_stA rfl 46 _ _ rfl rfl rfl rfl F2.out ?_)
  exact bodyPost_ret (res_ch rfl rfl F3.out) rfl ⟨rfl, F4.out⟩
theorem Report_ok (h : Cd n0 w b bc bf v s) (hk : Ok K s) (win most : Int) (hm : mostOk most = true) : Calls Tryd.prog 14 #[.pointer (some ⟨b, 0, none⟩), .int .u32 win, .int .i64 most] w fun e w' => ∃ V, e = .returned (.tuple #[V, .int .i64 0]) ∧ Rep w.heap.size w' s most win V ∧ Cd n0 w' b bc bf zsl (repS s) ∧ Mod (FC b bc bf v) w w' := by
  obtain ⟨W, hW⟩ : ∃ W, w.alloc (.cells (chv 0 0 0 zsl zsl zsl) 46) = W := ⟨_, rfl⟩
  have hB : Below w.heap.size w W := by rw [← hW]; exact below_new w _
  have hR0 : Has W w.heap.size zch 46 := by rw [← hW]; exact Has.new w _ _
  have WI := hidden (within most 4096)
  have hmm : 0 ≤ most ∧ most ≤ 4096 := of_decide_eq_true hm
  have hd := hidden (show decide (0 ≤ most ∧ most ≤ 4096) = true from hm)
  have UM := hidden (unmade_ (h.later hB))
  have hO : Ow.Own w W [(w.heap.size, zch, 46)] := ⟨hB, fun x hx => by
    obtain rfl := List.mem_singleton.1 hx
    exact ⟨Nat.le_refl _, hR0⟩⟩
  have TO := hidden (told_ (h.later hB) hk.dk most hmm)
  have HO := hidden hO
  have HH := hidden h
  have hbl : b < w.heap.size := by obtain ⟨z, hq, _⟩ := h.q; exact hq.lt
  clear h hm hB hR0 hO
  go_enter Tryd.func14, Tryd.ntmps14
  go_wp2_with fail
  change Calls _ _ _ (w.alloc (.cells (chv 0 0 0 zsl zsl zsl) 46)) _
  rw [hW]
  clear hW
  refine Calls.mono UM.out ?_
  rintro e w' ⟨rfl, rfl⟩
  go_wp2_with fail
  refine Calls.mono (WI.out _) ?_
  rintro e w' ⟨rfl, rfl⟩
  rw [hd.out]
  go_wp2_with fail
  refine Calls.mono TO.out ?_
  rintro e W1 ⟨V, rfl, ⟨a1, n1, k1, a2, n2, k2, a3, n3, k3, rfl, h1, h2, h3⟩, hB1⟩
  -- the report as a variable
  have hBn : Below W1.heap.size W1 (W1.alloc (.cells zch 46)) := below_new W1 _
  have o1 := (HO.out.later hB1).alloc zch 46
  have h1 := own_later h1 hBn
  have h2 := own_later h2 hBn
  have h3 := own_later h3 hBn
  obtain ⟨kd, hkd⟩ : ∃ kd : Int, Hid ((if s.nr = true then 16 else 3) = kd) := ⟨_, rfl⟩
  rw [hkd.out]
  have f2 := store_ch (kind := kd) (c := s.c) (win := 0) (a1 := a1) (a2 := a2) (a3 := a3) (n1 := n1) (n2 := n2) (n3 := n3) (k1 := k1) (k2 := k2) (k3 := k3) (o1.has (.head _))
  have hne : W1.heap.size ≠ w.heap.size := by have := HO.out.lt (.head _); have := hB1.size; omega
  have o2 := o1.row (chv kd s.c 0 (.slice a1 n1 k1) (.slice a2 n2 k2) (.slice a3 n3 k3)) (by simp; exact fun e => hne e.symm)
  have hm2 := row_mod _ W1.heap.size (chv kd s.c 0 (.slice a1 n1 k1) (.slice a2 n2 k2) (.slice a3 n3 k3)) (o1.has (.head _))
  have h1 := keep_any hm2 (o1.has (.head _)) (by decide) h1
  have h2 := keep_any hm2 (o1.has (.head _)) (by decide) h2
  have h3 := keep_any hm2 (o1.has (.head _)) (by decide) h3
  obtain ⟨X3, e3⟩ : ∃ X3, (W1.alloc (.cells zch 46)).setRow W1.heap.size (chv kd s.c 0 (.slice a1 n1 k1) (.slice a2 n2 k2) (.slice a3 n3 k3)) = X3 := ⟨_, rfl⟩
  rw [e3] at f2 o2 h1 h2 h3
  have F2 := hidden f2
  -- the window
  obtain ⟨d0, d1, o4, d3⟩ := rep_set o2 hne 7 (.int .u32 win) (.int .u32 0) rfl
  have h1 := d3 (by decide) h1
  have h2 := d3 (by decide) h2
  have h3 := d3 (by decide) h3
  obtain ⟨X4, e4⟩ : ∃ X4, X3.setCell ⟨W1.heap.size, 7, none⟩ (.int .u32 win) = X4 := ⟨_, rfl⟩
  rw [e4] at o4 h1 h2 h3
  -- the box
  have hC4 := HH.out.later o4.below
  obtain ⟨z, hq, hz, hz1, c0, c1, c2, c3, c4, c5, c6, c7, hf⟩ := hC4.cells
  obtain ⟨va, vcap, hva⟩ := Ba.own_len HH.out.d
  have hq5 := ((hq.set 4 zsl).set 5 (.int .i64 0)).set 7 (.bool true)
  have hmb : Mod (fun k => k = b) X4 (((X4.setCell ⟨b, 4, none⟩ zsl).setCell ⟨b, 5, none⟩ (.int .i64 0)).setCell ⟨b, 7, none⟩ (.bool true)) :=
    ((Mod.setCell (F := fun k => k = b) X4 (p := ⟨b, 4, none⟩) rfl _).trans (Mod.setCell (F := fun k => k = b) _ (p := ⟨b, 5, none⟩) rfl _) (fun x hx => .inl hx)).trans (Mod.setCell (F := fun k => k = b) _ (p := ⟨b, 7, none⟩) rfl _) (fun x hx => .inl hx)
  have h1 := keep_any hmb hq (by decide) h1
  have h2 := keep_any hmb hq (by decide) h2
  have h3 := keep_any hmb hq (by decide) h3
  have hr1 := hmb.has (o4.has (.head _)) (by have := HO.out.below.size; have := hB1.size; show ¬ W1.heap.size = b; omega)
  have hr0 := hmb.has (o4.has (b := w.heap.size) (.tail _ (.head _))) (by show ¬ w.heap.size = b; omega)
  obtain ⟨g1, g2, g3⟩ := hC4.nb
  have hC5 : Cd n0 (((X4.setCell ⟨b, 4, none⟩ zsl).setCell ⟨b, 5, none⟩ (.int .i64 0)).setCell ⟨b, 7, none⟩ (.bool true)) b bc bf zsl (repS s) :=
    ⟨⟨z, hq5, fun e => absurd e (by simp [repS]), hz1⟩, hmb.isSet hC4.a (show ¬ bc = b from fun e => g1 e.symm), hmb.isSet hC4.f (show ¬ bf = b from fun e => g2 e.symm), hC4.ne, World.ownsRow_nil _ _ _ _, fun i hi => hmb.cell (hC4.t i hi) (show ¬ 0 = b by have := hC4.hb; have := hC4.h0; omega), hC4.hb, hC4.hc, hC4.hf, hC4.h0, Nat.le_trans hC4.hn hmb.size⟩
  obtain ⟨Y, e5⟩ : ∃ Y, ((X4.setCell ⟨b, 4, none⟩ zsl).setCell ⟨b, 5, none⟩ (.int .i64 0)).setCell ⟨b, 7, none⟩ (.bool true) = Y := ⟨_, rfl⟩
  rw [e5] at hmb h1 h2 h3 hr1 hr0 hC5
  -- it is handed out
  have L1 := hidden (load_ch hr1)
  have S1 := hidden (store_ch (kind := kd) (c := s.c) (win := win) (a1 := a1) (a2 := a2) (a3 := a3) (n1 := n1) (n2 := n2) (n3 := n3) (k1 := k1) (k2 := k2) (k3 := k3) hr0)
  have hm6 := row_mod Y w.heap.size (chv kd s.c win (.slice a1 n1 k1) (.slice a2 n2 k2) (.slice a3 n3 k3)) hr0
  have hR6 : Has (Y.setRow w.heap.size (chv kd s.c win (.slice a1 n1 k1) (.slice a2 n2 k2) (.slice a3 n3 k3))) w.heap.size (chv kd s.c win (.slice a1 n1 k1) (.slice a2 n2 k2) (.slice a3 n3 k3)) 46 := setRow_heap Y w.heap.size _ _ 46 (0, 0) hr0
  have h1 := keep_any hm6 hr0 (by decide) h1
  have h2 := keep_any hm6 hr0 (by decide) h2
  have h3 := keep_any hm6 hr0 (by decide) h3
  have hC6 := hC5.stay (G := fun k => k = w.heap.size) hm6 (fun k hk e => by
    obtain ⟨cs, ty, hh, _, ht⟩ := hC5.type hk
    have e : k = w.heap.size := e
    subst e
    have := has_type hh hr0
    subst this
    rcases ht with ht | ht | ⟨ht, _⟩ <;> exact absurd ht (by decide)) (fun k hk e => by have := HH.out.hn; have e : k = w.heap.size := e; omega)
  have hMM : Mod (FC b bc bf v) w (Y.setRow w.heap.size (chv kd s.c win (.slice a1 n1 k1) (.slice a2 n2 k2) (.slice a3 n3 k3))) :=
    ((Mod.of_below (F := FC b bc bf v) o4.below).trans hmb (fun x hx => .inl (.inl hx))).trans hm6 (fun x hx => .inr (by have hx : x = w.heap.size := hx; omega))
  have FIN := hidden (⟨⟨a1, n1, k1, a2, n2, k2, a3, n3, k3, by rw [hkd.out], own_base h1 HO.out.below.size, own_base h2 HO.out.below.size, own_base h3 HO.out.below.size⟩, hC6, hMM⟩ : Rep w.heap.size (Y.setRow w.heap.size (chv kd s.c win (.slice a1 n1 k1) (.slice a2 n2 k2) (.slice a3 n3 k3))) s most win (.agg (chv kd s.c win (.slice a1 n1 k1) (.slice a2 n2 k2) (.slice a3 n3 k3))) ∧ _ ∧ _)
  have R6 := hidden hR6
  rw [hva] at c4
  unfold zsl at e5
  clear h1 h2 h3 hq hq5 hmb hr1 hr0 hC4 hC5 hC6 hMM hm6 hR6 o1 o2 o4 f2 hm2 d3 hBn hB1 HO HH e3 hne UM TO
  go_wp2_with (first | (refine wpList_stA rfl 46 _ _ rfl rfl rfl rfl F2.out ?_) | (refine wpList_ldA rfl 46 _ rfl rfl L1.out ?_) | (refine wpList_stA rfl 46 _ _ rfl rfl rfl rfl S1.out ?_))
  exact bodyPost_ret (res_ch rfl rfl R6.out) rfl ⟨_, rfl, FIN.out⟩
end
end Go.Proofs.YtdifceikfnnfeaaDoor.Sp.Inb
