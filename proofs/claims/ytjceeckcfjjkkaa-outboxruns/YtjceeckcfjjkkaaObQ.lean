/-
  A report is read: what is newly told.
  Conditions: as at each lemma.
-/
import Derived.Test.YtjceeckcfjjkkaaObP
namespace Go.Proofs.Ytjceeckcfjjkkaa.Cw
open Go.ChangeShapes Go.WideShapes Go.ChangeAt Go.RowKit
theorem ex_not {P : Program} {ops : Array Oper} {Q : Exit → Act → World → Prop} {X : Type} {l : X → List (Option Nat × Value)} {L : Nat → Bool} {i : Nat} {o : Oper} {a : Act} {w : World} {R : X → World → Prop} (x : X) (ho : ops[i]? = some o) (hw : Region.wanted o (yielded ops a.tmps) = false)
    (hv : ((l x).getD i (none, undef)).2 = undef) (hR : R x w) : wpOp P ops Q i (fun a' w'' => ∃ x', a' = a.put o.dst ((l x').getD i (none, undef)).2 ∧ (∀ j, L j = true → (l x')[j]? = (l x)[j]?) ∧ R x' w'') a w := by
  unfold wpOp
  rw [ho]
  simp only [hw]
  exact ⟨x, by rw [hv], fun _ _ => rfl, hR⟩
end Go.Proofs.Ytjceeckcfjjkkaa.Cw
namespace Go.Proofs.Ytjceeckcfjjkkaa.Ob
open Go.ChangeShapes Go.WideShapes Go.ChangeAt Go.RowKit Go.Shelf
open Ba (hidden Has cell_lt heap_lt)
set_option linter.unusedVariables false
attribute [local go_sem] Oper.semAt_some
theorem max_ {P : Program} {a : Act} {o : Oper} {w : World} {x y : Operand} {t t' : TypeId} {u v r : Value} (h0 : a.eval x = u) (h1 : a.eval y = v) (ho : o.op = .call { callee := .builtin .max, args := #[x, y], argTypes := #[t, t'] }) (hr : (Builtin.max_ #[t, t'] o.type #[u, v]).run P w = .ok r w) : (execOp a.eval o).run P w = .ok (.value r) w := by
  have e : execOp a.eval o = (do pure (.value (← Builtin.max_ #[t, t'] o.type #[a.eval x, a.eval y]))) := by
    unfold execOp
    rw [ho]
    simp [resolve, invoke, builtin]
  rw [e, h0, h1]
  exact Ord.run_v hr
theorem ix_bools {b N k : Nat} (hk : k < N) (w : World) : (Instr.indexAt 60 (.slice (some ⟨b, 0, none⟩) N N) (.int .i64 (k : Int))).run Try.prog w = .ok (.pointer (some ⟨b, k, none⟩)) w := by
  have h : (k : Int) < (N : Int) := by omega
  simp [go_sem, h]
theorem ix_aks {b n k : Nat} (hk : k < n) (w : World) : (Instr.indexAt 32 (.slice (some ⟨b, 0, none⟩) n n) (.int .i64 (k : Int))).run Try.prog w = .ok (.pointer (some ⟨b, k * 4, none⟩)) w := by
  have h : (k : Int) < (n : Int) := by omega
  simp [go_sem, h]
theorem ix_ints {b n k : Nat} (hk : k < n) (w : World) : (Instr.indexAt 78 (.slice (some ⟨b, 0, none⟩) n n) (.int .i64 (k : Int))).run Try.prog w = .ok (.pointer (some ⟨b, k, none⟩)) w := by
  have h : (k : Int) < (n : Int) := by omega
  simp [go_sem, h]
theorem st_cell {w : World} {b o : Nat} {u v : Value} {t : TypeId} (h0 : w.cell? ⟨b, o, none⟩ = some v) (h1 : w.frozen? ⟨b, o, none⟩ = false) (hs : (Instr.storeAt t (.pointer (some ⟨b, o, none⟩)) u).run Try.prog w = .ok () (w.setCell ⟨b, o, none⟩ u)) : True := trivial
theorem st_bool {w : World} {b o : Nat} {v : Value} (u : Bool) (h0 : w.cell? ⟨b, o, none⟩ = some v) (h1 : w.frozen? ⟨b, o, none⟩ = false) : (Instr.storeAt 4 (.pointer (some ⟨b, o, none⟩)) (.bool u)).run Try.prog w = .ok () (w.setCell ⟨b, o, none⟩ (.bool u)) := by
  simp [go_sem, h0, h1]
theorem st_int {w : World} {b o : Nat} {v : Value} (u : Int) (h0 : w.cell? ⟨b, o, none⟩ = some v) (h1 : w.frozen? ⟨b, o, none⟩ = false) : (Instr.storeAt 3 (.pointer (some ⟨b, o, none⟩)) (.int .i64 u)).run Try.prog w = .ok () (w.setCell ⟨b, o, none⟩ (.int .i64 u)) := by
  simp [go_sem, h0, h1]
section
variable {D F : Nat → Prop} {w w' : World} {t f : Nat} {rv : Value} {P : List CV} {nx : Int} {n : Nat} {L : List Ch} {fs : Nat → Int} {m : Int} {i g o : Nat} {x y : Ch} {R ap N tb fb nb : Nat} {fr rn : Int} {ak : Nat → Ak} {tl gd nl : Nat → Bool}
theorem info_ak : (Try.prog.info? 69).map (fun i => (i.zero, i.size, i.bytes)) = some (some (.agg #[.int .i64 0, .bool false, .int .i64 0, .int .i64 0]), 4, 32) := by kernel_rfl
theorem Aw.made {b : Nat} (h : Has w b (madeCells (Value.agg #[.int .i64 0, .bool false, .int .i64 0, .int .i64 0]).cells (n * 4)) 69) : Aw w b n (fun _ => ⟨0, false, 0, 0⟩) := by
  refine ⟨_, h, fun i hi => ?_⟩
  have e0 : (i * 4) % 4 = 0 := by omega
  have e1 : (i * 4 + 1) % 4 = 1 := by omega
  have e2 : (i * 4 + 2) % 4 = 2 := by omega
  have e3 : (i * 4 + 3) % 4 = 3 := by omega
  refine ⟨?_, ?_, ?_, ?_⟩ <;> rw [made_at _ (by omega)]
  · show some ((#[.int .i64 0, .bool false, .int .i64 0, .int .i64 0] : Array Value)[(i * 4) % 4]!) = _; rw [e0]; rfl
  · show some ((#[.int .i64 0, .bool false, .int .i64 0, .int .i64 0] : Array Value)[(i * 4 + 1) % 4]!) = _; rw [e1]; rfl
  · show some ((#[.int .i64 0, .bool false, .int .i64 0, .int .i64 0] : Array Value)[(i * 4 + 2) % 4]!) = _; rw [e2]; rfl
  · show some ((#[.int .i64 0, .bool false, .int .i64 0, .int .i64 0] : Array Value)[(i * 4 + 3) % 4]!) = _; rw [e3]; rfl
set_option maxHeartbeats 1000000 in
theorem read (h : No D w t f rv P nx n L fs m) (hl : L.length ≤ 1001) (hn8 : n ≤ 8) (ht : Bw w tb L.length tl) :
    Calls Try.prog 56 #[.pointer (some ⟨t, 0, none⟩), .slice (some ⟨tb, 0, none⟩) L.length L.length, .slice (some ⟨fb, 0, none⟩) L.length L.length] w fun e w' => ∃ R ap nb, e = .returned (.pointer (some ⟨R, 0, none⟩)) ∧ w.heap.size ≤ R ∧ w.heap.size ≤ ap ∧ w.heap.size ≤ nb ∧ Rd w' R t ap n L.length tb fb nb 0 0 ∧ Aw w' ap n (fun _ => ⟨0, false, 0, 0⟩) ∧ Bw w' nb L.length (nwl tl L) ∧ Below w.heap.size w w' := by
  refine (callsIn_wide (n := 10)).1 ?_
  obtain ⟨mb, b1, b2, b3, b4⟩ := make_wide (P := Try.prog) Try.underlying60 info_bool L.length (by omega) (by omega)
  obtain ⟨ma, a1, a2, a3, a4⟩ := make_wide (P := Try.prog) Try.underlying32 info_ak n (by omega) (by omega)
  have c0 := h.q.cell 0 rfl
  have htl := h.q.lt
  obtain ⟨ra, rc, hv, _⟩ := h.rw_.slice
  rw [h.len] at hv
  rw [hv] at c0
  have HN := hidden h
  have HT := hidden ht
  have HL := hidden hl
  generalize hN : L.length = N at *
  have HNN := hidden hN
  obtain ⟨W1, hW1⟩ : ∃ W1, W1 = (mb (w.alloc (.cells #[.slice (some ⟨tb, 0, none⟩) N N] 60))).alloc (.cells #[.slice (some ⟨w.heap.size + 1, 0, none⟩) N N] 60) := ⟨_, rfl⟩
  obtain ⟨Wa, hWa⟩ : ∃ Wa, Wa = w.alloc (.cells #[.slice (some ⟨tb, 0, none⟩) N N] 60) := ⟨_, rfl⟩
  have hsa : Wa.heap.size = w.heap.size + 1 := by rw [hWa]; simp
  have hBa : Below w.heap.size w Wa := by rw [hWa]; exact (Below.refl _ w).alloc (Nat.le_refl _) _
  have hba : Has Wa w.heap.size #[.slice (some ⟨tb, 0, none⟩) N N] 60 := by rw [hWa]; exact Has.new w _ _
  have hBm := b3 Wa
  have hsm := b4 Wa
  have hnb := Bw.made (b2 Wa)
  rw [hsa] at hsm hnb hBm
  have hBn : Below (mb Wa).heap.size (mb Wa) W1 := by rw [hW1, ← hWa]; exact (Below.refl _ _).alloc (Nat.le_refl _) _
  have hbn : Has W1 (w.heap.size + 2) #[.slice (some ⟨w.heap.size + 1, 0, none⟩) N N] 60 := by
    have := Has.new (mb Wa) #[.slice (some ⟨w.heap.size + 1, 0, none⟩) N N] 60
    rw [hsm] at this
    rw [hW1, ← hWa]; exact this
  have HW1 := hidden hW1
  have H1 : Hid (Below w.heap.size w W1 ∧ Has W1 w.heap.size #[.slice (some ⟨tb, 0, none⟩) N N] 60 ∧ Has W1 (w.heap.size + 2) #[.slice (some ⟨w.heap.size + 1, 0, none⟩) N N] 60 ∧ Bw W1 (w.heap.size + 1) N (fun _ => false) ∧ W1.heap.size = w.heap.size + 3) :=
    ⟨(hBa.trans (hBm.mono (by omega))).trans (hBn.mono (by omega)), (hba.later (by rw [hsa]; exact hBm)).later hBn, hbn, hnb.later hBn, by rw [hW1, ← hWa]; simp [hsm]⟩
  have H2 := hidden (And.intro a2 (And.intro a3 a4))
  have Hv := hidden hv
  clear h ht hl hW1 hWa hsa hBa hba hBm hsm hnb hBn hbn hN b2 b3 a2 a3 hv
  refine callsIn_of_wp_marks Try.func56 rfl trivial ?_ rfl
  simp only [Try.ntmps56, List.size_toArray, List.length_cons, List.length_nil, Nat.reduceAdd, Nat.reduceSub, Array.replicate_succ, Array.replicate_zero, List.push_toArray, List.append_toArray, List.nil_append, List.cons_append]
  gi_wp2_with fail
  rw [← HW1.out]
  have hrow := HN.out.row
  rw [HNN.out] at hrow
  refine range_each (t := t) (rv := rv) (n := N) rfl hrow (by have := HL.out; omega)
    (fun k W => Below w.heap.size w W ∧ Has W w.heap.size #[.slice (some ⟨tb, 0, none⟩) N N] 60 ∧ Has W (w.heap.size + 2) #[.slice (some ⟨w.heap.size + 1, 0, none⟩) N N] 60 ∧ Bw W (w.heap.size + 1) N (fun i => if i < k then nwl tl L i else false))
    (fun W => False) (fun k W hI => (hI.1.cell (p := ⟨t, 0, none⟩) htl).trans (HN.out.q.cell 0 rfl))
    (fun k W W' hI hc => ⟨hc.below (by have := H1.out.2.2.2.2; omega) hI.1 (Nat.le_refl _), hc.has hI.2.1, hc.has hI.2.2.1, hI.2.2.2.calm hc⟩)
    (fun W W' hI hc => hI.elim)
    ⟨H1.out.1, H1.out.2.1, H1.out.2.2.1, H1.out.2.2.2.1.congr (fun i _ => by simp)⟩
    ?round ?done (fun D W _ hI _ => hI.elim)
  case round =>
    intro l k W hk hi
    gi_wp2
    refine ⟨trivial, fun W3 hI3 => ?_⟩
    obtain ⟨hB3, h43, h73, hnb3⟩ := hI3
    have hN3 := HN.out.later hB3
    obtain ⟨x, hx⟩ : ∃ x, L[k]? = some x := ⟨_, List.getElem?_eq_getElem (by rw [HNN.out]; exact hk)⟩
    obtain ⟨g, o, hp, he⟩ := hN3.place (k := k) (by rw [HNN.out]; exact hk)
    rw [he]
    have ht3 := HT.out.later hB3
    have OP : Hid (Calls Try.prog 80 #[.pointer (some ⟨g, o, none⟩)] W3.drew fun e w' => e = .returned (.bool (opn x)) ∧ W3.drew = w') := open_ hN3.drew hp hx
    have EO : Hid (∀ (args : Array Value) (w : World), (callFunc 80 args).run Try.prog w = .ok (.enter 80 args) w) := enters_of Try.func80 (by kernel_rfl) rfl
    have C4 : Hid (W3.drew.cell? ⟨w.heap.size, 0, none⟩ = some (.slice (some ⟨tb, 0, none⟩) N N)) := h43.cell 0 rfl
    have C7 : Hid (W3.drew.cell? ⟨w.heap.size + 1 + 1, 0, none⟩ = some (.slice (some ⟨w.heap.size + 1, 0, none⟩) N N)) := h73.cell 0 rfl
    have CT0 : W3.drew.cell? ⟨tb, k, none⟩ = some (.bool (tl k)) := ht3.cell hk
    have HI1 : Hid (∀ w, (Instr.indexAt 60 (.slice (some ⟨tb, 0, none⟩) N N) (.int .i64 (k : Int))).run Try.prog w = .ok (.pointer (some ⟨tb, k, none⟩)) w) := fun w => ix_bools hk w
    have HI2 : Hid (∀ w', (Instr.indexAt 60 (.slice (some ⟨w.heap.size + 1, 0, none⟩) N N) (.int .i64 (k : Int))).run Try.prog w' = .ok (.pointer (some ⟨w.heap.size + 1, k, none⟩)) w') := fun w => ix_bools hk w
    have HST0 := fun u : Bool => st_bool (w := W3.drew) u (show W3.drew.cell? ⟨w.heap.size + 1, k, none⟩ = _ from hnb3.cell hk) (hnb3.frozen k)
    have hsz3 : w.heap.size + 3 ≤ W3.heap.size := by have := h73.lt; omega
    have HNL := nwl_at (tl := tl) hx
    have G : Hid (∀ u, (tl k && opn x) = u → KeepsFrom W1.heap.size W3 (W3.drew.setCell ⟨w.heap.size + 1, k, none⟩ (.bool u)) ∧ Below w.heap.size w (W3.drew.setCell ⟨w.heap.size + 1, k, none⟩ (.bool u)) ∧ Has (W3.drew.setCell ⟨w.heap.size + 1, k, none⟩ (.bool u)) w.heap.size #[.slice (some ⟨tb, 0, none⟩) N N] 60 ∧ Has (W3.drew.setCell ⟨w.heap.size + 1, k, none⟩ (.bool u)) (w.heap.size + 2) #[.slice (some ⟨w.heap.size + 1, 0, none⟩) N N] 60 ∧ Bw (W3.drew.setCell ⟨w.heap.size + 1, k, none⟩ (.bool u)) (w.heap.size + 1) N (fun i => if i < k + 1 then nwl tl L i else false)) := by
      rintro u rfl
      have hm := (Mod.refl (fun j => j = w.heap.size + 1) W3).drewr.set (p := ⟨w.heap.size + 1, k, none⟩) rfl (.bool (tl k && opn x))
      refine ⟨keeps_mod hm (fun j hj => .inl (by have := H1.out.2.2.2.2; omega)), hB3.trans (hm.below (by omega) (fun j hj => by omega)), hm.has h43 (fun e => by omega), hm.has h73 (fun e => by omega), ?_⟩
      refine (hnb3.set hk _).congr (fun i hi => ?_)
      by_cases e : i = k
      · subst e; simp [HNL]
      · by_cases e2 : i < k
        · simp only [if_neg e, if_pos e2, if_pos (show i < k + 1 by omega)]
        · simp only [if_neg e, if_neg e2, if_neg (show ¬ i < k + 1 by omega)]
    clear hB3 h43 h73 hnb3 hN3 hx hp he ht3 hsz3 HNL hi hrow
    generalize opn x = z at *
    cases htk : tl k with
    | true =>
      rw [htk] at CT0 G
      have CT := hidden CT0
      have HST := hidden (HST0 z)
      clear CT0 HST0 htk
      gi_wp2_with fail
      refine Ord.wp_region_exR (X := Unit) (by kernel_rfl) 46 (fun x => [(some 21, .slice (some ⟨w.heap.size + 1, 0, none⟩) N N), (some 22, .int .i64 (k : Int)), (some 23, .slice (some ⟨tb, 0, none⟩) N N), (some 24, .int .i64 (k : Int)), (some 25, .pointer (some ⟨tb, k, none⟩)), (some 26, .bool true), (some 27, .bool true), (some 28, .pointer (some ⟨g, o, none⟩)), (some 29, .bool z), (some 30, .bool z), (some 31, .pointer (some ⟨w.heap.size + 1, k, none⟩)), (none, undef)]) [some 21, some 22, some 23, some 24, some 25, some 26, some 27, some 28, some 29, some 30, some 31, none] rfl (fun listed hsz hr => Ord.all_listedC (rank := [0, 1, 2, 3, 4, 5, 6, 7, 8, 9, 10, 11]) (by kernel_rfl) hsz hr) (by rfl) (fun _ => rfl) (by kernel_rfl) (Rg.StM [11] (fun skk sxx w' => (skk = 0 → w' = W3.drew) ∧ (skk = 1 → w' = W3.drew.setCell ⟨w.heap.size + 1, k, none⟩ (.bool (z))))) (fun _ _ _ _ hL h => h.ext (n := 12) (by decide) hL) ?_ ?_ () ?_
      case refine_1 =>
        intro x Lq iq oq ac w' ho hi hcl hdep hF hW
        have f1 : ac.tmps.size = 46 := hF.1
        match iq, ho, hi, hdep with
        | 0, ho, hi, hdep =>
          cases ho
          have da0 : ac.eval (.tmp 7) = .pointer (some ⟨w.heap.size + 1 + 1, 0, none⟩) := hF.old 7 rfl
          obtain ⟨kq, hlo, hhi, hA⟩ := hW.range 0 0 (.inl rfl) (.inr ⟨11, rfl, (Rg.no_of (fun h => hcl 11 _ rfl (h) ⟨0, .phase⟩ (by simp) rfl) hi)⟩)
          exact Ord.ex_value x rfl rfl (Rg.load da0 rfl (by rw [hA.1 (by omega)]; simp [go_sem, C7.out])) rfl (hW.keep (by decide))
        | 1, ho, hi, hdep =>
          cases ho
          have da0 : ac.eval (.tmp 8) = .int .i64 (k : Int) := hF.old 8 rfl
          exact Ord.ex_value x rfl rfl (Rg.mv da0 rfl) rfl (hW.keep (by decide))
        | 2, ho, hi, hdep =>
          cases ho
          have da0 : ac.eval (.tmp 4) = .pointer (some ⟨w.heap.size, 0, none⟩) := hF.old 4 rfl
          obtain ⟨kq, hlo, hhi, hA⟩ := hW.range 0 0 (.inl rfl) (.inr ⟨11, rfl, (Rg.no_of (fun h => hcl 11 _ rfl (h) ⟨2, .phase⟩ (by simp) rfl) hi)⟩)
          exact Ord.ex_value x rfl rfl (Rg.load da0 rfl (by rw [hA.1 (by omega)]; simp [go_sem, C4.out])) rfl (hW.keep (by decide))
        | 3, ho, hi, hdep =>
          cases ho
          have da0 : ac.eval (.tmp 8) = .int .i64 (k : Int) := hF.old 8 rfl
          exact Ord.ex_value x rfl rfl (Rg.mv da0 rfl) rfl (hW.keep (by decide))
        | 4, ho, hi, hdep =>
          cases ho
          have da0 : ac.eval (.tmp 23) = .slice (some ⟨tb, 0, none⟩) N N := hF.2.2.2 2 23 _ rfl (hdep ⟨2, .data⟩ (by simp) rfl)
          have da1 : ac.eval (.tmp 24) = .int .i64 (k : Int) := hF.2.2.2 3 24 _ rfl (hdep ⟨3, .data⟩ (by simp) rfl)
          exact Ord.ex_value x rfl rfl (Rg.ix da0 da1 rfl (HI1.out _)) rfl (hW.keep (by decide))
        | 5, ho, hi, hdep =>
          cases ho
          have da0 : ac.eval (.tmp 25) = .pointer (some ⟨tb, k, none⟩) := hF.2.2.2 4 25 _ rfl (hdep ⟨4, .data⟩ (by simp) rfl)
          obtain ⟨kq, hlo, hhi, hA⟩ := hW.range 0 0 (.inl rfl) (.inr ⟨11, rfl, (Rg.no_of (fun h => hcl 11 _ rfl (h) ⟨5, .phase⟩ (by simp) rfl) hi)⟩)
          exact Ord.ex_value x rfl rfl (Rg.load da0 rfl (by rw [hA.1 (by omega)]; simp [go_sem, CT.out])) rfl (hW.keep (by decide))
        | 6, ho, hi, hdep =>
          cases ho
          have da0 : ac.eval (.tmp 26) = .bool true := hF.2.2.2 5 26 _ rfl (hdep ⟨5, .data⟩ (by simp) rfl)
          exact Ord.ex_value x rfl rfl (Rg.mv da0 rfl) rfl (hW.keep (by decide))
        | 7, ho, hi, hdep =>
          cases ho
          have dg : ac.eval (.tmp 27) = .bool true := hF.2.2.2 6 27 _ rfl (hdep ⟨6, .guard⟩ (by simp) rfl)
          have da0 : ac.eval (.tmp 9) = .pointer (some ⟨g, o, none⟩) := hF.old 9 rfl
          exact Ord.ex_value x rfl (Ord.wanted_of dg (by rw [f1]; decide) rfl rfl) (Rg.mv da0 rfl) rfl (hW.keep (by decide))
        | 8, ho, hi, hdep =>
          cases ho
          have dg : ac.eval (.tmp 27) = .bool true := hF.2.2.2 6 27 _ rfl (hdep ⟨6, .guard⟩ (by simp) rfl)
          have da0 : ac.eval (.tmp 28) = .pointer (some ⟨g, o, none⟩) := hF.2.2.2 7 28 _ rfl (hdep ⟨7, .data⟩ (by simp) rfl)
          obtain ⟨kq, hlo, hhi, hA⟩ := hW.range 0 0 (.inl rfl) (.inr ⟨11, rfl, (Rg.no_of (fun h => hcl 11 _ rfl (h) ⟨8, .chain⟩ (by simp) rfl) hi)⟩)
          have hw := hA.1 (by omega)
          subst hw
          exact Rg.ex_call x rfl (Ord.wanted_of dg (by rw [f1]; decide) rfl rfl) (Rg.enter (args := #[.pointer (some ⟨g, o, none⟩)]) rfl rfl (by simp [da0]) EO.out) (Calls.mono OP.out (by rintro e w2 ⟨rfl, rfl⟩; exact ⟨rfl, (hW.keep (by decide))⟩))
        | 9, ho, hi, hdep =>
          cases ho
          have da0 : ac.eval (.tmp 27) = .bool true := hF.2.2.2 6 27 _ rfl (hdep ⟨6, .data⟩ (by simp) rfl)
          have da1 : ac.eval (.tmp 29) = .bool z := hF.2.2.2 8 29 _ rfl (hdep ⟨8, .data⟩ (by simp) rfl)
          exact Ord.ex_value x rfl rfl (Rg.pick_t da0 da1 rfl) rfl (hW.keep (by decide))
        | 10, ho, hi, hdep =>
          cases ho
          have da0 : ac.eval (.tmp 21) = .slice (some ⟨w.heap.size + 1, 0, none⟩) N N := hF.2.2.2 0 21 _ rfl (hdep ⟨0, .data⟩ (by simp) rfl)
          have da1 : ac.eval (.tmp 22) = .int .i64 (k : Int) := hF.2.2.2 1 22 _ rfl (hdep ⟨1, .data⟩ (by simp) rfl)
          exact Ord.ex_value x rfl rfl (Rg.ix da0 da1 rfl (HI2.out _)) rfl (hW.keep (by decide))
        | 11, ho, hi, hdep =>
          cases ho
          have da0 : ac.eval (.tmp 31) = .pointer (some ⟨w.heap.size + 1, k, none⟩) := hF.2.2.2 10 31 _ rfl (hdep ⟨10, .data⟩ (by simp) rfl)
          have da1 : ac.eval (.tmp 30) = .bool z := hF.2.2.2 9 30 _ rfl (hdep ⟨9, .data⟩ (by simp) rfl)
          have hA := hW.at (k := 0) rfl hi (.inl rfl)
          have hw := hA.1 rfl
          subst hw
          exact Rg.ex_skip x rfl rfl (Rg.sto da0 da1 rfl HST.out) rfl (hW.next (k := 0) rfl (by decide) hi (.inl rfl) ⟨fun e => absurd e (by decide), fun _ => rfl⟩)
      case refine_3 => exact Rg.StM.first ⟨fun _ => rfl, fun e => absurd e (by decide)⟩
      case refine_2 =>
        intro v' w2 hW
        have hA := hW.last
        have hw2 := hA.2 rfl
        subst hw2
        clear hW hA
        simp only [Ord.puts, Ord.prs]
        go_simp
        gi_wp2
        exact G.out _ (by simp)
    | false =>
      rw [htk] at CT0 G
      have CT := hidden CT0
      have HST := hidden (HST0 false)
      clear CT0 HST0 htk
      gi_wp2_with fail
      refine Ord.wp_region_exR (X := Unit) (by kernel_rfl) 46 (fun x => [(some 21, .slice (some ⟨w.heap.size + 1, 0, none⟩) N N), (some 22, .int .i64 (k : Int)), (some 23, .slice (some ⟨tb, 0, none⟩) N N), (some 24, .int .i64 (k : Int)), (some 25, .pointer (some ⟨tb, k, none⟩)), (some 26, .bool false), (some 27, .bool false), (some 28, undef), (some 29, undef), (some 30, .bool false), (some 31, .pointer (some ⟨w.heap.size + 1, k, none⟩)), (none, undef)]) [some 21, some 22, some 23, some 24, some 25, some 26, some 27, some 28, some 29, some 30, some 31, none] rfl (fun listed hsz hr => Ord.all_listedC (rank := [0, 1, 2, 3, 4, 5, 6, 7, 8, 9, 10, 11]) (by kernel_rfl) hsz hr) (by rfl) (fun _ => rfl) (by kernel_rfl) (Rg.StM [11] (fun skk sxx w' => (skk = 0 → w' = W3.drew) ∧ (skk = 1 → w' = W3.drew.setCell ⟨w.heap.size + 1, k, none⟩ (.bool (false))))) (fun _ _ _ _ hL h => h.ext (n := 12) (by decide) hL) ?_ ?_ () ?_
      case refine_1 =>
        intro x Lq iq oq ac w' ho hi hcl hdep hF hW
        have f1 : ac.tmps.size = 46 := hF.1
        match iq, ho, hi, hdep with
        | 0, ho, hi, hdep =>
          cases ho
          have da0 : ac.eval (.tmp 7) = .pointer (some ⟨w.heap.size + 1 + 1, 0, none⟩) := hF.old 7 rfl
          obtain ⟨kq, hlo, hhi, hA⟩ := hW.range 0 0 (.inl rfl) (.inr ⟨11, rfl, (Rg.no_of (fun h => hcl 11 _ rfl (h) ⟨0, .phase⟩ (by simp) rfl) hi)⟩)
          exact Ord.ex_value x rfl rfl (Rg.load da0 rfl (by rw [hA.1 (by omega)]; simp [go_sem, C7.out])) rfl (hW.keep (by decide))
        | 1, ho, hi, hdep =>
          cases ho
          have da0 : ac.eval (.tmp 8) = .int .i64 (k : Int) := hF.old 8 rfl
          exact Ord.ex_value x rfl rfl (Rg.mv da0 rfl) rfl (hW.keep (by decide))
        | 2, ho, hi, hdep =>
          cases ho
          have da0 : ac.eval (.tmp 4) = .pointer (some ⟨w.heap.size, 0, none⟩) := hF.old 4 rfl
          obtain ⟨kq, hlo, hhi, hA⟩ := hW.range 0 0 (.inl rfl) (.inr ⟨11, rfl, (Rg.no_of (fun h => hcl 11 _ rfl (h) ⟨2, .phase⟩ (by simp) rfl) hi)⟩)
          exact Ord.ex_value x rfl rfl (Rg.load da0 rfl (by rw [hA.1 (by omega)]; simp [go_sem, C4.out])) rfl (hW.keep (by decide))
        | 3, ho, hi, hdep =>
          cases ho
          have da0 : ac.eval (.tmp 8) = .int .i64 (k : Int) := hF.old 8 rfl
          exact Ord.ex_value x rfl rfl (Rg.mv da0 rfl) rfl (hW.keep (by decide))
        | 4, ho, hi, hdep =>
          cases ho
          have da0 : ac.eval (.tmp 23) = .slice (some ⟨tb, 0, none⟩) N N := hF.2.2.2 2 23 _ rfl (hdep ⟨2, .data⟩ (by simp) rfl)
          have da1 : ac.eval (.tmp 24) = .int .i64 (k : Int) := hF.2.2.2 3 24 _ rfl (hdep ⟨3, .data⟩ (by simp) rfl)
          exact Ord.ex_value x rfl rfl (Rg.ix da0 da1 rfl (HI1.out _)) rfl (hW.keep (by decide))
        | 5, ho, hi, hdep =>
          cases ho
          have da0 : ac.eval (.tmp 25) = .pointer (some ⟨tb, k, none⟩) := hF.2.2.2 4 25 _ rfl (hdep ⟨4, .data⟩ (by simp) rfl)
          obtain ⟨kq, hlo, hhi, hA⟩ := hW.range 0 0 (.inl rfl) (.inr ⟨11, rfl, (Rg.no_of (fun h => hcl 11 _ rfl (h) ⟨5, .phase⟩ (by simp) rfl) hi)⟩)
          exact Ord.ex_value x rfl rfl (Rg.load da0 rfl (by rw [hA.1 (by omega)]; simp [go_sem, CT.out])) rfl (hW.keep (by decide))
        | 6, ho, hi, hdep =>
          cases ho
          have da0 : ac.eval (.tmp 26) = .bool false := hF.2.2.2 5 26 _ rfl (hdep ⟨5, .data⟩ (by simp) rfl)
          exact Ord.ex_value x rfl rfl (Rg.mv da0 rfl) rfl (hW.keep (by decide))
        | 7, ho, hi, hdep =>
          cases ho
          have dg : ac.eval (.tmp 27) = .bool false := hF.2.2.2 6 27 _ rfl (hdep ⟨6, .guard⟩ (by simp) rfl)
          exact Cw.ex_not x rfl (Ord.wanted_no (bv := true) dg (by rw [f1]; decide) rfl rfl) rfl (hW.keep (by decide))
        | 8, ho, hi, hdep =>
          cases ho
          have dg : ac.eval (.tmp 27) = .bool false := hF.2.2.2 6 27 _ rfl (hdep ⟨6, .guard⟩ (by simp) rfl)
          exact Cw.ex_not x rfl (Ord.wanted_no (bv := true) dg (by rw [f1]; decide) rfl rfl) rfl (hW.keep (by decide))
        | 9, ho, hi, hdep =>
          cases ho
          have da0 : ac.eval (.tmp 27) = .bool false := hF.2.2.2 6 27 _ rfl (hdep ⟨6, .data⟩ (by simp) rfl)
          have da1 : ac.eval (.tmp 29) = undef := hF.2.2.2 8 29 _ rfl (hdep ⟨8, .data⟩ (by simp) rfl)
          exact Ord.ex_value x rfl rfl (Rg.pick_f da0 rfl rfl) rfl (hW.keep (by decide))
        | 10, ho, hi, hdep =>
          cases ho
          have da0 : ac.eval (.tmp 21) = .slice (some ⟨w.heap.size + 1, 0, none⟩) N N := hF.2.2.2 0 21 _ rfl (hdep ⟨0, .data⟩ (by simp) rfl)
          have da1 : ac.eval (.tmp 22) = .int .i64 (k : Int) := hF.2.2.2 1 22 _ rfl (hdep ⟨1, .data⟩ (by simp) rfl)
          exact Ord.ex_value x rfl rfl (Rg.ix da0 da1 rfl (HI2.out _)) rfl (hW.keep (by decide))
        | 11, ho, hi, hdep =>
          cases ho
          have da0 : ac.eval (.tmp 31) = .pointer (some ⟨w.heap.size + 1, k, none⟩) := hF.2.2.2 10 31 _ rfl (hdep ⟨10, .data⟩ (by simp) rfl)
          have da1 : ac.eval (.tmp 30) = .bool false := hF.2.2.2 9 30 _ rfl (hdep ⟨9, .data⟩ (by simp) rfl)
          have hA := hW.at (k := 0) rfl hi (.inl rfl)
          have hw := hA.1 rfl
          subst hw
          exact Rg.ex_skip x rfl rfl (Rg.sto da0 da1 rfl HST.out) rfl (hW.next (k := 0) rfl (by decide) hi (.inl rfl) ⟨fun e => absurd e (by decide), fun _ => rfl⟩)
      case refine_3 => exact Rg.StM.first ⟨fun _ => rfl, fun e => absurd e (by decide)⟩
      case refine_2 =>
        intro v' w2 hW
        have hA := hW.last
        have hw2 := hA.2 rfl
        subst hw2
        clear hW hA
        simp only [Ord.puts, Ord.prs]
        go_simp
        gi_wp2
        exact G.out _ (by simp)
  case done =>
    rintro Dd W hD ⟨hB, h4, h7, hnb⟩ hdef
    have d2 : W.cell? ⟨t, 2, none⟩ = some (.slice (some ⟨f, 0, none⟩) n n) := (hB.cell (p := ⟨t, 2, none⟩) htl).trans (HN.out.q.cell 2 rfl)
    have hBx := H2.out.2.1 W
    have hA := Aw.made (H2.out.1 W)
    have k4 := h4.later hBx
    have k7 := h7.later hBx
    have e4 : (ma W).cell? ⟨w.heap.size, 0, none⟩ = some (.slice (some ⟨tb, 0, none⟩) N N) := k4.cell 0 rfl
    have e7 : (ma W).cell? ⟨w.heap.size + 1 + 1, 0, none⟩ = some (.slice (some ⟨w.heap.size + 1, 0, none⟩) N N) := k7.cell 0 rfl
    have G : Hid (∀ Y, Y = (ma W).alloc (.cells #[.slice (some ⟨W.heap.size, 0, none⟩) n n, .int .i64 0, .int .i64 0, .pointer (some ⟨t, 0, none⟩), .slice (some ⟨tb, 0, none⟩) N N, .slice (some ⟨fb, 0, none⟩) N N, .slice (some ⟨w.heap.size + 1, 0, none⟩) N N] 123) → Y.heap[Dd]? = some (.deferred (some [])) ∧ Rd Y (W.heap.size + 1) t W.heap.size n N tb fb (w.heap.size + 1) 0 0 ∧ Aw Y W.heap.size n (fun _ => ⟨0, false, 0, 0⟩) ∧ Bw Y (w.heap.size + 1) N (nwl tl L) ∧ Below w.heap.size w Y ∧ W1.heap.size ≤ Y.heap.size) := by
      rintro Y rfl
      have hY : Below (ma W).heap.size (ma W) _ := (Below.refl _ (ma W)).alloc (Nat.le_refl _) (.cells #[.slice (some ⟨W.heap.size, 0, none⟩) n n, .int .i64 0, .int .i64 0, .pointer (some ⟨t, 0, none⟩), .slice (some ⟨tb, 0, none⟩) N N, .slice (some ⟨fb, 0, none⟩) N N, .slice (some ⟨w.heap.size + 1, 0, none⟩) N N] 123)
      have hx := hBx.trans (hY.mono hBx.size)
      have hDl : Dd < W.heap.size := (Array.getElem?_eq_some_iff.1 hdef).1
      refine ⟨(hx.block Dd hDl).trans hdef, ?_, hA.later hY, ((hnb.later hBx).later hY).congr (fun i hi => by rw [if_pos hi]), hB.trans (hx.mono hB.size), by have := hx.size; omega⟩
      have := Has.new (ma W) #[.slice (some ⟨W.heap.size, 0, none⟩) n n, .int .i64 0, .int .i64 0, .pointer (some ⟨t, 0, none⟩), .slice (some ⟨tb, 0, none⟩) N N, .slice (some ⟨fb, 0, none⟩) N N, .slice (some ⟨w.heap.size + 1, 0, none⟩) N N] 123
      rw [a4] at this
      exact this
    have HB := hidden hB
    clear hB h4 h7 hnb hBx hA k4 k7
    gi_wp2
    obtain ⟨g1, g2, g3, g4, g5, g6⟩ := G.out _ rfl
    refine ⟨by simp, .inl ⟨_, _, rfl, run_takeDeferred g1, ?_⟩⟩
    have hc := Calm.put (B := W1.heap.size) (.deferred none) hD g1 rfl
    have hs1 := H1.out.2.2.2.2
    refine ⟨_, results_tmp rfl _ _ _, W.heap.size + 1, W.heap.size, w.heap.size + 1, rfl, ?_, HB.out.size, by omega, hc.has g2, g3.calm hc, g4.calm hc, hc.below (by omega) g5 (Nat.le_refl _)⟩
    have := HB.out.size
    omega
end
end Go.Proofs.Ytjceeckcfjjkkaa.Ob
