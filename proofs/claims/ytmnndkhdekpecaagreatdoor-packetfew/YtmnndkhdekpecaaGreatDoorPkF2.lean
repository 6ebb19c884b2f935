/-
  A row with one chunk more, put together and encoded, in any order.
  Conditions: as at each lemma.
-/
import Derived.Test.YtmnndkhdekpecaaGreatDoorPkZ
namespace Go.Proofs.YtmnndkhdekpecaaGreatDoor.Pkt
open Go.ChangeShapes Go.WideShapes Go.ChangeAt Go.RowKit
open Chu (Ch Ck Cks Chk val cv cc ccs ld Lies Lsts Bx zck Nums AvC clen tot chk gr_set gr_below)
open Par (hidden Bytes Row Prm Prms One cell_lt)
set_option linter.unusedVariables false
set_option maxRecDepth 20000

/-- what the steps leave -/
structure Fw where
  a : Value
  b : Value
  c : Value
  d : Value
  v : Value
  er : Int
def FwA (U : World) (pr : List Ck) (c0 : Ck) (x : Fw) (l0 l6 l13 l14 l16 : Bool) (w : World) : Prop :=
  Below U.heap.size U w ∧ (l0 = true → l6 = false → w.ownsRow U.heap.size 59 15 x.a 0 []) ∧ (l6 = true → l14 = false → w.ownsRow U.heap.size 59 15 x.b pr.length (ccs pr)) ∧
    (l13 = true → l14 = false → ∃ B, x.c = .slice (some ⟨B, 0, none⟩) 1 1 ∧ Bx w B c0 ∧ (l0 = true → l6 = false → x.a.ownBlock ≠ some B) ∧ (l6 = true → x.b.ownBlock ≠ some B)) ∧
    (l14 = true → w.ownsRow U.heap.size 59 15 x.d (pr.length + 1) (ccs (pr ++ [c0]))) ∧
    (l16 = true → PEnc 1 1 ((pr ++ [c0]).map val) x.er ∧ (x.er ≠ 0 → x.v = .slice none 0 0) ∧ (x.er = 0 → ∃ va cap, x.v = .slice va (12 + tot ((pr ++ [c0]).map val)) cap))
section
variable {U w : World} {pr : List Ck} {c0 : Ck} {x : Fw} {l0 l6 l13 l14 l16 : Bool}
theorem FwA.s0 (h : FwA U pr c0 x false false l13 false false w) : FwA U pr c0 { x with a := .slice (some ⟨w.heap.size, 0, none⟩) 0 0 } true false l13 false false (w.alloc (.cells #[] 59)) := by
  have hb := below_new w (.cells #[] 59)
  obtain ⟨h1, _, _, h4, _⟩ := h
  refine ⟨h1.trans (hb.mono h1.size), fun _ _ => World.ownsRow_lit w #[] 0 h1.size (Nat.zero_le _) rfl, fun e => (by cases e), fun e1 e2 => ?_, fun e => (by cases e), fun e => (by cases e)⟩
  obtain ⟨B, e3, hB, _⟩ := h4 e1 e2
  refine ⟨B, e3, hB.later hb, fun _ _ e => ?_, fun e => (by cases e)⟩
  have hlt := hB.lt
  have : w.heap.size = B := by simpa [Value.ownBlock] using e
  omega
theorem FwA.s13 (h : FwA U pr c0 x l0 l6 false false false w) : FwA U pr c0 { x with c := .slice (some ⟨w.heap.size, 0, none⟩) 1 1 } l0 l6 true false false (w.alloc (.cells (cc c0) 59)) := by
  have hb := below_new w (.cells (cc c0) 59)
  obtain ⟨h1, h2, h3, _⟩ := h
  refine ⟨h1.trans (hb.mono h1.size), fun e1 e2 => ownLater (h2 e1 e2) hb, fun e1 e2 => ownLater (h3 e1 e2) hb, fun _ _ => ⟨_, rfl, Chu.Bx.new w c0, fun e1 e2 => own_old (w' := w) (h2 e1 e2) (Nat.le_refl _), fun e1 => own_old (w' := w) (h3 e1 rfl) (Nat.le_refl _)⟩, fun e => (by cases e), fun e => (by cases e)⟩
theorem ccs_cells (l : List Ck) : ∀ u ∈ ccs l, u.oneCell' = true := by
  intro u hu
  obtain ⟨c, _, hc⟩ := List.mem_flatMap.1 hu
  exact Chu.cc_one c u hc
theorem FwA.s6 {base : Nat} {pa : Option Addr} {ad : Addr} {cap : Nat} (h : FwA U pr c0 x true false l13 false false w) (hp : Cks base U (some ad) pr.length pr) (hn : 0 < pr.length) (hl : pr.length ≤ 1000000) (ty : TypeId) :
    ∃ v' w', (Builtin.append_ #[24, 24] ty #[x.a, .slice (some ad) pr.length cap]).run Tryz.prog w = .ok v' w' ∧ FwA U pr c0 { x with b := v' } true true l13 false false w' := by
  obtain ⟨i0, hi, hz0, hz1, hz2⟩ := info_parts Chu.infoC3
  obtain ⟨h1, h2, _, h4, _⟩ := h
  have how := h2 rfl rfl
  have hnews := lies_news (hp.later h1).2.2.2
  have hcl : (ccs pr).length = pr.length * 15 := Chu.ccs_len pr
  obtain ⟨v', w', q1, q2, q3, _⟩ := run_append_own (P := Tryz.prog) w U.heap.size 24 ty 59 i0 (cv (zck 0)) 15 152 Tryz.underlying24 hi hz0 hz1 hz2 rfl (by decide) _ _ _ how ad pr.length cap (ccs pr) hcl hnews (ccs_cells pr) (by unfold maxLen; omega) (by omega) h1.size
  have q5 := Chu.append_where (ty := ty) (P := Tryz.prog) Tryz.underlying24 hi hz0 (by rw [hz1]; exact how) (by rw [hz1]; exact hcl) hnews (ccs_cells pr) hn (by unfold maxLen; omega) (by rw [hz2]; omega) q1
  refine ⟨v', w', q1, h1.grown q3 h1.size (fun k hk => (how.lt k hk).1), fun _ e => (by cases e), fun _ _ => by simpa using q2, fun e1 e2 => ?_, fun e => (by cases e), fun e => (by cases e)⟩
  obtain ⟨B, e3, hB, e4, _⟩ := h4 e1 e2
  have hne := e4 rfl rfl
  refine ⟨B, e3, ?_, fun _ e => (by cases e), fun _ e => ?_⟩
  · have := q3.block B hB.lt (fun e => hne e.symm)
    exact this.trans hB
  · rcases q5 with q5 | q5
    · exact hne (q5.symm.trans e)
    · have hlt := hB.lt
      have := Option.some.inj (q5.symm.trans e)
      omega
theorem FwA.s14 (h : FwA U pr c0 x true true true false false w) (hl : pr.length ≤ 1000000) (ty : TypeId) :
    ∃ v' w', (Builtin.append_ #[24, 24] ty #[x.b, x.c]).run Tryz.prog w = .ok v' w' ∧ FwA U pr c0 { x with d := v' } true true true true false w' := by
  obtain ⟨i0, hi, hz0, hz1, hz2⟩ := info_parts Chu.infoC3
  obtain ⟨h1, _, h3, h4, _⟩ := h
  have how := h3 rfl rfl
  obtain ⟨B, e3, hB, _⟩ := h4 rfl rfl
  have hnews : ∀ j u, (cc c0).toList[j]? = some u → w.cell? ((⟨B, 0, none⟩ : Addr).add j) = some u := fun j u hj => by
    rw [Go.WideShapes.add_plain, Nat.zero_add]
    exact Chu.bx_cell hB (by simpa using hj)
  obtain ⟨v', w', q1, q2, q3, _⟩ := run_append_own (P := Tryz.prog) w U.heap.size 24 ty 59 i0 (cv (zck 0)) 15 152 Tryz.underlying24 hi hz0 hz1 hz2 rfl (by decide) _ _ _ how ⟨B, 0, none⟩ 1 1 (cc c0).toList rfl hnews (Chu.cc_one c0) (by unfold maxLen; omega) (by omega) h1.size
  rw [← e3] at q1
  refine ⟨v', w', q1, h1.grown q3 h1.size (fun k hk => (how.lt k hk).1), fun _ e => (by cases e), fun _ e => (by cases e), fun _ e => (by cases e), fun _ => ?_, fun e => (by cases e)⟩
  rw [ccs_snoc]
  exact q2
/-- the packet that is encoded -/
theorem FwA.pk {base : Nat} (h : FwA U pr c0 x true true true true false w) (hp : ∀ c ∈ pr ++ [c0], Chk base U c) (hl : pr.length ≤ 1000000) : ∃ da dcap, x.d = .slice da (pr.length + 1) dcap ∧ PkOk 0 w ⟨1, 1, 0, da, pr.length + 1, dcap, pr ++ [c0]⟩ := by
  obtain ⟨h1, _, _, _, h5, _⟩ := h
  obtain ⟨a, cap, e, hli, _⟩ := own_lies (h5 rfl)
  refine ⟨a, cap, e, by simp, by simp, by simp, by simp, by simp only; omega, fun c hc => ?_, hli.mono (Nat.zero_le _)⟩
  exact chk_mono ((hp c hc).later h1) (Nat.zero_le _)
theorem FwA.s16 {w' : World} {v : Value} {er : Int} {p : Pk} (h : FwA U pr c0 x true true true true false w) (hf : p.f = 1) (ht : p.t = 1) (hl : p.l = pr ++ [c0]) (hE : EncO w w' p v er) : FwA U pr c0 { x with v := v, er := er } true true true true true w' := by
  obtain ⟨h1, _, _, _, h5, _⟩ := h
  obtain ⟨e1, e2, e3, e4⟩ := hE
  rw [hf, ht, hl] at e1
  refine ⟨h1.trans (e4.mono h1.size), fun _ e => (by cases e), fun _ e => (by cases e), fun _ e => (by cases e), fun _ => ownLater (h5 rfl) e4, fun _ => ⟨e1, e2, fun e => ?_⟩⟩
  obtain ⟨a, cap, e5, _⟩ := own_lies (e3 e)
  rw [hl] at e5
  exact ⟨a, cap, e5⟩
end
section
variable {P : Program} {ops : Array Oper} {Q : Exit → Act → World → Prop}
theorem ex_call2 {X : Type} {l : X → List (Option Nat × Value)} {L : Nat → Bool} {i : Nat} {o : Oper} {a : Act} {w : World} {f : FuncId} {args : Array Value} {R : X → World → Prop} (x : X) (ho : ops[i]? = some o) (hw : Region.wanted o (yielded ops a.tmps) = true)
    (hr : (execOp a.eval o).run P w = .ok (.enter f args) w) (hc : Calls P f args w fun e w' => ∃ x', e = .returned ((l x').getD i (none, undef)).2 ∧ (∀ j, L j = true → (l x')[j]? = (l x)[j]?) ∧ R x' w') : wpOp P ops Q i (fun a' w'' => ∃ x', a' = a.put o.dst ((l x').getD i (none, undef)).2 ∧ (∀ j, L j = true → (l x')[j]? = (l x)[j]?) ∧ R x' w'') a w :=
  Ord.wpOp_of ho hw (Ord.wp_enter hr (Calls.mono hc (by rintro e w' ⟨x', rfl, hs, hR⟩; exact ⟨_, rfl, x', rfl, hs, hR⟩)))
end
section
variable {a : Act} {o : Oper} {w : World}
theorem r_bs0 (ho : o.op = .buildSlice 24 0 #[]) : (execOp a.eval o).run Tryz.prog w = .ok (.value (.slice (some ⟨w.heap.size, 0, none⟩) 0 0)) (w.alloc (.cells #[] 59)) := by
  unfold execOp
  rw [ho]
  simp only [List.map_toArray, List.map_nil]
  exact Ord.run_v (show (Instr.buildSlice 24 0 #[]).run Tryz.prog w = .ok (.slice (some ⟨w.heap.size, 0, none⟩) 0 0) (w.alloc (.cells #[] 59)) by kernel_rfl)
theorem r_bpk {u : Value} (x : Operand) (hx : a.eval x = u) (ho : o.op = .build 26 #[(0, .const (.int .u16 1)), (1, .const (.int .u16 1)), (3, x)]) (hu : ∃ p n q, u = .slice p n q) : (execOp a.eval o).run Tryz.prog w = .ok (.value (.agg #[.int .u16 1, .int .u16 1, .int .u32 0, u])) w := by
  obtain ⟨p, n, q, rfl⟩ := hu
  have e : a.eval (.const (.int .u16 1)) = .int .u16 1 := rfl
  unfold execOp
  rw [ho]
  simp only [List.map_toArray, List.map_cons, List.map_nil, hx, e]
  exact Ord.run_v (show (Instr.build 26 #[(0, .int .u16 1), (1, .int .u16 1), (3, .slice p n q)]).run Tryz.prog w = .ok (.agg #[.int .u16 1, .int .u16 1, .int .u32 0, .slice p n q]) w by kernel_rfl)
theorem r_enc {u : Value} {T : Array TypeId} (x : Operand) (hu : a.eval x = u) (ho : o.op = .call { callee := .value (.func 8), args := #[x], argTypes := T }) : (execOp a.eval o).run Tryz.prog w = .ok (.enter 8 #[u]) w := by
  unfold execOp
  rw [ho]
  go_simp
  cases x <;> simpa [Act.eval] using hu
theorem r_ex0 {u v : Value} (x : Operand) (hx : a.eval x = .tuple #[u, v]) (ho : o.op = .extract x 0) : (execOp a.eval o).run Tryz.prog w = .ok (.value u) w := by
  unfold execOp
  rw [ho]
  simp only [hx]
  go_simp
theorem r_ex1 {u v : Value} (x : Operand) (hx : a.eval x = .tuple #[u, v]) (ho : o.op = .extract x 1) : (execOp a.eval o).run Tryz.prog w = .ok (.value v) w := by
  unfold execOp
  rw [ho]
  simp only [hx]
  go_simp
theorem r_as {v : Value} (x : Operand) (hx : a.eval x = v) (ho : o.op = .assign x) : (execOp a.eval o).run Tryz.prog w = .ok (.value v) w := by
  unfold execOp
  rw [ho]
  simp only [hx]
  rfl
end
/-- the chunks of the first rows -/
def fl (R : List (Value × List Ck)) (k : Nat) : List Ck := (R.take k).flatMap (·.2)
theorem fl_succ {R : List (Value × List Ck)} {k : Nat} {r : Value × List Ck} (h : R[k]? = some r) : fl R (k + 1) = fl R k ++ r.2 := by
  unfold fl
  rw [List.take_add_one, h]
  simp
theorem fl_len (R : List (Value × List Ck)) (k : Nat) : (fl R k).length ≤ (R.flatMap (·.2)).length := by
  unfold fl
  have e := congrArg (fun t => (t.flatMap (fun r : Value × List Ck => r.2)).length) (List.take_append_drop k R)
  simp only [List.flatMap_append, List.length_append] at e
  omega
theorem fl_vals (R : List (Value × List Ck)) : (R.flatMap (·.2)).map val = (rvs R).flatten := by
  induction R with
  | nil => rfl
  | cons r R ih =>
    simp only [List.flatMap_cons, List.map_append, ih, rvs, List.map_cons, List.flatten_cons]
theorem fl_mem {R : List (Value × List Ck)} {k : Nat} {c : Ck} (h : c ∈ fl R k) : ∃ r ∈ R, c ∈ r.2 := by
  obtain ⟨r, hr, hc⟩ := List.mem_flatMap.1 h
  exact ⟨r, List.mem_of_mem_take hr, hc⟩
/-- what Encode tells of a row of a bundle -/
theorem row_enc {m : Int} {vs : List Ch} {s : Bs} (h : BI m vs s) (hm : m ≤ 1500) (hck : ∀ v ∈ vs, chk v = 0) {r : List Ch} (hr : r ∈ rowsOf s) : PEnc 1 1 r 0 ∧ (12 + tot r : Int) ≤ m := by
  obtain ⟨h1, h2, h3⟩ := h.each r hr
  have hin : ∀ u ∈ r, chk u = 0 := fun u hu => hck u (by rw [← h.flat]; exact List.mem_flatten.2 ⟨r, hr, hu⟩)
  refine ⟨?_, by omega⟩
  exact .inr (.inr (.inr (.inr (.inr ⟨by decide, h1, h3, .inr (.inr ⟨hin, by omega, rfl⟩), by omega, rfl⟩))))
/-- what it tells of a row and the first chunk of the next -/
theorem more_enc {m : Int} {vs : List Ch} {s : Bs} (h : BI m vs s) {i : Nat} {r r' : List Ch} {v : Ch} {e : Int} (h1 : (rowsOf s)[i]? = some r) (h2 : (rowsOf s)[i + 1]? = some (v :: r')) (hE : PEnc 1 1 (r ++ [v]) e) : e = 0 → m < 12 + tot (r ++ [v]) := by
  rintro rfl
  obtain ⟨_, _, hmx, _⟩ := hE.ok
  rcases h.adj i r v r' h1 h2 with h3 | h3
  · exact absurd h3 hmx
  · omega
end Go.Proofs.YtmnndkhdekpecaaGreatDoor.Pkt
