/-
  Shares of a send buffer: which path may begin a chunk, and how much each may begin, as package split says.
  Conditions: as at each lemma.
-/
import Derived.Test.YtbnmcjajhcgcnaaShB
namespace Go.Proofs.Ytbnmcjajhcgcnaa.Sh
open Go.ChangeShapes Go.WideShapes Go.ChangeAt Go.RowKit
open Ba (hidden Has Only)
open Ow (Own)
set_option linter.unusedVariables false

theorem min_ {P : Program} {a : Act} {o : Oper} {w : World} {x y : Operand} {t t' : TypeId} {u v r : Value} (h0 : a.eval x = u) (h1 : a.eval y = v) (ho : o.op = .call { callee := .builtin .min, args := #[x, y], argTypes := #[t, t'] }) (hr : (Builtin.min_ #[t, t'] o.type #[u, v]).run P w = .ok r w) : (execOp a.eval o).run P w = .ok (.value r) w := by
  have e : execOp a.eval o = (do pure (.value (← Builtin.min_ #[t, t'] o.type #[a.eval x, a.eval y]))) := by
    unfold execOp
    rw [ho]
    simp [resolve, invoke, builtin]
  rw [e, h0, h1]
  exact Ord.run_v hr
/-- may a path begin a chunk -/
def mE (B P M : Int) (ys : List Int) (p : Int) : Int := bif decide (chk B P M ys = 0) then (bif decide (0 ≤ p ∧ p < P) then 0 else 5) else chk B P M ys
def mV (B P M : Int) (ys : List Int) (p : Int) : Bool := bif decide (chk B P M ys = 0) && decide (0 ≤ p ∧ p < P) then decide (ys.getD p.toNat 0 < part B P) else false
theorem m_no {B P M : Int} {ys : List Int} (h : ¬ chk B P M ys = 0) (p : Int) : mE B P M ys p = chk B P M ys ∧ mV B P M ys p = false := by unfold mE mV; rw [decide_eq_false h]; exact ⟨rfl, rfl⟩
theorem m_out {B P M : Int} {ys : List Int} (h : chk B P M ys = 0) {p : Int} (hp : ¬ (0 ≤ p ∧ p < P)) : mE B P M ys p = 5 ∧ mV B P M ys p = false := by unfold mE mV; rw [decide_eq_true h, decide_eq_false hp]; exact ⟨rfl, rfl⟩
theorem m_ok {B P M : Int} {ys : List Int} (h : chk B P M ys = 0) {p : Int} (hp : 0 ≤ p ∧ p < P) : mE B P M ys p = 0 ∧ mV B P M ys p = decide (ys.getD p.toNat 0 < part B P) := by unfold mE mV; rw [decide_eq_true h, decide_eq_true hp]; exact ⟨rfl, rfl⟩
/-- how much each may begin -/
def lv (B P W : Int) (ys : List Int) : List Int := ys.map fun y => max 0 (min (part B P) (part W P) - y)
def lE (B P M W : Int) (ys : List Int) : Int := bif decide (chk B P M ys = 0) then (bif decide (byt W) then 0 else 5) else chk B P M ys
def lV (B P M W : Int) (ys : List Int) : List Int := bif decide (chk B P M ys = 0) && decide (byt W) then lv B P W ys else []
theorem l_no {B P M : Int} {ys : List Int} (h : ¬ chk B P M ys = 0) (W : Int) : lE B P M W ys = chk B P M ys ∧ lV B P M W ys = [] := by unfold lE lV; rw [decide_eq_false h]; exact ⟨rfl, rfl⟩
theorem l_out {B P M : Int} {ys : List Int} (h : chk B P M ys = 0) {W : Int} (hp : ¬ byt W) : lE B P M W ys = 5 ∧ lV B P M W ys = [] := by unfold lE lV; rw [decide_eq_true h, decide_eq_false hp]; exact ⟨rfl, rfl⟩
theorem l_ok {B P M : Int} {ys : List Int} (h : chk B P M ys = 0) {W : Int} (hp : byt W) : lE B P M W ys = 0 ∧ lV B P M W ys = lv B P W ys := by unfold lE lV; rw [decide_eq_true h, decide_eq_true hp]; exact ⟨rfl, rfl⟩
theorem lv_len (B P W : Int) (ys : List Int) : (lv B P W ys).length = ys.length := by simp [lv]
theorem lv_get {ys : List Int} {q : Nat} {y : Int} (h : ys[q]? = some y) (B P W : Int) : (lv B P W ys)[q]? = some (max 0 (min (part B P) (part W P) - y)) := by simp [lv, h]
theorem lv_in {B P W : Int} {ys : List Int} (hB : byt B) (hP : 1 ≤ P ∧ P ≤ 8) (hW : byt W) (hy : ∀ y ∈ ys, byt y) : ∀ x ∈ lv B P W ys, byt x := by
  intro x hx
  obtain ⟨y, hy', rfl⟩ := List.mem_map.1 hx
  have h1 := part_in hB hP
  have h2 := part_in hW hP
  have h3 := hy y hy'
  constructor <;> omega
theorem take_next {G : List Int} {q : Nat} {z : Int} (h : G[q]? = some z) : G.take (q + 1) = G.take q ++ [z] := by
  rw [List.take_add_one, h]
  rfl
section
variable {w : World} {a : Option Addr} {n cap : Nat} {ys : List Int}
set_option maxHeartbeats 2000000 in
theorem may (h : Nu w a n ys) (B P M : Int) {p : Int} (hpw : -9223372036854775808 ≤ p ∧ p ≤ 9223372036854775807) : Calls Try.prog 18 #[.agg #[.int .i64 B, .int .i64 P, .int .i64 M], .int .i64 p, .slice a n cap] w fun e w' => e = .returned (.tuple #[.bool (mV B P M ys p), .int .i64 (mE B P M ys p)]) ∧ Below w.heap.size w w' := by
  have O := hidden ((Own.refl w).alloc #[.int .i64 B, .int .i64 P, .int .i64 M] 23)
  have CK := hidden (check (cap := cap) (h.later O.out.below) B P M)
  by_cases hc : chk B P M ys = 0
  · obtain ⟨hk, hl, hy⟩ := chk_0 hc
    have hw : IntKind.i64.wrap (P - 1) = P - 1 := by rw [IntKind.wrap_i64]; have := hk.2.1; omega
    by_cases hp : 0 ≤ p ∧ p < P
    · rw [(m_ok hc hp).1, (m_ok hc hp).2]
      rw [hc] at CK
      have WI := hidden (within_t (lo := 0) (n := p) (hi := P - 1) (by omega))
      have PA := hidden (part_ (n := B) (p := P) ⟨by have := hk.1; omega, hk.1.2⟩ hk.2.1)
      have hpn : p < (n : Int) := by have := h.len; omega
      obtain ⟨b, off, rfl, hb⟩ := Nu.open h (by omega)
      obtain ⟨y, hy', d⟩ := Nu.get h (q := p.toNat) (by omega)
      have hg : ys.getD p.toNat 0 = y := by rw [List.getD_eq_getElem?_getD, hy']; rfl
      rw [hg]
      have D := hidden d
      generalize part B P = V at *
      obtain ⟨hp1, hp2⟩ := hp
      clear h hk hl hy hc hy' hg d
      go_enter Try.func18, Try.ntmps18
      go_wp2_with fail
      refine Calls.mono CK.out ?_
      rintro e w1 ⟨rfl, hB⟩
      have O1 := hidden (O.out.later hB)
      obtain ⟨c0, c1, c2⟩ := cells3 O1.out (.head _)
      clear hB O CK
      go_wp2_with fail
      refine Calls.mono (WI.out _) ?_
      rintro e w2 ⟨rfl, rfl⟩
      have d1 := keep_cell O1.out.below D.out
      have HH : Hid (∀ X : World, Below w1.heap.size w1 X → X.cell? ⟨w.heap.size, 0, none⟩ = some (.int .i64 B) ∧ X.cell? ⟨w.heap.size, 1, none⟩ = some (.int .i64 P) ∧ X.cell? ⟨b, off + p.toNat, none⟩ = some (.int .i64 y) ∧ Below w1.heap.size w1 X) := fun X hX => ⟨keep_cell hX c0, keep_cell hX c1, keep_cell hX d1, hX⟩
      have PX : Hid (∀ X : World, Below w1.heap.size w1 X → Calls Try.prog 23 #[.int .i64 B, .int .i64 P] X fun e w' => e = .returned (.int .i64 V) ∧ Below w1.heap.size w1 w') := fun X hX => (PA.out X).mono (by rintro e w' ⟨rfl, rfl⟩; exact ⟨rfl, hX⟩)
      clear D PA WI
      go_wp2_with fail
      go_region_held3 (fun X => X.cell? ⟨w.heap.size, 0, none⟩ = some (.int .i64 B) ∧ X.cell? ⟨w.heap.size, 1, none⟩ = some (.int .i64 P) ∧ X.cell? ⟨b, off + p.toNat, none⟩ = some (.int .i64 y) ∧ Below w1.heap.size w1 X)
        (first | (exact HH.out _ (below_drew (Below.refl _ _))) | (exact HH.out _ (by assumption)) | (trace_state; fail))
        (first
          | (go_at_call 23; refine Calls.mono (PX.out _ ?_) ?_; (first | assumption | exact below_drew (Below.refl _ _)); rintro e X ⟨rfl, hX⟩))
      go_wp2
      go_ret2
      exact ⟨rfl, O1.out.below.trans (hX.mono O1.out.below.size)⟩
    · rw [(m_out hc hp).1, (m_out hc hp).2]
      rw [hc] at CK
      have WI := hidden (within_f (lo := 0) (n := p) (hi := P - 1) (by omega))
      clear h hk hl hy hc hp
      go_enter Try.func18, Try.ntmps18
      go_wp2_with fail
      refine Calls.mono CK.out ?_
      rintro e w1 ⟨rfl, hB⟩
      have O1 := hidden (O.out.later hB)
      obtain ⟨c0, c1, c2⟩ := cells3 O1.out (.head _)
      clear hB O CK
      go_wp2_with fail
      refine Calls.mono (WI.out _) ?_
      rintro e w2 ⟨rfl, rfl⟩
      go_wp2
      go_ret2
      exact ⟨rfl, O1.out.below⟩
  · rw [(m_no hc p).1, (m_no hc p).2]
    generalize chk B P M ys = C at *
    clear h
    go_enter Try.func18, Try.ntmps18
    go_wp2_with fail
    refine Calls.mono CK.out ?_
    rintro e w1 ⟨rfl, hB⟩
    have O1 := hidden (O.out.later hB)
    clear hB O CK
    go_wp2
    go_ret2
    exact ⟨rfl, O1.out.below⟩
end
theorem infoI : (Try.prog.info? 3).map (fun i => (i.zero, i.size, i.bytes)) = some (some (.int .i64 0), 1, 8) := by kernel_rfl
/-- a new block of one number -/
theorem cell1 (w : World) (x : Int) : ∀ j u, (lc [x])[j]? = some u → (w.alloc (.cells #[.int .i64 x] 3)).cell? ((⟨w.heap.size, 0, none⟩ : Addr).add j) = some u := by
  intro j u hj
  rw [Go.WideShapes.add_plain, Nat.zero_add]
  match j, hj with
  | 0, hj => exact (Has.new w #[.int .i64 x] 3).cell 0 (by simpa [lc] using hj)
/-- the list and what is the most -/
def Lb (w0 w : World) (b1 b2 : Nat) (m : Int) (q : Nat) (xs : List Int) : Prop :=
  ∃ g c, b1 ≠ b2 ∧ g ≠ b1 ∧ g ≠ b2 ∧ w.ownsRow w0.heap.size 3 1 (.slice (some ⟨g, 0, none⟩) q c) q (lc xs) ∧ Own w0 w [(b1, #[.slice (some ⟨g, 0, none⟩) q c], 24), (b2, #[.int .i64 m], 3)]
/-- one number more -/
theorem more {w0 w : World} {b1 b2 : Nat} {m : Int} {q : Nat} {xs : List Int} (h : Lb w0 w b1 b2 m q xs) (hq : q < 8) (hm : byt m) {y : Int} (hy : byt y) : Calls Try.prog 28 #[.int .i64 y, .pointer (some ⟨b1, 0, none⟩), .pointer (some ⟨b2, 0, none⟩)] w fun e w' => e = .returned (.tuple #[]) ∧ Lb w0 w' b1 b2 m (q + 1) (xs ++ [max 0 (m - y)]) := by
  obtain ⟨g, c, n1, n2, n3, hown, hO⟩ := h
  have c1 := hO.cell (.head _) 0 rfl
  have c2 := hO.cell (.tail _ (.head _)) 0 rfl
  have b1l := hO.lt (.head _)
  have b2l := hO.lt (.tail _ (.head _))
  have hw : IntKind.i64.wrap (m - y) = m - y := by rw [IntKind.wrap_i64]; omega
  have hb0 := hO.below.size
  have AP := Ba.append_at (P := Try.prog) (t := 24) (ty := 24) (c := 1) Try.underlying24 infoI rfl (by decide) (hown.alloc (.cells #[.int .i64 (max 0 (m - y))] 3)) (m := 1) (ad := ⟨w.heap.size, 0, none⟩) (news := lc [max 0 (m - y)]) (by simp [lc]) (cell1 w _) (lc_one _) (.inl (by decide)) (by unfold maxLen; omega) (by omega) (by simp; omega)
  obtain ⟨v', w1, hr, hown1, hgr, hwh⟩ := AP
  rw [← lc_app] at hown1
  obtain ⟨g', c', rfl, hg1, hg2, _, _⟩ := Ba.own_some hown1 (by omega)
  have hgl := hown.lt g rfl
  have hg' : g' ≠ b1 ∧ g' ≠ b2 := by
    rcases hwh with e | e
    · have e : g' = g := by simpa [Value.ownBlock] using e
      subst e
      exact ⟨n2, n3⟩
    · have e : g' = w.heap.size + 1 := by simpa [Value.ownBlock] using e
      omega
  have O1 : Own w0 w1 [(b1, #[.slice (some ⟨g, 0, none⟩) q c], 24), (b2, #[.int .i64 m], 3)] := own_grown ((hO.alloc #[.int .i64 (max 0 (m - y))] 3).sub (by simp)) hgr (fun k hk => by
    have e : g = k := by simpa [Value.ownBlock] using hk
    subst e
    exact ⟨hgl.1, by simp; omega⟩)
  have f1 := O1.frozen (.head _) 0
  have e1 := O1.cell (.head _) 0 rfl
  have O2 := O1.set 0 (.slice (some ⟨g', 0, none⟩) (q + 1) c') (by simp; omega)
  have hown2 : (w1.setCell ⟨b1, 0, none⟩ (.slice (some ⟨g', 0, none⟩) (q + 1) c')).ownsRow w0.heap.size 3 1 (.slice (some ⟨g', 0, none⟩) (q + 1) c') (q + 1) (lc (xs ++ [max 0 (m - y)])) := Ba.own_stay hown1 (Only.setCell (F := [b1]) w1 (by simp) _) (fun k hk => by
    have e : g' = k := by simpa [Value.ownBlock] using hk
    subst e
    simpa using hg'.1)
  have END := hidden (show Lb w0 (w1.setCell ⟨b1, 0, none⟩ (.slice (some ⟨g', 0, none⟩) (q + 1) c')) b1 b2 m (q + 1) (xs ++ [max 0 (m - y)]) from ⟨g', c', n1, hg'.1, hg'.2, hown2, O2⟩)
  have HR := hidden hr
  clear hown hO hown1 hgr hwh hgl hg' O1 O2 hown2 hr hg1 hg2 hb0 hm hy n1 n2 n3
  go_enter Try.func28, Try.ntmps28
  go_wp2_with (first | (at_builtin; refine Rg.wpList_app rfl (.tmp 4) (.tmp 9) 24 rfl rfl rfl HR.out ?_; clear HR) | go_in)
  go_wp2
  go_end0
  exact ⟨rfl, END.out⟩
end Go.Proofs.Ytbnmcjajhcgcnaa.Sh
