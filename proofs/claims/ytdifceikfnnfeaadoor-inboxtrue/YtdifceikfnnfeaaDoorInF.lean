/-
  The rows that are told; a report.
  Conditions: the box was made by the package.
-/
import Derived.Test.YtdifceikfnnfeaaDoorInE
namespace Go.Proofs.YtdifceikfnnfeaaDoor.Sp.Inb
open Go.ChangeShapes Go.WideShapes Go.ChangeAt Go.RowKit
open Ba (hidden Has cell_lt heap_lt)
set_option linter.unusedVariables false
set_option maxRecDepth 20000
section
variable {n0 : Nat} {w : World} {b bc bf : Nat} {v : Value} {s : St} {K : Nat}
theorem Above_ (h : Cd n0 w b bc bf v s) : Calls Tryd.prog 19 #[.pointer (some ⟨b, 0, none⟩)] w fun e w' => ∃ u, e = .returned u ∧ w'.ownsRow w.heap.size 22 1 u (s.L.map (ts s.c)).length (us (s.L.map (ts s.c))) ∧ Below w.heap.size w w' := by
  obtain ⟨z, hq, hz, hz1, c0, c1, c2, c3, c4, c5, c6, c7, hf⟩ := h.cells
  have UM := hidden (unmade_ h)
  have AL := allS h.a h.t
  rw [us_ts] at AL
  have AL := hidden AL
  clear h hq
  go_enter Tryd.func19, Tryd.ntmps19
  go_wp2_with fail
  refine Calls.mono UM.out ?_
  rintro e w' ⟨rfl, rfl⟩
  go_wp2_with fail
  refine Calls.mono AL.out ?_
  rintro e w' ⟨u, rfl, ho, hB⟩
  go_wp2
  go_ret
  exact ⟨u, rfl, by rw [List.length_map]; exact ho, hB⟩
theorem Fixed_ (h : Cd n0 w b bc bf v s) : Calls Tryd.prog 32 #[.pointer (some ⟨b, 0, none⟩)] w fun e w' => ∃ u, e = .returned u ∧ w'.ownsRow w.heap.size 22 1 u (s.F.map (ts s.c)).length (us (s.F.map (ts s.c))) ∧ Below w.heap.size w w' := by
  obtain ⟨z, hq, hz, hz1, c0, c1, c2, c3, c4, c5, c6, c7, hf⟩ := h.cells
  have UM := hidden (unmade_ h)
  have AL := allS h.f h.t
  rw [us_ts] at AL
  have AL := hidden AL
  clear h hq
  go_enter Tryd.func32, Tryd.ntmps32
  go_wp2_with fail
  refine Calls.mono UM.out ?_
  rintro e w' ⟨rfl, rfl⟩
  go_wp2_with fail
  refine Calls.mono AL.out ?_
  rintro e w' ⟨u, rfl, ho, hB⟩
  go_wp2
  go_ret
  exact ⟨u, rfl, by rw [List.length_map]; exact ho, hB⟩
/-- the first of the duplicates, copied -/
theorem clone_take {base : Nat} {X : World} {a : Option Addr} {cap : Nat} {D : List Nat} (ho : X.ownsRow base 22 1 (.slice a D.length cap) D.length (us D)) (hD : D.length ≤ 4096) {k : Nat} (hk : k ≤ D.length) (cap' : Nat) :
    Calls Tryd.prog 57 #[.slice a k cap'] X fun e w' => ∃ da dc, e = .returned (.slice da k dc) ∧ w'.ownsRow X.heap.size 22 1 (.slice da k dc) (D.take k).length (us (D.take k)) ∧ Below X.heap.size X w' := by
  obtain ⟨a', cap2, e, hl, _, _, _⟩ := own_lies ho
  cases e
  have hlen : (D.take k).length = k := by rw [List.length_take]; omega
  refine (cloneU32 base X a k cap' (us (D.take k)) (by unfold us; rw [List.map_take]; exact hl.take k) (by rw [us_len, hlen, Nat.mul_one]) (us_one _) (by omega)).mono ?_
  rintro e w' ⟨u, rfl, h1, h2⟩
  obtain ⟨da, dc, rfl⟩ := Ba.own_len h1
  exact ⟨da, dc, rfl, by rw [hlen]; exact h1, h2⟩
theorem Dups_ (h : Cd n0 w b bc bf v s) (hk : s.D.length ≤ 4096) : Calls Tryd.prog 33 #[.pointer (some ⟨b, 0, none⟩)] w fun e w' => ∃ u, e = .returned u ∧ w'.ownsRow w.heap.size 22 1 u s.D.length (us s.D) ∧ Below w.heap.size w w' := by
  obtain ⟨z, hq, hz, hz1, c0, c1, c2, c3, c4, c5, c6, c7, hf⟩ := h.cells
  have UM := hidden (unmade_ h)
  obtain ⟨a, cap, hv⟩ := Ba.own_len h.d
  have hd := h.d
  rw [hv] at hd c4
  have CL := clone_take hd hk (Nat.le_refl _) cap
  rw [List.take_length] at CL
  have CL := hidden CL
  clear h hq hd
  go_enter Tryd.func33, Tryd.ntmps33
  go_wp2_with fail
  refine Calls.mono UM.out ?_
  rintro e w' ⟨rfl, rfl⟩
  go_wp2_with fail
  refine Calls.mono CL.out ?_
  rintro e w' ⟨da, dc, rfl, ho, hB⟩
  go_wp2
  go_ret
  exact ⟨_, rfl, ho, hB⟩
theorem below_drew {n : Nat} {w w1 : World} (h : Below n w w1) : Below n w w1.drew := h.trans ⟨rfl, rfl, rfl, Nat.le_refl _, fun _ _ => rfl⟩
theorem below_drewN {n : Nat} {w w1 : World} (h : Below n w w1) (k : Nat) : Below n w (w1.drewN k) := ⟨h.os, h.tape, h.output, h.size, h.block⟩
/-- a report's cells -/
def chv (kind : Int) (c win : Int) (g nr d : Value) : Array Value := #[.int .u8 kind, .int .u8 0, .int .u32 c, .int .u16 0, .int .u16 0, .int .u32 0, .int .u32 0, .int .u32 win, .int .u16 0, .int .u16 0, g, nr, d, .slice none 0 0, .slice none 0 0]
def zsl : Value := .slice none 0 0
theorem chv_size (kind c win : Int) (g nr d : Value) : (chv kind c win g nr d).size = 15 := rfl
theorem min_ {P : Program} {a : Act} {o : Oper} {w : World} {x y : Operand} {t t' : TypeId} {u v r : Value} (h0 : a.eval x = u) (h1 : a.eval y = v) (ho : o.op = .call { callee := .builtin .min, args := #[x, y], argTypes := #[t, t'] }) (hr : (Builtin.min_ #[t, t'] o.type #[u, v]).run P w = .ok r w) : (execOp a.eval o).run P w = .ok (.value r) w := by
  have e : execOp a.eval o = (do pure (.value (← Builtin.min_ #[t, t'] o.type #[a.eval x, a.eval y]))) := by
    unfold execOp
    rw [ho]
    simp [resolve, invoke, builtin]
  rw [e, h0, h1]
  exact Ord.run_v hr
theorem alloc_ch (w : World) : (Instr.alloc 46 true (.tuple #[])).run Tryd.prog w = .ok (.pointer (some ⟨w.heap.size, 0, none⟩)) (w.alloc (.cells (chv 0 0 0 zsl zsl zsl) 46)) := by kernel_rfl
theorem bld_ch (c : Int) (d : Option Addr) (k e : Nat) {w : World} : (Instr.build 46 #[(0, .int .u8 3), (2, .int .u32 c), (12, .slice d k e)]).run Tryd.prog w = .ok (.agg (chv 3 c 0 zsl zsl (.slice d k e))) w := by simp [go_sem, chv, zsl]
theorem store_ch {w : World} {b : Nat} {cs : Array Value} {kind c win : Int} {a1 a2 a3 : Option Addr} {n1 n2 n3 k1 k2 k3 : Nat} (h : Has w b cs 46) (hs : cs.size = 15 := by rfl) : (Instr.storeAt 46 (.pointer (some ⟨b, 0, none⟩)) (.agg (chv kind c win (.slice a1 n1 k1) (.slice a2 n2 k2) (.slice a3 n3 k3)))).run Tryd.prog w = .ok () (w.setRow b (chv kind c win (.slice a1 n1 k1) (.slice a2 n2 k2) (.slice a3 n3 k3))) :=
  Ow.store_row h (by kernel_rfl) (by rw [hs]; rfl) (by simp [chv, Value.oneCell'])
theorem row_mod (w : World) (b : Nat) (cs : Array Value) {cs0 : Array Value} {t : TypeId} (h : Has w b cs0 t) : Mod (fun j => j = b) w (w.setRow b cs) := by
  refine ⟨rfl, rfl, rfl, ?_, fun k hk hn => setRow_other w b k cs hn⟩
  have := below_setRow (Below.refl b w) (Nat.le_refl b) cs
  exact this.size
/-- worlds while a report is begun -/
structure SaT (W : World) (a : Option Addr) (kk cap : Nat) (s : St) (y : Nat × Option Addr × Nat) (l18 l20 l21 : Bool) (w' : World) : Prop where
  b : Below W.heap.size W w'
  d : l18 = true → w'.ownsRow W.heap.size 22 1 (.slice y.2.1 kk y.2.2) (s.D.take kk).length (us (s.D.take kk))
  a : l20 = true → W.heap.size ≤ y.1 ∧ Has w' y.1 (if l21 = true then chv 3 s.c 0 zsl zsl (.slice y.2.1 kk y.2.2) else chv 0 0 0 zsl zsl zsl) 46
  o : l21 = true → l18 = true ∧ l20 = true
section
variable {W w' w2 : World} {a : Option Addr} {kk cap : Nat} {y : Nat × Option Addr × Nat} {l18 l20 l21 : Bool}
theorem SaT.first (W : World) (a : Option Addr) (kk cap : Nat) (s : St) (y : Nat × Option Addr × Nat) : SaT W a kk cap s y false false false W.drew :=
  ⟨below_drew (Below.refl _ _), fun e => (by cases e), fun e => (by cases e), fun e => (by cases e)⟩
theorem SaT.keep {L : Nat → Bool} {i : Nat} (hi : i ≠ 18 ∧ i ≠ 20 ∧ i ≠ 21) (h : SaT W a kk cap s y (L 18) (L 20) (L 21) w') : SaT W a kk cap s y (Ord.upd L i 18) (Ord.upd L i 20) (Ord.upd L i 21) w' := by
  rw [Rg.upd_ne L (c := 18) (i := i) (decide_eq_false (by omega)), Rg.upd_ne L (c := 20) (i := i) (decide_eq_false (by omega)), Rg.upd_ne L (c := 21) (i := i) (decide_eq_false (by omega))]
  exact h
theorem SaT.s18 {da : Option Addr} {dc : Nat} (h : SaT W a kk cap s y false l20 false w') (ho : w2.ownsRow W.heap.size 22 1 (.slice da kk dc) (s.D.take kk).length (us (s.D.take kk))) (hB : Below w'.heap.size w' w2) : SaT W a kk cap s (y.1, da, dc) true l20 false w2 := by
  refine ⟨h.b.trans (hB.mono h.b.size), fun _ => ho, fun e => ?_, fun e => (by cases e)⟩
  obtain ⟨h1, h2⟩ := h.a e
  exact ⟨h1, h2.later hB⟩
theorem own_later {base E z n : Nat} {u : Value} {xs : List Value} (h : w'.ownsRow base E z u n xs) (hB : Below w'.heap.size w' w2) : w2.ownsRow base E z u n xs :=
  (Mod.of_below (F := fun k => w'.heap.size ≤ k) hB).own h fun k hk => by obtain ⟨⟨cs, hh⟩, _⟩ := own_type h hk; have := hh.lt; show ¬ w'.heap.size ≤ k; omega
theorem SaT.s20 (h : SaT W a kk cap s y l18 false false w') : SaT W a kk cap s (w'.heap.size, y.2) l18 true false (w'.alloc (.cells (chv 0 0 0 zsl zsl zsl) 46)) := by
  have hB := below_new w' (.cells (chv 0 0 0 zsl zsl zsl) 46)
  exact ⟨h.b.trans (hB.mono h.b.size), fun e => own_later (h.d e) hB, fun _ => ⟨h.b.size, Has.new _ _ _⟩, fun e => (by cases e)⟩
theorem SaT.s21 (h : SaT W a kk cap s y true true false w') : SaT W a kk cap s y true true true (w'.setRow y.1 (chv 3 s.c 0 zsl zsl (.slice y.2.1 kk y.2.2))) := by
  obtain ⟨h1, h2⟩ := h.a rfl
  have hm := row_mod w' y.1 (chv 3 s.c 0 zsl zsl (.slice y.2.1 kk y.2.2)) h2
  refine ⟨h.b.trans (hm.below h.b.size (fun j hj => by rw [hj]; exact h1)), fun _ => hm.own (h.d rfl) fun k hk hk2 => ?_, fun _ => ⟨h1, setRow_heap w' y.1 _ _ 46 (0, 0) h2⟩, fun _ => ⟨rfl, rfl⟩⟩
  obtain ⟨⟨cs, h3⟩, _⟩ := own_type (h.d rfl) hk
  have hk2 : k = y.1 := hk2
  subst hk2
  exact absurd (has_type h3 h2) (by decide)
end
theorem sl_row {a : Option Addr} {D cap kk : Nat} (h1 : kk ≤ D) (h2 : D ≤ cap) (h3 : a = none → D = 0 ∧ cap = 0) (w : World) : (Instr.sliceAt 33 (.slice a D cap) none (some (.int .i64 (kk : Int))) none).run Tryd.prog w = .ok (.slice a kk cap) w := by
  have k0 : (0 : Int) ≤ (kk : Int) := by omega
  have k1 : (kk : Int) ≤ (cap : Int) := by omega
  cases a with
  | none =>
    obtain ⟨rfl, rfl⟩ := h3 rfl
    obtain rfl : kk = 0 := by omega
    simp [go_sem, Instr.sliceAt]
  | some p =>
    simp [go_sem, Instr.sliceAt, k0, k1]
theorem wpList_ldA {Pr : Program} {ops : Array Oper} {rest : List Oper} {oq : Oper} {a : Act} {w : World} {Q : Exit → Act → World → Prop} (hgd : oq.guard = none) (ty : TypeId) (x : Operand) (ho : oq.op = .load ty x) {u v : Value} (hx : a.eval x = u) (hr : (Instr.loadAt ty u).run Pr w = .ok v w) (h : wpList Pr ops Q rest (a.put oq.dst v) w) : wpList Pr ops Q (oq :: rest) a w :=
  wpList_plain hgd fun K hK => Ord.wp_value (Rg.load hx ho hr) (hK _ _ h)
theorem wpList_stA {Pr : Program} {ops : Array Oper} {rest : List Oper} {oq : Oper} {a : Act} {w w' : World} {Q : Exit → Act → World → Prop} (hgd : oq.guard = none) (ty : TypeId) (x y : Operand) (ho : oq.op = .store ty x y) (hd : oq.dst = none) {u v : Value} (hx : a.eval x = u) (hy : a.eval y = v) (hr : (Instr.storeAt ty u v).run Pr w = .ok () w') (h : wpList Pr ops Q rest a w') : wpList Pr ops Q (oq :: rest) a w :=
  wpList_plain hgd fun K hK => by
    unfold Oper.wp
    rw [Rg.sto hx hy ho hr]
    exact hK _ _ (by rw [hd]; exact h)
def zch : Array Value := chv 0 0 0 zsl zsl zsl
theorem load_ch {X : World} {c : Nat} {kind cu win : Int} {g nr d : Value} (h : Has X c (chv kind cu win g nr d) 46) : (Instr.loadAt 46 (.pointer (some ⟨c, 0, none⟩))).run Tryd.prog X = .ok (.agg (chv kind cu win g nr d)) X := by
  have e0 := h.cell 0 rfl
  have e1 := h.cell 1 rfl
  have e2 := h.cell 2 rfl
  have e3 := h.cell 3 rfl
  have e4 := h.cell 4 rfl
  have e5 := h.cell 5 rfl
  have e6 := h.cell 6 rfl
  have e7 := h.cell 7 rfl
  have e8 := h.cell 8 rfl
  have e9 := h.cell 9 rfl
  have e10 := h.cell 10 rfl
  have e11 := h.cell 11 rfl
  have e12 := h.cell 12 rfl
  have e13 := h.cell 13 rfl
  have e14 := h.cell 14 rfl
  simp [go_sem, e0, e1, e2, e3, e4, e5, e6, e7, e8, e9, e10, e11, e12, e13, e14]
  rfl
theorem keep_row {X X' : World} {c : Nat} {cs : Array Value} {base E z n : Nat} {u : Value} {xs : List Value} (hm : Mod (fun k => k = c) X X') (hc : Has X c cs 46) (hE : E ≠ 46) (h : X.ownsRow base E z u n xs) : X'.ownsRow base E z u n xs :=
  hm.own h fun k hk hk2 => by
    have hk2 : k = c := hk2
    subst hk2
    obtain ⟨⟨cs', h3⟩, _⟩ := own_type h hk
    exact hE (has_type h3 hc)
/-- a cell of the report is set -/
theorem rep_set {w X : World} {c : Nat} {cs : Array Value} (hO : Ow.Own w X [(c, cs, 46), (w.heap.size, zch, 46)]) (hne : c ≠ w.heap.size) (i : Nat) (u v0 : Value) (hi : cs[i]? = some v0) :
    X.cell? ⟨c, i, none⟩ = some v0 ∧ X.frozen? ⟨c, i, none⟩ = false ∧ Ow.Own w (X.setCell ⟨c, i, none⟩ u) [(c, cs.setIfInBounds i u, 46), (w.heap.size, zch, 46)] ∧ ∀ {base E z n : Nat} {r : Value} {xs : List Value}, E ≠ 46 → X.ownsRow base E z r n xs → (X.setCell ⟨c, i, none⟩ u).ownsRow base E z r n xs :=
  ⟨hO.cell (.head _) i hi, hO.frozen (.head _) i, hO.set i u (by simp; exact fun e => hne e.symm), fun hE h => keep_row (Mod.setCell (F := fun k => k = c) X (p := ⟨c, i, none⟩) rfl u) (hO.has (.head _)) hE h⟩
/-- the report is handed out -/
theorem rep_fin {w X : World} {c : Nat} {kind cu win : Int} {a1 a2 a3 : Option Addr} {n1 n2 n3 k1 k2 k3 : Nat} (hO : Ow.Own w X [(c, chv kind cu win (.slice a1 n1 k1) (.slice a2 n2 k2) (.slice a3 n3 k3), 46), (w.heap.size, zch, 46)]) (hne : c ≠ w.heap.size) :
    (Instr.loadAt 46 (.pointer (some ⟨c, 0, none⟩))).run Tryd.prog X = .ok (.agg (chv kind cu win (.slice a1 n1 k1) (.slice a2 n2 k2) (.slice a3 n3 k3))) X ∧
    (Instr.storeAt 46 (.pointer (some ⟨w.heap.size, 0, none⟩)) (.agg (chv kind cu win (.slice a1 n1 k1) (.slice a2 n2 k2) (.slice a3 n3 k3)))).run Tryd.prog X = .ok () (X.setRow w.heap.size (chv kind cu win (.slice a1 n1 k1) (.slice a2 n2 k2) (.slice a3 n3 k3))) ∧
    Has (X.setRow w.heap.size (chv kind cu win (.slice a1 n1 k1) (.slice a2 n2 k2) (.slice a3 n3 k3))) w.heap.size (chv kind cu win (.slice a1 n1 k1) (.slice a2 n2 k2) (.slice a3 n3 k3)) 46 ∧
    Below w.heap.size w (X.setRow w.heap.size (chv kind cu win (.slice a1 n1 k1) (.slice a2 n2 k2) (.slice a3 n3 k3))) ∧
    ∀ {base E z n : Nat} {r : Value} {xs : List Value}, E ≠ 46 → X.ownsRow base E z r n xs → (X.setRow w.heap.size (chv kind cu win (.slice a1 n1 k1) (.slice a2 n2 k2) (.slice a3 n3 k3))).ownsRow base E z r n xs := by
  have h2 := hO.has (b := w.heap.size) (.tail _ (.head _))
  have hS : Ow.Own w X [(w.heap.size, zch, 46)] := hO.sub (by simp)
  have hT := hS.row (chv kind cu win (.slice a1 n1 k1) (.slice a2 n2 k2) (.slice a3 n3 k3)) (by simp)
  exact ⟨load_ch (hO.has (.head _)), store_ch h2, hT.has (.head _), hT.below, fun hE h => keep_row (row_mod X w.heap.size _ h2) h2 hE h⟩
/-- the blocks that a report tells -/
def gapsR (s : St) (most : Int) : List (Nat × Nat) := (blk (if s.nr = true then loose s.L s.F else s.L)).take most.toNat
def nrR (s : St) (most : Int) : List (Nat × Nat) := if s.nr = true then (blk s.F).take most.toNat else []
/-- a report, as a value -/
def Rep (base : Nat) (w : World) (s : St) (most win : Int) (V : Value) : Prop :=
  ∃ a1 n1 k1 a2 n2 k2 a3 n3 k3, V = .agg (chv (if s.nr = true then 16 else 3) s.c win (.slice a1 n1 k1) (.slice a2 n2 k2) (.slice a3 n3 k3)) ∧ w.ownsRow base 74 2 (.slice a1 n1 k1) (gapsR s most).length ((gapsR s most).flatMap gapC) ∧ w.ownsRow base 74 2 (.slice a2 n2 k2) (nrR s most).length ((nrR s most).flatMap gapC) ∧ w.ownsRow base 22 1 (.slice a3 n3 k3) (s.D.take most.toNat).length (us (s.D.take most.toNat))
theorem own_base {w : World} {base base' E z n : Nat} {u : Value} {xs : List Value} (h : w.ownsRow base E z u n xs) (hb : base' ≤ base) : w.ownsRow base' E z u n xs :=
  Ba.own_mono h fun k hk => Nat.le_trans hb (own_type h hk).2
theorem told_ (h : Cd n0 w b bc bf v s) (hk : s.D.length ≤ 4096) (most : Int) (hm : 0 ≤ most ∧ most ≤ 4096) : Calls Tryd.prog 44 #[.pointer (some ⟨b, 0, none⟩), .int .i64 most] w fun e w' => ∃ V, e = .returned V ∧ Rep w.heap.size w' s most 0 V ∧ Below w.heap.size w w' := by
  obtain ⟨a, cap, hv⟩ := Ba.own_len h.d
  obtain ⟨W, hW⟩ : ∃ W, w.alloc (.cells (chv 0 0 0 zsl zsl zsl) 46) = W := ⟨_, rfl⟩
  have hBW : Below w.heap.size w W := by rw [← hW]; exact below_new w _
  have hR0 : Has W w.heap.size (chv 0 0 0 zsl zsl zsl) 46 := by rw [← hW]; exact Has.new w _ _
  have HB := hidden (fun (X : World) (hX : Below W.heap.size W X) => hBW.trans (hX.mono hBW.size))
  have HCW := hidden (fun (X : World) (hX : Below w.heap.size w X) => h.later hX)
  have HCD := hidden (fun (X : World) (hX : Below W.heap.size W X) => h.later (HB.out X hX))
  have LD0 : Hid (∀ X, Below W.heap.size W X → (Instr.loadAt 77 (.pointer (some ⟨b, 0, none⟩))).run Tryd.prog X = .ok (.pointer (some ⟨bc, 0, none⟩)) X) := fun X hX => by
    obtain ⟨z, hq, hz, hz1, c0, c1, c2, c3, c4, c5, c6, c7, hf⟩ := (HCD.out X hX).cells
    simp [go_sem, c0]
  have LD4 : Hid (∀ X, Below W.heap.size W X → (Instr.loadAt 33 (.pointer (some ⟨b, 4, none⟩))).run Tryd.prog X = .ok (.slice a s.D.length cap) X) := fun X hX => by
    obtain ⟨z, hq, hz, hz1, c0, c1, c2, c3, c4, c5, c6, c7, hf⟩ := (HCD.out X hX).cells
    rw [hv] at c4
    simp [go_sem, c4]
  have CU : Hid (∀ X, Below W.heap.size W X → Calls Tryd.prog 45 #[.pointer (some ⟨bc, 0, none⟩)] X fun e w' => e = .returned (.int .u32 (s.c : Int)) ∧ X = w') := fun X hX => cumS (HCD.out X hX).a
  obtain ⟨kk, hkk⟩ : ∃ kk : Nat, kk = min most.toNat s.D.length := ⟨_, rfl⟩
  have hkl : kk ≤ s.D.length := by omega
  have HMI : Hid (∀ (X : World) (ty : TypeId), (Builtin.min_ #[3, 3] ty #[.int .i64 most, .int .i64 (s.D.length : Int)]).run Tryd.prog X = .ok (.int .i64 (kk : Int)) X) := fun X ty => by
    rw [Lib.run_min_ints, show min most ((s.D.length : Nat) : Int) = (kk : Int) by omega]
  have CL : Hid (∀ X, Below W.heap.size W X → ∀ c' : Nat, Calls Tryd.prog 57 #[.slice a kk c'] X fun e w' => ∃ da dc, e = .returned (.slice da kk dc) ∧ w'.ownsRow W.heap.size 22 1 (.slice da kk dc) (s.D.take kk).length (us (s.D.take kk)) ∧ Below X.heap.size X w') := fun X hX c' =>
    (clone_take (X := X) (hv ▸ (HCD.out X hX).d) hk hkl c').mono (by
      rintro e w' ⟨da, dc, e1, o1, b1⟩
      exact ⟨da, dc, e1, Ba.own_mono o1 (fun k hk => Nat.le_trans hX.size (own_type o1 hk).2), b1⟩)
  have HSL : Hid (∀ X : World, (Instr.sliceAt 33 (.slice a s.D.length cap) none (some (.int .i64 (kk : Int))) none).run Tryd.prog X = .ok (.slice a kk cap) X) := fun X => by
    obtain ⟨a', cap2, e, _, k1, k2, k3⟩ := own_lies (hv ▸ h.d)
    cases e
    exact sl_row hkl k2 k1 X
  have EC : Hid (∀ (args : Array Value) (w : World), (callFunc 45 args).run Tryd.prog w = .ok (.enter 45 args) w) := enters_of Tryd.func45 (by kernel_rfl) rfl
  have EK : Hid (∀ (args : Array Value) (w : World), (callFunc 57 args).run Tryd.prog w = .ok (.enter 57 args) w) := enters_of Tryd.func57 (by kernel_rfl) rfl
  have H0 := hidden hR0
  have HBW := hidden hBW
  have HKK := hidden hkk
  clear h hR0 hBW hv hkk
  generalize hDD : s.D.length = D at *
  have HDL := hidden hDD
  clear hDD
  go_enter Tryd.func44, Tryd.ntmps44
  go_wp2_with fail
  change Code.wp _ _ _ _ (w.alloc (.cells (chv 0 0 0 zsl zsl zsl) 46))
  rw [hW]
  clear hW
  refine Ord.wp_region_ex0 (X := Nat × Option Addr × Nat) (by kernel_rfl) 57 (fun y => [(some 6, .pointer (some ⟨b, 0, none⟩)), (some 7, .pointer (some ⟨b, 0, none⟩)), (some 8, .pointer (some ⟨b, 0, none⟩)), (some 9, .pointer (some ⟨b, 0, none⟩)), (some 10, .pointer (some ⟨bc, 0, none⟩)), (some 11, .int .u32 (s.c : Int)), (some 12, .pointer (some ⟨b, 0, none⟩)), (some 13, .pointer (some ⟨b, 0, none⟩)), (some 14, .pointer (some ⟨b, 4, none⟩)), (some 15, .slice a D cap), (some 16, .int .i64 most), (some 17, .pointer (some ⟨b, 0, none⟩)), (some 18, .pointer (some ⟨b, 0, none⟩)), (some 19, .pointer (some ⟨b, 4, none⟩)), (some 20, .slice a D cap), (some 21, .int .i64 (D : Int)), (some 22, .int .i64 (kk : Int)), (some 23, .slice a kk cap), (some 24, .slice y.2.1 kk y.2.2), (some 25, .agg (chv 3 (s.c : Int) 0 zsl zsl (.slice y.2.1 kk y.2.2))), (some 5, .pointer (some ⟨y.1, 0, none⟩)), (none, undef)]) [some 6, some 7, some 8, some 9, some 10, some 11, some 12, some 13, some 14, some 15, some 16, some 17, some 18, some 19, some 20, some 21, some 22, some 23, some 24, some 25, some 5, none] rfl (fun listed hsz hr => Ord.all_listedC (rank := [0, 1, 2, 3, 4, 5, 6, 7, 8, 9, 10, 11, 12, 13, 14, 15, 16, 17, 18, 19, 20, 21]) (by kernel_rfl) hsz hr) (by rfl) (fun _ => rfl) (by kernel_rfl) (fun y L w' => SaT W a kk cap s y (L 18) (L 20) (L 21) w') (fun _ L L' _ hL h => by rw [← hL 18 (by decide), ← hL 20 (by decide), ← hL 21 (by decide)]; exact h) ?_ ?_ (0, none, 0) ?_
  case refine_1 =>
    intro y Lq iq oq ac w' ho hi hcl hdep hF hW
    have f1 : ac.tmps.size = 57 := hF.1
    match iq, ho, hi, hdep with
    | 0, ho, hi, hdep =>
      cases ho
      have da0 : ac.eval (.tmp 0) = .pointer (some ⟨b, 0, none⟩) := hF.old 0 rfl
      exact Ord.ex_value y rfl rfl (Rg.mv da0 rfl) rfl (hW.keep (by decide))
    | 1, ho, hi, hdep =>
      cases ho
      have da0 : ac.eval (.tmp 6) = .pointer (some ⟨b, 0, none⟩) := hF.2.2.2 0 6 _ rfl (hdep ⟨0, .data⟩ (by simp) rfl)
      exact Ord.ex_value y rfl rfl (Rg.nilc da0 rfl) rfl (hW.keep (by decide))
    | 2, ho, hi, hdep =>
      cases ho
      have da0 : ac.eval (.tmp 7) = .pointer (some ⟨b, 0, none⟩) := hF.2.2.2 1 7 _ rfl (hdep ⟨1, .data⟩ (by simp) rfl)
      exact Ord.ex_value y rfl rfl (Rg.fa da0 rfl (by simp [go_sem])) rfl (hW.keep (by decide))
    | 3, ho, hi, hdep =>
      cases ho
      have da0 : ac.eval (.tmp 8) = .pointer (some ⟨b, 0, none⟩) := hF.2.2.2 2 8 _ rfl (hdep ⟨2, .data⟩ (by simp) rfl)
      exact Ord.ex_value y rfl rfl (Rg.fa da0 rfl (by simp [go_sem])) rfl (hW.keep (by decide))
    | 4, ho, hi, hdep =>
      cases ho
      have da0 : ac.eval (.tmp 9) = .pointer (some ⟨b, 0, none⟩) := hF.2.2.2 3 9 _ rfl (hdep ⟨3, .data⟩ (by simp) rfl)
      exact Ord.ex_value y rfl rfl (Rg.load da0 rfl (LD0.out _ hW.b)) rfl (hW.keep (by decide))
    | 5, ho, hi, hdep =>
      cases ho
      have da0 : ac.eval (.tmp 10) = .pointer (some ⟨bc, 0, none⟩) := hF.2.2.2 4 10 _ rfl (hdep ⟨4, .data⟩ (by simp) rfl)
      exact Rg.ex_call y rfl rfl (Rg.enter (args := #[.pointer (some ⟨bc, 0, none⟩)]) rfl rfl (by simp [da0]) EC.out) (Calls.mono (CU.out _ hW.b) (by rintro e w2 ⟨rfl, rfl⟩; exact ⟨rfl, hW.keep (by decide)⟩))
    | 6, ho, hi, hdep =>
      cases ho
      have da0 : ac.eval (.tmp 0) = .pointer (some ⟨b, 0, none⟩) := hF.old 0 rfl
      exact Ord.ex_value y rfl rfl (Rg.mv da0 rfl) rfl (hW.keep (by decide))
    | 7, ho, hi, hdep =>
      cases ho
      have da0 : ac.eval (.tmp 12) = .pointer (some ⟨b, 0, none⟩) := hF.2.2.2 6 12 _ rfl (hdep ⟨6, .data⟩ (by simp) rfl)
      exact Ord.ex_value y rfl rfl (Rg.nilc da0 rfl) rfl (hW.keep (by decide))
    | 8, ho, hi, hdep =>
      cases ho
      have da0 : ac.eval (.tmp 13) = .pointer (some ⟨b, 0, none⟩) := hF.2.2.2 7 13 _ rfl (hdep ⟨7, .data⟩ (by simp) rfl)
      exact Ord.ex_value y rfl rfl (Rg.fa da0 rfl (by simp [go_sem])) rfl (hW.keep (by decide))
    | 9, ho, hi, hdep =>
      cases ho
      have da0 : ac.eval (.tmp 14) = .pointer (some ⟨b, 4, none⟩) := hF.2.2.2 8 14 _ rfl (hdep ⟨8, .data⟩ (by simp) rfl)
      exact Ord.ex_value y rfl rfl (Rg.load da0 rfl (LD4.out _ hW.b)) rfl (hW.keep (by decide))
    | 10, ho, hi, hdep =>
      cases ho
      have da0 : ac.eval (.tmp 1) = .int .i64 most := hF.old 1 rfl
      exact Ord.ex_value y rfl rfl (Rg.mv da0 rfl) rfl (hW.keep (by decide))
    | 11, ho, hi, hdep =>
      cases ho
      have da0 : ac.eval (.tmp 0) = .pointer (some ⟨b, 0, none⟩) := hF.old 0 rfl
      exact Ord.ex_value y rfl rfl (Rg.mv da0 rfl) rfl (hW.keep (by decide))
    | 12, ho, hi, hdep =>
      cases ho
      have da0 : ac.eval (.tmp 17) = .pointer (some ⟨b, 0, none⟩) := hF.2.2.2 11 17 _ rfl (hdep ⟨11, .data⟩ (by simp) rfl)
      exact Ord.ex_value y rfl rfl (Rg.nilc da0 rfl) rfl (hW.keep (by decide))
    | 13, ho, hi, hdep =>
      cases ho
      have da0 : ac.eval (.tmp 18) = .pointer (some ⟨b, 0, none⟩) := hF.2.2.2 12 18 _ rfl (hdep ⟨12, .data⟩ (by simp) rfl)
      exact Ord.ex_value y rfl rfl (Rg.fa da0 rfl (by simp [go_sem])) rfl (hW.keep (by decide))
    | 14, ho, hi, hdep =>
      cases ho
      have da0 : ac.eval (.tmp 19) = .pointer (some ⟨b, 4, none⟩) := hF.2.2.2 13 19 _ rfl (hdep ⟨13, .data⟩ (by simp) rfl)
      exact Ord.ex_value y rfl rfl (Rg.load da0 rfl (LD4.out _ hW.b)) rfl (hW.keep (by decide))
    | 15, ho, hi, hdep =>
      cases ho
      have da0 : ac.eval (.tmp 20) = .slice a D cap := hF.2.2.2 14 20 _ rfl (hdep ⟨14, .data⟩ (by simp) rfl)
      exact Ord.ex_value y rfl rfl (Rg.len_ da0 rfl (by simp [go_sem, Builtin.len_])) rfl (hW.keep (by decide))
    | 16, ho, hi, hdep =>
      cases ho
      have da0 : ac.eval (.tmp 16) = .int .i64 most := hF.2.2.2 10 16 _ rfl (hdep ⟨10, .data⟩ (by simp) rfl)
      have da1 : ac.eval (.tmp 21) = .int .i64 (D : Int) := hF.2.2.2 15 21 _ rfl (hdep ⟨15, .data⟩ (by simp) rfl)
      exact Ord.ex_value y rfl rfl (min_ da0 da1 rfl (HMI.out _ _)) rfl (hW.keep (by decide))
    | 17, ho, hi, hdep =>
      cases ho
      have da0 : ac.eval (.tmp 15) = .slice a D cap := hF.2.2.2 9 15 _ rfl (hdep ⟨9, .data⟩ (by simp) rfl)
      have da1 : ac.eval (.tmp 22) = .int .i64 (kk : Int) := hF.2.2.2 16 22 _ rfl (hdep ⟨16, .data⟩ (by simp) rfl)
      exact Ord.ex_value y rfl rfl (Rg.slc da0 (l := none) rfl (h := some (.int .i64 (kk : Int))) (by simp [da1]) (m := none) rfl rfl (HSL.out _)) rfl (hW.keep (by decide))
    | 18, ho, hi, hdep =>
      cases ho
      have da0 : ac.eval (.tmp 23) = .slice a kk cap := hF.2.2.2 17 23 _ rfl (hdep ⟨17, .data⟩ (by simp) rfl)
      have h19 : Lq 19 = false := (Rg.no_of (fun h => hcl 19 _ rfl (h) ⟨18, .data⟩ (by simp) rfl) hi)
      have h21 : Lq 21 = false := (Rg.no_of (fun h => hcl 21 _ rfl (h) ⟨18, .chain⟩ (by simp) rfl) hi)
      refine Rg.ex_calll y rfl rfl (Rg.enter (args := #[.slice a kk cap]) rfl rfl (by simp [da0]) EK.out) (Calls.mono (CL.out _ hW.b _) ?_)
      rintro e w2 ⟨da, dc, rfl, ho, hB2⟩
      refine ⟨(y.1, da, dc), rfl, fun j hj => match j, hj with | 0, _ => rfl | 1, _ => rfl | 2, _ => rfl | 3, _ => rfl | 4, _ => rfl | 5, _ => rfl | 6, _ => rfl | 7, _ => rfl | 8, _ => rfl | 9, _ => rfl | 10, _ => rfl | 11, _ => rfl | 12, _ => rfl | 13, _ => rfl | 14, _ => rfl | 15, _ => rfl | 16, _ => rfl | 17, _ => rfl | 18, hj => absurd hj (by rw [hi]; decide) | 19, hj => absurd hj (by rw [h19]; decide) | 20, _ => rfl | 21, _ => rfl | _ + 22, _ => rfl, ?_⟩
      rw [Rg.upd_same, Rg.upd_ne Lq (c := 20) (i := 18) rfl, Rg.upd_ne Lq (c := 21) (i := 18) rfl, h21]
      rw [hi, h21] at hW
      exact hW.s18 ho hB2
    | 19, ho, hi, hdep =>
      cases ho
      have da0 : ac.eval (.tmp 11) = .int .u32 (s.c : Int) := hF.2.2.2 5 11 _ rfl (hdep ⟨5, .data⟩ (by simp) rfl)
      have da1 : ac.eval (.tmp 24) = .slice y.2.1 kk y.2.2 := hF.2.2.2 18 24 _ rfl (hdep ⟨18, .data⟩ (by simp) rfl)
      exact Ord.ex_value y rfl rfl (Rg.bld (ys := #[(0, .int .u8 3), (2, .int .u32 (s.c : Int)), (12, .slice y.2.1 kk y.2.2)]) rfl (by simp [da0, da1]; rfl) (bld_ch _ _ _ _)) rfl (hW.keep (by decide))
    | 20, ho, hi, hdep =>
      cases ho
      have h21 : Lq 21 = false := (Rg.no_of (fun h => hcl 21 _ rfl (h) ⟨20, .data⟩ (by simp) rfl) hi)
      refine Ord.ex_letter y (w'.heap.size, y.2) rfl rfl (Rg.alo rfl (alloc_ch w')) rfl (fun j hj => match j, hj with | 0, _ => rfl | 1, _ => rfl | 2, _ => rfl | 3, _ => rfl | 4, _ => rfl | 5, _ => rfl | 6, _ => rfl | 7, _ => rfl | 8, _ => rfl | 9, _ => rfl | 10, _ => rfl | 11, _ => rfl | 12, _ => rfl | 13, _ => rfl | 14, _ => rfl | 15, _ => rfl | 16, _ => rfl | 17, _ => rfl | 18, _ => rfl | 19, _ => rfl | 20, hj => absurd hj (by rw [hi]; decide) | 21, _ => rfl | _ + 22, _ => rfl) ?_
      rw [Rg.upd_same, Rg.upd_ne Lq (c := 18) (i := 20) rfl, Rg.upd_ne Lq (c := 21) (i := 20) rfl, h21]
      rw [hi, h21] at hW
      exact hW.s20
    | 21, ho, hi, hdep =>
      cases ho
      have da0 : ac.eval (.tmp 5) = .pointer (some ⟨y.1, 0, none⟩) := hF.2.2.2 20 5 _ rfl (hdep ⟨20, .data⟩ (by simp) rfl)
      have da1 : ac.eval (.tmp 25) = .agg (chv 3 (s.c : Int) 0 zsl zsl (.slice y.2.1 kk y.2.2)) := hF.2.2.2 19 25 _ rfl (hdep ⟨19, .data⟩ (by simp) rfl)
      have q18 : Lq 18 = true := (hdep ⟨18, .chain⟩ (by simp) rfl)
      have q20 : Lq 20 = true := (hdep ⟨20, .data⟩ (by simp) rfl)
      rw [hi, q18, q20] at hW
      refine Rg.ex_skip y rfl rfl (Rg.sto da0 da1 rfl (store_ch (hW.a rfl).2)) rfl ?_
      rw [Rg.upd_same, Rg.upd_ne Lq (c := 18) (i := 21) rfl, Rg.upd_ne Lq (c := 20) (i := 21) rfl, q18, q20]
      exact hW.s21
  case refine_3 => exact SaT.first _ _ _ _ _ _
  case refine_2 =>
    rintro ⟨cb_, da, dc⟩ X hX
    simp only [Ord.puts, Ord.prs]
    have hBX := HB.out X hX.b
    obtain ⟨hc1, hch⟩ := hX.a rfl
    have hdu := hX.d rfl
    rw [if_pos rfl] at hch
    simp only at hc1 hch hdu
    have hne : cb_ ≠ w.heap.size := by have := HBW.out.size; have := H0.out.lt; omega
    have hO : Ow.Own w X [(cb_, chv 3 s.c 0 zsl zsl (.slice da kk dc), 46), (w.heap.size, zch, 46)] := ⟨hBX, fun x hx => by
      rcases List.mem_cons.1 hx with rfl | hx
      · exact ⟨by have := HBW.out.size; show w.heap.size ≤ cb_; omega, hch⟩
      · rcases List.mem_cons.1 hx with rfl | hx
        · exact ⟨Nat.le_refl _, H0.out.later hX.b⟩
        · cases hx⟩
    have htk : s.D.take kk = s.D.take most.toNat := by rw [HKK.out, ← HDL.out, List.take_eq_take_iff]; omega
    rw [htk] at hdu
    have HDU := hidden hdu
    have HO := hidden hO
    have HC := HCW.out X hBX
    obtain ⟨z, hq, hz, hz1, c0, c1, c2, c3, c4, c5, c6, c7, hf⟩ := HC.cells
    have GA := hidden (gapsS HC.a HC.t most)
    clear hX hch hdu hO HC hq htk hc1
    go_simp
    cases hnr : s.nr with
    | false =>
      rw [hnr] at c3
      go_wp2_with fail
      refine Calls.mono GA.out ?_
      rintro e X2 ⟨gv, rfl, ho, hB2⟩
      obtain ⟨ga, gk, rfl⟩ := Ba.own_len ho
      obtain ⟨d0, d1, d2, d3⟩ := rep_set (HO.out.later hB2) hne 10 (.slice ga ((blk s.L).take most.toNat).length gk) zsl rfl
      have r1 := d3 (by decide) (own_later HDU.out hB2)
      have r2 := d3 (by decide) ho
      obtain ⟨X3, h3⟩ : ∃ X3, X2.setCell ⟨cb_, 10, none⟩ (.slice ga ((blk s.L).take most.toNat).length gk) = X3 := ⟨_, rfl⟩
      rw [h3] at d2 r1 r2
      obtain ⟨f1, f2, f3, f4, f5⟩ := rep_fin (c := cb_) (kind := 3) (cu := s.c) (win := 0) d2 hne
      have r3 := f5 (by decide) r1
      have r4 := f5 (by decide) r2
      have FIN := hidden (⟨own_base r4 hBX.size, own_base r3 HBW.out.size, f4⟩ : _ ∧ _ ∧ _)
      have F3 := hidden f3
      have F1 := hidden f1
      have F2 := hidden f2
      clear r1 r2 r3 r4 f1 f2 f3 f4 f5 d2 d3 ho hB2 HDU HO GA
      generalize hgl : ((blk s.L).take most.toNat).length = gl at *
      have HGL := hidden hgl
      clear hgl
      go_wp2_with (first | (refine wpList_ldA rfl 46 _ rfl rfl F1.out ?_) | (refine wpList_stA rfl 46 _ _ rfl rfl rfl rfl F2.out ?_))
      refine bodyPost_ret (results_cell_row rfl _ _ w.heap.size 46 (chv 3 s.c 0 (.slice ga gl gk) zsl (.slice da kk dc)) (0, 0) _ rfl F3.out Tryd.underlying46 rfl (by kernel_rfl)) rfl ⟨_, rfl, ⟨ga, gl, gk, none, 0, 0, da, kk, dc, by rw [hnr]; rfl, ?_, ?_, FIN.out.2.1⟩, FIN.out.2.2⟩
      · unfold gapsR
        rw [hnr, if_neg (by decide), HGL.out]
        exact FIN.out.1
      · unfold nrR
        rw [hnr, if_neg (by decide)]
        exact World.ownsRow_nil _ _ _ _
    | true =>
      rw [hnr] at c3
      -- the kind
      obtain ⟨d0, d1, d2, d3⟩ := rep_set HO.out hne 0 (.int .u8 16) (.int .u8 3) rfl
      have r1 := d3 (by decide) HDU.out
      obtain ⟨Y1, h1⟩ : ∃ Y1, X.setCell ⟨cb_, 0, none⟩ (.int .u8 16) = Y1 := ⟨_, rfl⟩
      rw [h1] at d2 r1
      have HO1 := hidden d2
      have HR1 := hidden r1
      have HC1 := HCW.out Y1 d2.below
      obtain ⟨z1, -, -, -, e0, e1, e2, e3, e4, e5, e6, e7, ef⟩ := HC1.cells
      have GL := hidden (loose_ HC1)
      clear d2 d3 r1 HC1 GA
      go_wp2_with fail
      refine Calls.mono GL.out ?_
      rintro e Y2 ⟨x, rfl, hSx, hB2⟩
      have HO2 := hidden (HO1.out.later hB2)
      have hC2 := HCW.out Y2 HO2.out.below
      have GB := hidden (gapsS hSx hC2.t most)
      have HR2 := hidden (own_later HR1.out hB2)
      clear hSx hB2 hC2 GL
      go_wp2_with fail
      refine Calls.mono GB.out ?_
      rintro e Y3 ⟨gv, rfl, ho, hB3⟩
      obtain ⟨ga, gk, rfl⟩ := Ba.own_len ho
      obtain ⟨d4, d5, d6, d7⟩ := rep_set (HO2.out.later hB3) hne 10 (.slice ga ((blk (loose s.L s.F)).take most.toNat).length gk) zsl rfl
      have r1 := d7 (by decide) (own_later HR2.out hB3)
      have r2 := d7 (by decide) ho
      obtain ⟨Y4, h4⟩ : ∃ Y4, Y3.setCell ⟨cb_, 10, none⟩ (.slice ga ((blk (loose s.L s.F)).take most.toNat).length gk) = Y4 := ⟨_, rfl⟩
      rw [h4] at d6 r1 r2
      have HO4 := hidden d6
      have HR4 := hidden r1
      have HG4 := hidden r2
      have hC4 := HCW.out Y4 d6.below
      obtain ⟨z4, -, -, -, k0, k1, k2, k3, k4, k5, k6, k7, kf⟩ := hC4.cells
      have GF := hidden (gapsS hC4.f hC4.t most)
      clear d6 d7 r1 r2 hC4 ho hB3 GB
      generalize hgl : ((blk (loose s.L s.F)).take most.toNat).length = gl at *
      have HGL := hidden hgl
      clear hgl
      go_wp2_with fail
      refine Calls.mono GF.out ?_
      rintro e Y5 ⟨nv, rfl, ho, hB5⟩
      obtain ⟨na, nk, rfl⟩ := Ba.own_len ho
      obtain ⟨d8, d9, d10, d11⟩ := rep_set (HO4.out.later hB5) hne 11 (.slice na ((blk s.F).take most.toNat).length nk) zsl rfl
      have r1 := d11 (by decide) (own_later HR4.out hB5)
      have r2 := d11 (by decide) (own_later HG4.out hB5)
      have r3 := d11 (by decide) ho
      obtain ⟨Y6, h6⟩ : ∃ Y6, Y5.setCell ⟨cb_, 11, none⟩ (.slice na ((blk s.F).take most.toNat).length nk) = Y6 := ⟨_, rfl⟩
      rw [h6] at d10 r1 r2 r3
      obtain ⟨f1, f2, f3, f4, f5⟩ := rep_fin (c := cb_) (kind := 16) (cu := s.c) (win := 0) d10 hne
      have q1 := f5 (by decide) r1
      have q2 := f5 (by decide) r2
      have q3 := f5 (by decide) r3
      rw [← HGL.out] at q2
      have FIN := hidden (⟨own_base q2 HO2.out.below.size, own_base q3 HO4.out.below.size, own_base q1 HBW.out.size, f4⟩ : _ ∧ _ ∧ _ ∧ _)
      rw [HGL.out] at FIN
      have F1 := hidden f1
      have F2 := hidden f2
      have F3 := hidden f3
      clear r1 r2 r3 q1 q2 q3 f1 f2 f3 f4 f5 d10 d11 ho hB5 GF
      generalize hnl : ((blk s.F).take most.toNat).length = nl at *
      have HNL := hidden hnl
      clear hnl
      go_wp2_with (first | (refine wpList_ldA rfl 46 _ rfl rfl F1.out ?_) | (refine wpList_stA rfl 46 _ _ rfl rfl rfl rfl F2.out ?_))
      refine bodyPost_ret (results_cell_row rfl _ _ w.heap.size 46 (chv 16 s.c 0 (.slice ga gl gk) (.slice na nl nk) (.slice da kk dc)) (0, 0) _ rfl F3.out Tryd.underlying46 rfl (by kernel_rfl)) rfl ⟨_, rfl, ⟨ga, gl, gk, na, nl, nk, da, kk, dc, by rw [hnr]; rfl, ?_, ?_, FIN.out.2.2.1⟩, FIN.out.2.2.2⟩
      · unfold gapsR
        rw [hnr, if_pos rfl, HGL.out]
        exact FIN.out.1
      · unfold nrR
        rw [hnr, if_pos rfl, HNL.out]
        exact FIN.out.2.1
end
end Go.Proofs.YtdifceikfnnfeaaDoor.Sp.Inb
