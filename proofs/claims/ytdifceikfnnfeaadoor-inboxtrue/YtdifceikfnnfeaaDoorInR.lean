/-
  One act on both boxes.
  Conditions: as at each lemma.
-/
import Derived.Test.YtdifceikfnnfeaaDoorInP
namespace Go.Proofs.YtdifceikfnnfeaaDoor.Sp.Inb
open Go.ChangeShapes Go.WideShapes Go.ChangeAt Go.RowKit
open Ba (hidden Has cell_lt heap_lt)
set_option linter.unusedVariables false
set_option maxRecDepth 20000
theorem wpList_alA {Pr : Program} {ops : Array Oper} {rest : List Oper} {oq : Oper} {a : Act} {w w' : World} {Q : Exit → Act → World → Prop} (hgd : oq.guard = none) (ty : TypeId) (ho : oq.op = .alloc ty) {v : Value} (hr : (Instr.alloc ty true (.tuple #[])).run Pr w = .ok v w') (h : wpList Pr ops Q rest (a.put oq.dst v) w') : wpList Pr ops Q (oq :: rest) a w :=
  wpList_plain hgd fun K hK => Ord.wp_value (Rg.alo ho hr) (hK _ _ h)
/-- what an act does -/
def actF (o : Nat) (l : List Nat) (k n : Int) (s : St) : St :=
  if k = 1 then comeS o s else if k = 2 then dropS o s else if k = 3 then fixAll l s else if k = 4 then (if timeOk n = true then heardS n s else s) else if k = 5 then (if mostOk n = true then repS s else s) else s
def actO (s : St) (z : OA) : Nat := match z.l with | [] => ts s.c 1 | x :: _ => ts s.c x
def actS (z : OA) (s : St) : St := actF (actO s z) (z.l.map (ts s.c)) z.k z.n s
theorem act_ok {K : Nat} {z : OA} {s : St} (h : Ok K s) : Ok (K + 1) (actS z s) := by
  have ho : actO s z < 4294967296 := by unfold actO; split <;> exact ts_lt _ _
  unfold actS actF
  split
  · exact come_ok h ho
  split
  · exact (drop_ok h).mono (Nat.le_succ _)
  split
  · exact (fixAll_ok h).mono (Nat.le_succ _)
  split
  · split
    · rename_i ht; exact heard_ok h ht
    · exact h.mono (Nat.le_succ _)
  split
  · split
    · exact (rep_ok h).mono (Nat.le_succ _)
    · exact h.mono (Nat.le_succ _)
  · exact h.mono (Nat.le_succ _)
/-- a report, or none: its rows are new -/
def Rg_ (base : Nat) (w : World) (kd cu wn : Int) (Xs Ys : List (Nat × Nat)) (D : List Nat) (V : Value) : Prop :=
  ∃ a1 n1 k1 a2 n2 k2 a3 n3 k3, V = .agg (chv kd cu wn (.slice a1 n1 k1) (.slice a2 n2 k2) (.slice a3 n3 k3)) ∧ w.ownsRow base 74 2 (.slice a1 n1 k1) Xs.length (Xs.flatMap gapC) ∧ w.ownsRow base 74 2 (.slice a2 n2 k2) Ys.length (Ys.flatMap gapC) ∧ w.ownsRow base 22 1 (.slice a3 n3 k3) D.length (us D)
theorem Rg_.zero (base : Nat) (w : World) : Rg_ base w 0 0 0 [] [] [] (.agg zch) := ⟨none, 0, 0, none, 0, 0, none, 0, 0, rfl, World.ownsRow_nil _ _ _ _, World.ownsRow_nil _ _ _ _, World.ownsRow_nil _ _ _ _⟩
section
variable {base : Nat} {w w' : World} {kd cu wn : Int} {Xs Ys : List (Nat × Nat)} {D : List Nat} {V : Value}
theorem Rg_.later (h : Rg_ base w kd cu wn Xs Ys D V) (hB : Below w.heap.size w w') : Rg_ base w' kd cu wn Xs Ys D V := by
  obtain ⟨a1, n1, k1, a2, n2, k2, a3, n3, k3, e, h1, h2, h3⟩ := h
  exact ⟨a1, n1, k1, a2, n2, k2, a3, n3, k3, e, own_later h1 hB, own_later h2 hB, own_later h3 hB⟩
theorem Rg_.mod {F : Nat → Prop} (h : Rg_ base w kd cu wn Xs Ys D V) (hm : Mod F w w') (hF : ∀ k, base ≤ k → ¬ F k) : Rg_ base w' kd cu wn Xs Ys D V := by
  obtain ⟨a1, n1, k1, a2, n2, k2, a3, n3, k3, e, h1, h2, h3⟩ := h
  exact ⟨a1, n1, k1, a2, n2, k2, a3, n3, k3, e, hm.own h1 fun k hk => hF k (own_type h1 hk).2, hm.own h2 fun k hk => hF k (own_type h2 hk).2, hm.own h3 fun k hk => hF k (own_type h3 hk).2⟩
theorem Rg_.sr (h : Rg_ base w kd cu wn Xs Ys D V) : Sr w V kd cu wn Xs Ys D := by
  obtain ⟨a1, n1, k1, a2, n2, k2, a3, n3, k3, e, h1, h2, h3⟩ := h
  obtain ⟨_, _, e1⟩ := Ba.own_len h1
  cases e1
  obtain ⟨_, _, e2⟩ := Ba.own_len h2
  cases e2
  obtain ⟨_, _, e3⟩ := Ba.own_len h3
  cases e3
  exact ⟨_, _, _, _, _, _, _, _, _, e, gps_own h1, gps_own h2, nums_us h3⟩
/-- the report is stored in a block of its own -/
theorem Rg_.put (h : Rg_ base w kd cu wn Xs Ys D V) : ∃ Y, (Instr.storeAt 46 (.pointer (some ⟨w.heap.size, 0, none⟩)) V).run Tryd.prog (w.alloc (.cells zch 46)) = .ok () Y ∧ Below w.heap.size w Y ∧ ∃ cs, V = .agg cs ∧ Has Y w.heap.size cs 46 ∧ ∀ Z : World, Has Z w.heap.size cs 46 → (Instr.loadAt 46 (.pointer (some ⟨w.heap.size, 0, none⟩))).run Tryd.prog Z = .ok V Z := by
  obtain ⟨a1, n1, k1, a2, n2, k2, a3, n3, k3, rfl, h1, h2, h3⟩ := h
  have hX := (Ow.Own.refl w).alloc zch 46
  have hY := hX.row (chv kd cu wn (.slice a1 n1 k1) (.slice a2 n2 k2) (.slice a3 n3 k3)) (by simp)
  exact ⟨_, store_ch (hX.has (.head _)), hY.below, _, rfl, hY.has (.head _), fun Z hZ => load_ch hZ⟩
end
section
variable {n0 : Nat} {w : World} {b bc bf r bs : Nat} {v fx dp : Value} {P : List Nat} {s : St} {K : Nat}
/-- both boxes behind an act -/
def After (n0 : Nat) (w w' : World) (b bc bf r bs K : Nat) (s : St) : Prop := ∃ v fx dp P, Bx n0 w' b bc bf v r bs fx dp P K s ∧ Below n0 w w'
theorem Bx.lt (h : Bx n0 w b bc bf v r bs fx dp P K s) : (∀ k, FC b bc bf v k → k < w.heap.size) ∧ (∀ k, FD r bs fx dp k → k < w.heap.size) :=
  ⟨fun k hk => by obtain ⟨cs, ty, hh, _⟩ := h.cd.type hk; exact hh.lt, fun k hk => by obtain ⟨cs, ty, hh, _⟩ := h.rf.type hk; exact hh.lt⟩
set_option maxHeartbeats 8000000 in
theorem act (h : Bx n0 w b bc bf v r bs fx dp P K s) (hK : K ≤ 1000) (z : OA) (hrow : Row w z.a z.m z.l) : Calls Tryd.prog 11 #[.pointer (some ⟨b, 0, none⟩), .pointer (some ⟨r, 0, none⟩), .agg #[.int .i64 z.k, .slice z.a z.m z.cap, .int .i64 z.n]] w fun e w' => e = .returned (.bool true) ∧ After n0 w w' b bc bf r bs (K + 1) (actS z s) := by
  obtain ⟨zk, za, zm, zcap, zl, zn⟩ := z
  simp only at hrow ⊢
  obtain ⟨W, hW⟩ : ∃ W, w.alloc (.cells #[.int .i64 zk, .slice za zm zcap, .int .i64 zn] 35) = W := ⟨_, rfl⟩
  have hBW : Below w.heap.size w W := by rw [← hW]; exact below_new w _
  have hOB : Has W w.heap.size #[.int .i64 zk, .slice za zm zcap, .int .i64 zn] 35 := by rw [← hW]; exact Has.new w _ _
  have hc := h.ok.c
  have HH := hidden (fun (X : World) (hX : Below W.heap.size W X) => h.later (hBW.trans (hX.mono hBW.size)))
  have HCC := hidden (fun (X : World) (hX : Below W.heap.size W X) => (by
    obtain ⟨ra, rcap, c0, c1, c2, c3, c4, c5, c6, c7, c8, cf, d0, d1⟩ := (HH.out X hX).rf.cells
    have hq := hOB.later hX
    exact ⟨c0, d0, hq.cell 0 rfl, hq.cell 1 rfl, hq.cell 2 rfl, hX⟩ : X.cell? ⟨r, 0, none⟩ = some (.pointer (some ⟨bs, 0, none⟩)) ∧ X.cell? ⟨bs, 0, none⟩ = some (.int .u32 (s.c : Int)) ∧ X.cell? ⟨w.heap.size, 0, none⟩ = some (.int .i64 zk) ∧ X.cell? ⟨w.heap.size, 1, none⟩ = some (.slice za zm zcap) ∧ X.cell? ⟨w.heap.size, 2, none⟩ = some (.int .i64 zn) ∧ Below W.heap.size W X))
  have MV : Hid (∀ X, Below W.heap.size W X → Calls Tryd.prog 37 #[.int .u32 (s.c : Int), .slice za zm zcap] X fun e w' => ∃ la lcap, e = .returned (.slice la zm lcap) ∧ w'.ownsRow W.heap.size 22 1 (.slice la zm lcap) (zl.map (ts s.c)).length (us (zl.map (ts s.c))) ∧ Below W.heap.size W w') := fun X hX =>
    (moved ((hrow.later hBW).later hX) s.c zcap hc).mono (by
      rintro e w' ⟨la, lcap, rfl, ho, hB⟩
      exact ⟨la, lcap, rfl, own_base ho hX.size, hX.trans (hB.mono hX.size)⟩)
  have A1 := hidden (fun (X : World) => radd_ s.c 1 hc (by decide) X)
  have HBW := hidden hBW
  have HLm := hidden hrow.1
  have hzm := hrow.2.1
  have HOK := hidden h.ok
  have HLT := hidden h.lt
  have HN0 := hidden h.cd.hn
  clear hrow h hBW hOB
  obtain ⟨u0, u1, u2, u3, u4, -⟩ := HCC.out W (Below.refl _ _)
  go_enter Tryd.func11, Tryd.ntmps11
  go_wp2_with fail
  go_region_held3 (fun X => X.cell? ⟨r, 0, none⟩ = some (.pointer (some ⟨bs, 0, none⟩)) ∧ X.cell? ⟨bs, 0, none⟩ = some (.int .u32 (s.c : Int)) ∧ X.cell? ⟨w.heap.size, 0, none⟩ = some (.int .i64 zk) ∧ X.cell? ⟨w.heap.size, 1, none⟩ = some (.slice za zm zcap) ∧ X.cell? ⟨w.heap.size, 2, none⟩ = some (.int .i64 zn) ∧ Below W.heap.size W X)
    (first | (exact HCC.out _ (below_drew (Below.refl _ _))) | (exact HCC.out _ (by assumption)))
    (first | (go_at_call 37; refine Calls.mono (MV.out _ ?_) ?_; (first | assumption | exact below_drew (Below.refl _ _)); rintro e X1 ⟨la, lcap, rfl, hl, hX1⟩))
  have HL := hidden hl
  have HX1 := hidden hX1
  clear u0 u1 u2 u3 u4 hl hX1 hW MV
  obtain ⟨u0, u1, u2, u3, u4, -⟩ := HCC.out X1 HX1.out
  go_wp2_with fail
  refine Calls.mono (A1.out _) ?_
  rintro e w' ⟨rfl, rfl⟩
  have PO : ∃ o1, o1 < 4294967296 ∧ actO s ⟨zk, za, zm, zcap, zl, zn⟩ = o1 ∧ ((zm = 0 ∧ o1 = ts s.c 1) ∨ (∃ g, la = some ⟨g, 0, none⟩ ∧ 0 < zm ∧ zm ≤ lcap ∧ X1.cell? ⟨g, 0, none⟩ = some (.int .u32 (o1 : Int)))) := by
    cases hzl : zl with
    | nil => exact ⟨_, ts_lt _ _, rfl, .inl ⟨by rw [← HLm.out, hzl]; rfl, rfl⟩⟩
    | cons x xs =>
      have hm0 : 0 < zm := by rw [← HLm.out, hzl]; simp
      have ho := HL.out
      have hlen : (zl.map (ts s.c)).length = zm := by rw [List.length_map]; exact HLm.out
      rw [hlen] at ho
      obtain ⟨g, c', e9, _, _, hcap, _⟩ := Ba.own_some ho hm0
      cases e9
      refine ⟨ts s.c x, ts_lt _ _, rfl, .inr ⟨g, rfl, hm0, hcap, ?_⟩⟩
      have := ho.cellAt (g := g) 0 (by omega)
      rw [this, us_at (t := ts s.c x) (by rw [hzl]; rfl)]
  obtain ⟨o1, ho1, hact, hway⟩ := PO
  have HACT := hidden (show actS ⟨zk, za, zm, zcap, zl, zn⟩ s = actF o1 (zl.map (ts s.c)) zk zn s by unfold actS; rw [hact])
  have HO1 := hidden ho1
  clear hact ho1
  have hB1 := HH.out X1 HX1.out
  have HWX := hidden ((HBW.out.trans (HX1.out.mono HBW.out.size)).mono HN0.out)
  have K1 := hidden (Come_ hB1.cd hB1.ok o1 HO1.out)
  have K1' := hidden (fun (Y : World) (hM : Mod (FC b bc bf v) X1 Y) => r_come (hB1.mid hM) hB1.ok o1 HO1.out)
  have K2 := hidden (Drop_ hB1.cd hB1.ok o1 HO1.out)
  have K2' := hidden (fun (Y : World) (hM : Mod (FC b bc bf v) X1 Y) => r_drop (hB1.mid hM) hB1.ok o1 HO1.out)
  have hlen : (zl.map (ts s.c)).length = zm := by rw [List.length_map]; exact HLm.out
  have hll : ∀ t ∈ zl.map (ts s.c), t < 4294967296 := fun t ht => by
    obtain ⟨x, _, rfl⟩ := List.mem_map.1 ht
    exact ts_lt _ _
  have hnew : ∀ k, (Value.slice la zm lcap).ownBlock = some k → w.heap.size ≤ k := fun k hk => Nat.le_trans HBW.out.size (own_type HL.out hk).2
  have K3 := Fix_ hB1.cd hB1.ok (zl.map (ts s.c)) hll (by omega) la lcap (fun Y hM => by
    rw [hlen]
    have := nums_us (hM.own HL.out (fun k hk hf => by have := HLT.out.1 k hf; have := hnew k hk; omega))
    rw [hlen] at this
    exact this)
  rw [hlen] at K3
  have K3 := hidden K3
  have K3' : Hid (∀ Y : World, Mod (FC b bc bf v) X1 Y → Calls Tryd.prog 26 #[.pointer (some ⟨r, 0, none⟩), .slice la zm lcap] Y fun e w' => ∃ fx' P', e = .returned (.int .i64 (fixN (zl.map (ts s.c)) s)) ∧ Rf n0 w' r bs fx' dp P' (fixAll (zl.map (ts s.c)) s) ∧ Mod (FD r bs fx dp) Y w' ∧ Newer Y fx fx') := fun Y hM => by
    have hrowY := hM.own HL.out (fun k hk hf => by have := HLT.out.1 k hf; have := hnew k hk; omega)
    have := r_hold (hB1.mid hM) hB1.ok (zl.map (ts s.c)) hll (by omega) la lcap (fun Z hM2 => by
      rw [hlen]
      have := nums_us (hM2.own hrowY (fun k hk hf => by have := HLT.out.2 k hf; have := hnew k hk; omega))
      rw [hlen] at this
      exact this)
    rw [hlen] at this
    exact this
  have FIN := hidden (fun (w1 w2 : World) (v1 fx2 dp2 : Value) (P2 : List Nat) (s2 : St) (h1 : Cd n0 w1 b bc bf v1 s2) (m1 : Mod (FC b bc bf v) X1 w1) (e1 : Newer X1 v v1) (h2 : Rf n0 w2 r bs fx2 dp2 P2 s2) (m2 : Mod (FD r bs fx dp) w1 w2) (e2 : Newer w1 fx fx2) (e3 : Newer w1 dp dp2) (hs : actF o1 (zl.map (ts s.c)) zk zn s = s2) => (by
    have hk : Ok (K + 1) s2 := by rw [← hs, ← HACT.out]; exact act_ok HOK.out
    obtain ⟨q1, q2⟩ := hB1.step h1 m1 e1 h2 m2 e2 e3 hk
    rw [HACT.out, hs]
    exact ⟨_, _, _, _, q1, HWX.out.trans q2⟩ : After n0 w w2 b bc bf r bs (K + 1) (actS ⟨zk, za, zm, zcap, zl, zn⟩ s)))
  have HB1 := hidden hB1
  clear hB1 hlen hll hnew
  generalize hoI : (o1 : Int) = oI at *
  rcases hway with ⟨hz0, hz1⟩ | ⟨g, rfl, hz0, hz2, hz1⟩
  case' inl =>
    rw [← hz1, hoI]
    subst hz0
    clear hz1 A1
  case' inr =>
    obtain ⟨m', rfl⟩ : ∃ m', zm = m' + 1 := ⟨zm - 1, by omega⟩
    clear A1
  all_goals
    by_cases hk1 : zk = 1
    · have HF := hidden (show actF o1 (zl.map (ts s.c)) zk zn s = comeS o1 s by unfold actF; rw [if_pos hk1])
      clear K2 K2' K3 K3'
      rw [hk1] at u2
      go_wp2_with fail
      refine Calls.mono K1.out ?_
      rintro e w1 ⟨v1, rfl, hC1, hM1, hN1⟩
      have C2 := hidden (K1'.out _ hM1)
      have FF := hidden (fun w2 fx2 dp2 P2 h2 m2 e2 e3 => FIN.out w1 w2 v1 fx2 dp2 P2 (comeS o1 s) hC1 hM1 hN1 h2 m2 e2 e3 HF.out)
      clear hC1 hM1 hN1
      go_wp2_with fail
      refine Calls.mono C2.out ?_
      rintro e w2 ⟨fx2, dp2, P2, rfl, hR2, hM2, e2, e3⟩
      have FN := hidden (FF.out _ _ _ _ hR2 hM2 e2 e3)
      clear hR2 hM2 e2 e3
      go_wp2
      go_ret
      exact ⟨by simp, FN.out⟩
    · have hb1 : (zk == 1) = false := by simpa using hk1
      by_cases hk2 : zk = 2
      · have HF := hidden (show actF o1 (zl.map (ts s.c)) zk zn s = dropS o1 s by unfold actF; rw [if_neg hk1, if_pos hk2])
        clear K1 K1' K3 K3'
        rw [hk2] at u2
        go_wp2_with fail
        refine Calls.mono K2.out ?_
        rintro e w1 ⟨rfl, hC1, hM1⟩
        have C2 := hidden (K2'.out _ hM1)
        have FF := hidden (fun w2 h2 m2 => FIN.out w1 w2 v fx dp P (dropS o1 s) hC1 hM1 (Newer.refl _ _) h2 m2 (Newer.refl _ _) (Newer.refl _ _) HF.out)
        clear hC1 hM1
        go_wp2_with fail
        refine Calls.mono C2.out ?_
        rintro e w2 ⟨rfl, hR2, hM2⟩
        have FN := hidden (FF.out _ hR2 hM2)
        clear hR2 hM2
        go_wp2
        go_ret
        exact ⟨by simp, FN.out⟩
      · have hb2 : (zk == 2) = false := by simpa using hk2
        by_cases hk3 : zk = 3
        · have HF := hidden (show actF o1 (zl.map (ts s.c)) zk zn s = fixAll (zl.map (ts s.c)) s by unfold actF; rw [if_neg hk1, if_neg hk2, if_pos hk3])
          clear K1 K1' K2 K2'
          rw [hk3] at u2
          go_wp2_with fail
          refine Calls.mono K3.out ?_
          rintro e w1 ⟨rfl, hC1, hM1⟩
          have C2 := hidden (K3'.out _ hM1)
          have FF := hidden (fun w2 fx2 P2 h2 m2 e2 => FIN.out w1 w2 v fx2 dp P2 (fixAll (zl.map (ts s.c)) s) hC1 hM1 (Newer.refl _ _) h2 m2 e2 (Newer.refl _ _) HF.out)
          clear hC1 hM1
          go_wp2_with fail
          refine Calls.mono C2.out ?_
          rintro e w2 ⟨fx2, P2, rfl, hR2, hM2, e2⟩
          have FN := hidden (FF.out _ _ _ hR2 hM2 e2)
          clear hR2 hM2 e2
          go_wp2
          go_ret
          exact ⟨by simp, FN.out⟩
        · have hb3 : (zk == 3) = false := by simpa using hk3
          clear K1 K1' K2 K2' K3 K3'
          by_cases hk4 : zk = 4
          · have HF4 := hidden (show actF o1 (zl.map (ts s.c)) zk zn s = (if timeOk zn = true then heardS zn s else s) by unfold actF; rw [if_neg hk1, if_neg hk2, if_neg hk3, if_pos hk4])
            rw [hk4] at u2
            have HD : Hid (∀ X, Below X1.heap.size X1 X → X.cell? ⟨w.heap.size, 2, none⟩ = some (.int .i64 zn)) := fun X hX => (hX.cell (p := ⟨w.heap.size, 2, none⟩) (cell_lt u4)).trans u4
            cases hto : timeOk zn with
            | false =>
              have H1 : Hid (∀ X, Below X1.heap.size X1 X → Calls Tryd.prog 20 #[.pointer (some ⟨b, 0, none⟩), .int .i64 zn] X fun e w' => e = .returned (.int .i64 1) ∧ X = w') := fun X hX => Heard_no (HB1.out.later hX).cd zn hto
              have H2 : Hid (∀ X, Below X1.heap.size X1 X → Calls Tryd.prog 39 #[.pointer (some ⟨r, 0, none⟩), .int .i64 zn] X fun e w' => e = .returned (.int .i64 1) ∧ X = w') := fun X hX => r_heard_no zn hto X _
              have FN := hidden (fun (X : World) (hX : Below X1.heap.size X1 X) => (by
                have hs : actF o1 (zl.map (ts s.c)) zk zn s = s := by rw [HF4.out, hto, if_neg (by decide)]
                exact FIN.out X X v fx dp P s (HB1.out.later hX).cd (Mod.of_below hX) (Newer.refl _ _) (HB1.out.later hX).rf (Mod.refl _ _) (Newer.refl _ _) (Newer.refl _ _) hs : After n0 w X b bc bf r bs (K + 1) (actS ⟨zk, za, _, zcap, zl, zn⟩ s)))
              clear hto
              go_wp2_with fail
              go_region_held3 (fun X => X.cell? ⟨w.heap.size, 2, none⟩ = some (.int .i64 zn)) (exact HD.out _ (below_drew (Below.refl _ _)))
                (first
                  | (go_at_call 20; refine Calls.mono (H1.out _ (below_drew (Below.refl _ _))) ?_; rintro e w' ⟨rfl, rfl⟩)
                  | (go_at_call 39; refine Calls.mono (H2.out _ (below_drew (Below.refl _ _))) ?_; rintro e w' ⟨rfl, rfl⟩))
              all_goals
                go_wp2
                go_ret
                exact ⟨by simp, FN.out _ (below_drew (Below.refl _ _))⟩
            | true =>
              have hn6 : s.n ≤ 1000000 := by have := HOK.out.nk; omega
              have H1 : Hid (∀ X, Below X1.heap.size X1 X → Calls Tryd.prog 20 #[.pointer (some ⟨b, 0, none⟩), .int .i64 zn] X fun e w' => e = .returned (.int .i64 0) ∧ w'.cell? ⟨w.heap.size, 2, none⟩ = some (.int .i64 zn) ∧ Cd n0 w' b bc bf v (heardS zn s) ∧ Mod (FC b bc bf v) X1 w') := fun X hX =>
                (Heard_ (HB1.out.later hX).cd zn hto HOK.out.n0 hn6 ⟨HOK.out.d0, HOK.out.d1⟩).mono (by
                  rintro e w' ⟨rfl, h1, m1⟩
                  exact ⟨rfl, m1.cell (HD.out X hX) (fun hk => by have := HLT.out.1 _ hk; have e9 : w.heap.size < w.heap.size := this; omega), h1, (Mod.of_below hX).trans m1 (fun x hx => .inl hx)⟩)
              have H2 : Hid (∀ X, Mod (FC b bc bf v) X1 X → Calls Tryd.prog 39 #[.pointer (some ⟨r, 0, none⟩), .int .i64 zn] X fun e w' => e = .returned (.int .i64 0) ∧ w'.cell? ⟨w.heap.size, 2, none⟩ = some (.int .i64 zn) ∧ Rf n0 w' r bs fx dp P (heardS zn s) ∧ Mod (FD r bs fx dp) X w') := fun X hX =>
                (r_heard (HB1.out.mid hX) zn hto HOK.out.n0 hn6 ⟨HOK.out.d0, HOK.out.d1⟩).mono (by
                  rintro e w' ⟨rfl, h1, m1⟩
                  exact ⟨rfl, m1.cell (hX.cell u4 (fun hk => by have := HLT.out.1 _ hk; have e9 : w.heap.size < w.heap.size := this; omega)) (fun hk => by have := HLT.out.2 _ hk; have e9 : w.heap.size < w.heap.size := this; omega), h1, m1⟩)
              have FN := hidden (fun (Y Z : World) h1 m1 h2 m2 => FIN.out Y Z v fx dp P (heardS zn s) h1 m1 (Newer.refl _ _) h2 m2 (Newer.refl _ _) (Newer.refl _ _) (by rw [HF4.out, hto, if_pos rfl]))
              clear hto
              go_wp2_with fail
              go_region_held3 (fun X => X.cell? ⟨w.heap.size, 2, none⟩ = some (.int .i64 zn)) (first | exact HD.out _ (below_drew (Below.refl _ _)) | assumption)
                (first
                  | (go_at_call 20; refine Calls.mono (H1.out _ (below_drew (Below.refl _ _))) ?_; rintro e y1 ⟨rfl, hcy1, hC1, hM1⟩)
                  | (go_at_call 39; refine Calls.mono (H2.out _ hM1) ?_; rintro e y2 ⟨rfl, hcy2, hR2, hM2⟩))
              all_goals
                have FF := hidden (FN.out _ _ hC1 hM1 hR2 hM2)
                clear hC1 hM1 hR2 hM2
                go_wp2
                go_ret
                exact ⟨by simp, FF.out⟩
          · have hb4 : (zk == 4) = false := by simpa using hk4
            by_cases hk5 : zk = 5
            · have HF5 : actF o1 (zl.map (ts s.c)) zk zn s = (if mostOk zn = true then repS s else s) := by unfold actF; rw [if_neg hk1, if_neg hk2, if_neg hk3, if_neg hk4, if_pos hk5]
              rw [hk5] at u2
              have KR : ∃ (kd cu : Int) (wn : Int → Int) (Xs Ys : List (Nat × Nat)) (Ds : List Nat) (E : Int) (v1 dp1 : Value) (s2 : St), Hid (actF o1 (zl.map (ts s.c)) zk zn s = s2 ∧ (∀ k, v1.ownBlock = some k → v.ownBlock = some k) ∧ (∀ k, dp1.ownBlock = some k → dp.ownBlock = some k)) ∧
                  Hid (∀ win : Int, Calls Tryd.prog 14 #[.pointer (some ⟨b, 0, none⟩), .int .u32 win, .int .i64 zn] X1 fun e w' => ∃ V, e = .returned (.tuple #[V, .int .i64 E]) ∧ Rg_ X1.heap.size w' kd cu (wn win) Xs Ys Ds V ∧ Cd n0 w' b bc bf v1 s2 ∧ Mod (FC b bc bf v) X1 w') ∧
                  Hid (∀ (win : Int) (Y : World), Mod (FC b bc bf v) X1 Y → Calls Tryd.prog 40 #[.pointer (some ⟨r, 0, none⟩), .int .u32 win, .int .i64 zn] Y fun e w' => ∃ V, e = .returned (.tuple #[V, .int .i64 E]) ∧ Rg_ Y.heap.size w' kd cu (wn win) Xs Ys Ds V ∧ Rf n0 w' r bs fx dp1 P s2 ∧ Mod (FD r bs fx dp) Y w') := by
                cases hmo : mostOk zn with
                | true =>
                  refine ⟨if s.nr = true then 16 else 3, s.c, fun x => x, gapsR s zn, nrR s zn, s.D.take zn.toNat, 0, zsl, zsl, repS s, ⟨by rw [HF5, hmo, if_pos rfl], fun k hk => (by cases hk), fun k hk => (by cases hk)⟩, fun win => ?_, fun win Y hY => ?_⟩
                  · exact (Report_ok HB1.out.cd HOK.out win zn hmo).mono (by rintro e w' ⟨V, rfl, h1, h2, h3⟩; exact ⟨V, rfl, h1, h2, h3⟩)
                  · exact (r_rep_ok (HB1.out.mid hY) HOK.out win zn hmo).mono (by rintro e w' ⟨V, rfl, h1, h2, h3⟩; exact ⟨V, rfl, h1, h2, h3⟩)
                | false =>
                  refine ⟨0, 0, fun _ => 0, [], [], [], 1, v, dp, s, ⟨by rw [HF5, hmo, if_neg (by decide)], fun k hk => hk, fun k hk => hk⟩, fun win => ?_, fun win Y hY => ?_⟩
                  · exact (Report_no HB1.out.cd win zn hmo).mono (by rintro e w' ⟨rfl, hB⟩; exact ⟨_, rfl, Rg_.zero _ _, HB1.out.cd.later hB, Mod.of_below hB⟩)
                  · exact (r_rep_no win zn hmo Y _).mono (by rintro e w' ⟨rfl, hB⟩; exact ⟨_, rfl, Rg_.zero _ _, (HB1.out.mid hY).later hB, Mod.of_below hB⟩)
              obtain ⟨kd, cu, wn, Xs, Ys, Ds, E, v1, dp1, s2, HS2, R1, R2⟩ := KR
              clear HF5
              go_wp2_with fail
              refine Calls.mono (R1.out _) ?_
              rintro e w1 ⟨V1, rfl, hV1, hC1, hM1⟩
              obtain ⟨Y1, st1, hBY1, cs1, rfl, hcs1, ld1⟩ := hV1.put
              have HS1 := hidden st1
              have hMY1 : Mod (FC b bc bf v) X1 Y1 := hM1.trans (Mod.of_below (F := FC b bc bf v) hBY1) (fun x hx => .inl hx)
              have HMY := hidden hMY1
              have HCY := hidden (hC1.later hBY1)
              have HVY := hidden (hV1.later hBY1)
              have HCS := hidden hcs1
              have HLD1 := hidden ld1
              have HSZ := hidden (Nat.le_trans (Nat.le_trans HBW.out.size HX1.out.size) hM1.size)
              have q4 : Y1.cell? ⟨w.heap.size, 2, none⟩ = some (.int .i64 zn) := hMY1.cell u4 (fun hk => by have := HLT.out.1 _ hk; have e9 : w.heap.size < w.heap.size := this; omega)
              clear st1 hBY1 hcs1 ld1 hC1 hM1 hV1 hMY1 u0 u1 u2 u3 u4
              go_wp2_with (first | (refine wpList_alA rfl 46 rfl (alloc_ch _) ?_) | (refine wpList_stA rfl 46 _ _ rfl rfl rfl rfl HS1.out ?_) | fail)
              refine Calls.mono (R2.out _ _ HMY.out) ?_
              rintro e w2 ⟨V2, rfl, hV2, hR2, hM2⟩
              obtain ⟨Y2, st2, hBY2, cs2, rfl, hcs2, ld2⟩ := hV2.put
              have HS2b := hidden st2
              have hnf : ∀ k, w.heap.size ≤ k → ¬ FD r bs fx dp k := fun k hk hf => by have := HLT.out.2 k hf; omega
              have h1 := (hM2.has HCS.out (hnf _ HSZ.out)).later hBY2
              have L1 := hidden (HLD1.out Y2 h1)
              have L2 := hidden (ld2 Y2 hcs2)
              have SR := hidden (same_rep (((HVY.out.mod hM2 (fun k hk => hnf k (by have := HBW.out.size; have := HX1.out.size; omega))).later hBY2).sr) ((hV2.later hBY2).sr))
              have FF := hidden (fun (Z : World) (hZ : Below Y2.heap.size Y2 Z) => FIN.out Y1 Z v1 fx dp1 P s2 HCY.out HMY.out (fun k hk => .inl (HS2.out.2.1 k hk)) (hR2.later (hBY2.trans (hZ.mono hBY2.size))) (hM2.trans (Mod.of_below (F := FD r bs fx dp) (hBY2.trans (hZ.mono hBY2.size))) (fun x hx => .inl hx)) (Newer.refl _ _) (fun k hk => .inl (HS2.out.2.2 k hk)) HS2.out.1)
              clear hV2 hR2 hM2 st2 hBY2 hcs2 ld2 h1 q4
              go_wp2_with (first | (refine wpList_alA rfl 46 rfl (alloc_ch _) ?_) | (refine wpList_stA rfl 46 _ _ rfl rfl rfl rfl HS2b.out ?_) | (refine wpList_ldA rfl 46 _ rfl rfl L1.out ?_) | (refine wpList_ldA rfl 46 _ rfl rfl L2.out ?_) | fail)
              refine Calls.mono SR.out ?_
              rintro e Z ⟨rfl, hZ⟩
              have FN := hidden (FF.out Z hZ)
              clear hZ
              go_wp2
              go_ret
              exact ⟨by simp, FN.out⟩
            · have hb5 : (zk == 5) = false := by simpa using hk5
              have HF6 : actF o1 (zl.map (ts s.c)) zk zn s = s := by unfold actF; rw [if_neg hk1, if_neg hk2, if_neg hk3, if_neg hk4, if_neg hk5]
              have H1 := fun m => Has_ (HB1.out.later (below_drewN (Below.refl _ _) m)).cd o1 HO1.out
              have H2 := fun m => rHas o1 HO1.out (X1.drewN m) (HB1.out.later (below_drewN (Below.refl _ _) m)).rf.a
              have G1 : Hid (∀ m, Calls Tryd.prog 30 #[.pointer (some ⟨b, 0, none⟩), .int .u32 (o1 : Int)] (X1.drewN m) fun e w' => e = .returned (.bool (isIn s.c s.L o1)) ∧ w' = X1.drewN m) := fun m => (H1 m).mono fun e w' k => ⟨k.1, k.2.symm⟩
              have G2 : Hid (∀ m, Calls Tryd.prog 42 #[.pointer (some ⟨bs, 0, none⟩), .int .u32 (o1 : Int)] (X1.drewN m) fun e w' => e = .returned (.bool (isIn s.c s.L o1)) ∧ w' = X1.drewN m) := fun m => (H2 m).mono fun e w' k => ⟨k.1, k.2.symm⟩
              rw [hoI] at G1 G2
              have FN := hidden (fun (m : Nat) => FIN.out (X1.drewN m) (X1.drewN m) v fx dp P s (HB1.out.later (below_drewN (Below.refl _ _) m)).cd (Mod.of_below (below_drewN (Below.refl _ _) m)) (Newer.refl _ _) (HB1.out.later (below_drewN (Below.refl _ _) m)).rf (Mod.refl _ _) (Newer.refl _ _) (Newer.refl _ _) HF6)
              clear H1 H2 HF6
              generalize isIn s.c s.L o1 = B at *
              go_wp2_with fail
              go_quiet (first | (go_at_call 30; exact Calls.quiet_of_same (G1.out _)) | (go_at_call 42; exact Calls.quiet_of_same (G2.out _)))
              go_wp2
              go_ret
              exact ⟨by simp, FN.out _⟩
end
end Go.Proofs.YtdifceikfnnfeaaDoor.Sp.Inb
