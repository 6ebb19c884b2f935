/-
  The document's Encode of a packet.
  Conditions: the numbers lie within their kinds, the cells hold them.
-/
import Derived.Test.YtmnndkhdekpecaaGreatDoorPkB
import Derived.Test.YtmnndkhdekpecaaGreatDoorPkC
import Derived.Test.YtmnndkhdekpecaaGreatDoorParE
import Derived.Test.YtmnndkhdekpecaaGreatDoorCx
namespace Go.Proofs.YtmnndkhdekpecaaGreatDoor.Pkt
open Go.ChangeShapes Go.WideShapes Go.ChangeAt Go.RowKit
open Chu (Ch Ck Cks Chk val cv cc ld tot encA EncR)
open Par (hidden Bytes Row cell_lt)
set_option linter.unusedVariables false
set_option maxRecDepth 20000

theorem rFour (n : Int) (h0 : 0 ≤ n) (h1 : n < 4294967296) (w : World) :
    Calls Tryz.prog 32 #[.int .u32 n] w fun e w' => e = .returned (.slice (some ⟨w.heap.size, 0, none⟩) 4 4) ∧ w' = w.alloc (.cells #[.int .u8 (n / 16777216), .int .u8 (n / 65536 % 256), .int .u8 (n / 256 % 256), .int .u8 (n % 256)] 5) := by
  go_enter Tryz.func32, Tryz.ntmps32
  go_wp2
  go_ret
  exact ⟨rfl, rfl⟩
/-- steps, one behind the other -/
def StN {X : Type} (cs : List Nat) (A : Nat → X → World → Prop) (x : X) (L : Nat → Bool) (w : World) : Prop :=
  ∃ k, k ≤ cs.length ∧ (∀ (j c : Nat), cs[j]? = some c → (L c = true ↔ j < k)) ∧ A k x w
section
variable {X : Type} {cs : List Nat} {A : Nat → X → World → Prop} {x : X} {L L' : Nat → Bool} {w : World}
theorem StN.ext {n : Nat} (hc : cs.all (fun c => decide (c < n)) = true) (hL : ∀ j, j < n → L j = L' j) (h : StN cs A x L w) : StN cs A x L' w := by
  obtain ⟨k, h1, h2, h3⟩ := h
  refine ⟨k, h1, fun j c hj => ?_, h3⟩
  rw [← hL c (of_decide_eq_true (List.all_eq_true.1 hc c (List.mem_of_getElem? hj)))]
  exact h2 j c hj
theorem StN.keep {i : Nat} (hi : cs.contains i = false) (h : StN cs A x L w) : StN cs A x (Ord.upd L i) w := by
  obtain ⟨k, h1, h2, h3⟩ := h
  refine ⟨k, h1, fun j c hj => ?_, h3⟩
  have hne : decide (c = i) = false := decide_eq_false fun e => by
    subst e
    rw [← Bool.not_eq_true, List.contains_iff_mem] at hi
    exact hi (List.mem_of_getElem? hj)
  rw [upd_ne L hne]
  exact h2 j c hj
theorem StN.stage {i k : Nat} (hk : cs[k]? = some i) (hi : L i = false) (hp : k = 0 ∨ ∃ c, cs[k - 1]? = some c ∧ L c = true) (h : StN cs A x L w) : k ≤ cs.length ∧ (∀ (j c : Nat), cs[j]? = some c → (L c = true ↔ j < k)) ∧ A k x w := by
  obtain ⟨k', h1, h2, h3⟩ := h
  have a1 : ¬ k < k' := fun h => by rw [(h2 k i hk).2 h] at hi; cases hi
  have a2 : k ≤ k' := by
    rcases hp with rfl | ⟨c, hc, hl⟩
    · exact Nat.zero_le _
    · have := (h2 (k - 1) c hc).1 hl
      omega
  obtain rfl : k' = k := by omega
  exact ⟨h1, h2, h3⟩
theorem StN.at {i k : Nat} (h : StN cs A x L w) (hk : cs[k]? = some i) (hi : L i = false) (hp : k = 0 ∨ ∃ c, cs[k - 1]? = some c ∧ L c = true) : A k x w := (h.stage hk hi hp).2.2
theorem StN.next {i k : Nat} {x' : X} {w' : World} (h : StN cs A x L w) (hk : cs[k]? = some i) (hn : cs.Nodup) (hi : L i = false) (hp : k = 0 ∨ ∃ c, cs[k - 1]? = some c ∧ L c = true) (hA : A (k + 1) x' w') : StN cs A x' (Ord.upd L i) w' := by
  obtain ⟨h1, h2, _⟩ := h.stage hk hi hp
  have hkl := (List.getElem?_eq_some_iff.1 hk).1
  refine ⟨k + 1, by omega, fun j c hj => ?_, hA⟩
  by_cases e : c = i
  · subst e
    have hjk : j = k := by
      have hjl := (List.getElem?_eq_some_iff.1 hj).1
      exact (List.getElem?_inj hjl hn).1 (hj.trans hk.symm)
    subst hjk
    rw [upd_same]
    exact ⟨fun _ => by omega, fun _ => rfl⟩
  · rw [upd_ne L (decide_eq_false e), h2 j c hj]
    have hjk : j ≠ k := fun e2 => by
      subst e2
      rw [hk] at hj
      exact e (Option.some.inj hj).symm
    omega
end
def b2 (n : Int) : List Int := [n / 256, n % 256]
def bb4 (g : Int) : List Int := [g / 16777216, g / 65536 % 256, g / 256 % 256, g % 256]
/-- what stands behind so many steps -/
def EnA (W : World) (p : Pk) (k : Nat) (x : Value × Value × Value × Value × Value) (w : World) : Prop :=
  Below W.heap.size W w ∧ (k = 1 ∨ k = 2 → w.ownsRow W.heap.size 5 1 x.1 2 (Par.cs (b2 p.f))) ∧ (k = 2 → ∃ g, x.2.1 = .slice (some ⟨g, 0, none⟩) 2 2 ∧ Row 0 w (some ⟨g, 0, none⟩) 2 (b2 p.t)) ∧
    (k = 3 ∨ k = 4 → w.ownsRow W.heap.size 5 1 x.2.2.1 4 (Par.cs (b2 p.f ++ b2 p.t))) ∧ (k = 4 → ∃ g, x.2.2.2.1 = .slice (some ⟨g, 0, none⟩) 4 4 ∧ Row 0 w (some ⟨g, 0, none⟩) 4 (bb4 p.g)) ∧
    (k = 5 → w.ownsRow W.heap.size 5 1 x.2.2.2.2 8 (Par.cs (b2 p.f ++ b2 p.t ++ bb4 p.g)))
theorem b2_bytes {n : Int} (h : 0 ≤ n ∧ n < 65536) : Bytes (b2 n) := by
  intro m hm
  simp only [b2, List.mem_cons, List.not_mem_nil, or_false] at hm
  rcases hm with rfl | rfl <;> omega
theorem bb4_bytes {n : Int} (h : 0 ≤ n ∧ n < 4294967296) : Bytes (bb4 n) := by
  intro m hm
  simp only [bb4, List.mem_cons, List.not_mem_nil, or_false] at hm
  rcases hm with rfl | rfl | rfl | rfl <;> omega
theorem EnA.bel {W : World} {p : Pk} {cs : List Nat} {x : Value × Value × Value × Value × Value} {L : Nat → Bool} {w : World} (h : StN cs (EnA W p) x L w) : Below W.heap.size W w := by
  obtain ⟨k, _, _, h⟩ := h
  exact h.1
section
variable {W w : World} {p : Pk} {x : Value × Value × Value × Value × Value} {base : Nat}
theorem EnA.s0 (h : EnA W p 0 x w) (hp : PkOk base W p) : EnA W p 1 (.slice (some ⟨w.heap.size, 0, none⟩) 2 2, x.2) (w.alloc (.cells #[.int .u8 (p.f / 256), .int .u8 (p.f % 256)] 5)) := by
  have hb := below_new w (.cells #[.int .u8 (p.f / 256), .int .u8 (p.f % 256)] 5)
  refine ⟨h.1.trans (hb.mono h.1.size), fun _ => ?_, (fun e => by cases e), (fun e => by omega), (fun e => by cases e), (fun e => by cases e)⟩
  exact World.ownsRow_lit w #[.int .u8 (p.f / 256), .int .u8 (p.f % 256)] 2 h.1.size (by decide) rfl
theorem EnA.s1 (h : EnA W p 1 x w) (hp : PkOk base W p) : EnA W p 2 (x.1, .slice (some ⟨w.heap.size, 0, none⟩) 2 2, x.2.2) (w.alloc (.cells #[.int .u8 (p.t / 256), .int .u8 (p.t % 256)] 5)) := by
  have hb := below_new w (.cells #[.int .u8 (p.t / 256), .int .u8 (p.t % 256)] 5)
  refine ⟨h.1.trans (hb.mono h.1.size), fun _ => Par.own_later (h.2.1 (.inl rfl)) hb, fun _ => ⟨_, rfl, ?_⟩, (fun e => by omega), (fun e => by cases e), (fun e => by cases e)⟩
  exact row_at w (b2 p.t) _ 2 rfl rfl (b2_bytes hp.2.1) (by simp [b2]) 0 (Nat.zero_le _) _ rfl
theorem EnA.s2 (h : EnA W p 2 x w) (ty : TypeId) : ∃ v' w', (Builtin.append_ #[27, 27] ty #[x.1, x.2.1]).run Tryz.prog w = .ok v' w' ∧ EnA W p 3 (x.1, x.2.1, v', x.2.2.2) w' := by
  obtain ⟨i0, hi, hz0, hz1, hz2⟩ := info_parts Par.info5
  obtain ⟨g, hg, hr⟩ := h.2.2.1 rfl
  have hown := h.2.1 (.inr rfl)
  obtain ⟨v', w', h1, h2, h3, _⟩ := run_append_own (P := Tryz.prog) w W.heap.size 27 ty 5 i0 (.int .u8 0) 1 1 Tryz.underlying27 hi hz0 hz1 hz2 rfl (by decide) _ _ _ hown ⟨g, 0, none⟩ 2 2 (Par.cs (b2 p.t)) rfl hr.news (Par.cs_one _) (by unfold maxLen; omega) (by omega) h.1.size
  rw [← hg] at h1
  refine ⟨v', w', h1, h.1.grown h3 h.1.size (fun k hk => (hown.lt k hk).1), (fun e => by omega), (fun e => by cases e), fun _ => ?_, (fun e => by cases e), (fun e => by cases e)⟩
  rw [Par.cs_append]
  exact h2
theorem EnA.s3 (h : EnA W p 3 x w) (hp : PkOk base W p) : EnA W p 4 (x.1, x.2.1, x.2.2.1, .slice (some ⟨w.heap.size, 0, none⟩) 4 4, x.2.2.2.2) (w.alloc (.cells #[.int .u8 (p.g / 16777216), .int .u8 (p.g / 65536 % 256), .int .u8 (p.g / 256 % 256), .int .u8 (p.g % 256)] 5)) := by
  have hb := below_new w (.cells #[.int .u8 (p.g / 16777216), .int .u8 (p.g / 65536 % 256), .int .u8 (p.g / 256 % 256), .int .u8 (p.g % 256)] 5)
  refine ⟨h.1.trans (hb.mono h.1.size), (fun e => by omega), (fun e => by cases e), fun _ => Par.own_later (h.2.2.2.1 (.inl rfl)) hb, fun _ => ⟨_, rfl, ?_⟩, (fun e => by cases e)⟩
  exact row_at w (bb4 p.g) _ 4 rfl rfl (bb4_bytes hp.2.2.1) (by simp [bb4]) 0 (Nat.zero_le _) _ rfl
theorem EnA.s4 (h : EnA W p 4 x w) (ty : TypeId) : ∃ v' w', (Builtin.append_ #[27, 27] ty #[x.2.2.1, x.2.2.2.1]).run Tryz.prog w = .ok v' w' ∧ EnA W p 5 (x.1, x.2.1, x.2.2.1, x.2.2.2.1, v') w' := by
  obtain ⟨i0, hi, hz0, hz1, hz2⟩ := info_parts Par.info5
  obtain ⟨g, hg, hr⟩ := h.2.2.2.2.1 rfl
  have hown := h.2.2.2.1 (.inr rfl)
  obtain ⟨v', w', h1, h2, h3, _⟩ := run_append_own (P := Tryz.prog) w W.heap.size 27 ty 5 i0 (.int .u8 0) 1 1 Tryz.underlying27 hi hz0 hz1 hz2 rfl (by decide) _ _ _ hown ⟨g, 0, none⟩ 4 4 (Par.cs (bb4 p.g)) rfl hr.news (Par.cs_one _) (by unfold maxLen; omega) (by omega) h.1.size
  rw [← hg] at h1
  refine ⟨v', w', h1, h.1.grown h3 h.1.size (fun k hk => (hown.lt k hk).1), (fun e => by omega), (fun e => by cases e), (fun e => by omega), (fun e => by cases e), fun _ => ?_⟩
  rw [Par.cs_append]
  exact h2
end
section
variable {a : Act} {o : Oper} {w : World}
theorem e_two {u0 : Value} (x0 : Operand) (h0 : a.eval x0 = u0) (ho : o.op = .call { callee := .value (.func 31), args := #[x0], argTypes := #[22] }) : (execOp a.eval o).run Tryz.prog w = .ok (.enter 31 #[u0]) w := by
  unfold execOp
  rw [ho]
  go_simp
  exact by cases x0 <;> simpa [Act.eval] using h0
theorem e_four {u0 : Value} (x0 : Operand) (h0 : a.eval x0 = u0) (ho : o.op = .call { callee := .value (.func 32), args := #[x0], argTypes := #[23] }) : (execOp a.eval o).run Tryz.prog w = .ok (.enter 32 #[u0]) w := by
  unfold execOp
  rw [ho]
  go_simp
  exact by cases x0 <;> simpa [Act.eval] using h0
theorem q_fp0 {B : Nat} (x : Operand) (hu : a.eval x = .pointer (some ⟨B, 0, none⟩)) (ho : o.op = .fieldAddr 26 x 0) : (execOp a.eval o).run Tryz.prog w = .ok (.value (.pointer (some ⟨B, 0, none⟩))) w := by
  unfold execOp
  rw [ho]
  simp only [hu]
  exact Ord.run_v (show (Instr.fieldAt 26 (.pointer (some ⟨B, 0, none⟩)) 0).run Tryz.prog w = .ok (.pointer (some ⟨B, 0, none⟩)) w by simp [go_sem])
theorem q_fp1 {B : Nat} (x : Operand) (hu : a.eval x = .pointer (some ⟨B, 0, none⟩)) (ho : o.op = .fieldAddr 26 x 1) : (execOp a.eval o).run Tryz.prog w = .ok (.value (.pointer (some ⟨B, 1, none⟩))) w := by
  unfold execOp
  rw [ho]
  simp only [hu]
  exact Ord.run_v (show (Instr.fieldAt 26 (.pointer (some ⟨B, 0, none⟩)) 1).run Tryz.prog w = .ok (.pointer (some ⟨B, 1, none⟩)) w by simp [go_sem])
theorem q_fp2 {B : Nat} (x : Operand) (hu : a.eval x = .pointer (some ⟨B, 0, none⟩)) (ho : o.op = .fieldAddr 26 x 2) : (execOp a.eval o).run Tryz.prog w = .ok (.value (.pointer (some ⟨B, 2, none⟩))) w := by
  unfold execOp
  rw [ho]
  simp only [hu]
  exact Ord.run_v (show (Instr.fieldAt 26 (.pointer (some ⟨B, 0, none⟩)) 2).run Tryz.prog w = .ok (.pointer (some ⟨B, 2, none⟩)) w by simp [go_sem])
theorem q_ld16 {q : Addr} {n : Int} (x : Operand) (hu : a.eval x = .pointer (some q)) (ho : o.op = .load 22 x) (hc : w.cell? q = some (.int .u16 n)) : (execOp a.eval o).run Tryz.prog w = .ok (.value (.int .u16 n)) w := by
  unfold execOp
  rw [ho]
  simp only [hu]
  exact Ord.run_v (show (Instr.loadAt 22 (.pointer (some q))).run Tryz.prog w = .ok (.int .u16 n) w by simp [go_sem, hc])
theorem q_ld32 {q : Addr} {n : Int} (x : Operand) (hu : a.eval x = .pointer (some q)) (ho : o.op = .load 23 x) (hc : w.cell? q = some (.int .u32 n)) : (execOp a.eval o).run Tryz.prog w = .ok (.value (.int .u32 n)) w := by
  unfold execOp
  rw [ho]
  simp only [hu]
  exact Ord.run_v (show (Instr.loadAt 23 (.pointer (some q))).run Tryz.prog w = .ok (.int .u32 n) w by simp [go_sem, hc])
theorem q_ap {w' : World} {u v r : Value} (x y : Operand) (h0 : a.eval x = u) (h1 : a.eval y = v) (ho : o.op = .call { callee := .builtin .append, args := #[x, y], argTypes := #[27, 27] }) (hr : (Builtin.append_ #[27, 27] o.type #[u, v]).run Tryz.prog w = .ok r w') : (execOp a.eval o).run Tryz.prog w = .ok (.value r) w' := by
  have e : execOp a.eval o = (do pure (.value (← Builtin.append_ #[27, 27] o.type #[a.eval x, a.eval y]))) := by
    unfold execOp
    rw [ho]
    simp [resolve, invoke, builtin]
  rw [e, h0, h1]
  exact Ord.run_v hr
theorem q_as {v : Value} (x : Operand) (hx : a.eval x = v) (ho : o.op = .assign x) : (execOp a.eval o).run Tryz.prog w = .ok (.value v) w := by
  unfold execOp
  rw [ho]
  simp only [hx]
  rfl
end
/-- what the document's Encode tells, in one word -/
def EncE (w w' : World) (p : Pk) (e : Ending) : Prop := ∃ v er, e = .returned (.tuple #[v, .int .i64 er]) ∧ EncO w w' p v er
set_option maxHeartbeats 2000000 in
theorem rEncode_ (base : Nat) (w : World) (p : Pk) (hp : PkOk base w p) (hbm : ∀ c ∈ p.l, c.bl ≤ 140737488351232) :
    Calls Tryz.prog 9 #[pkv p] w fun e w' => EncE w w' p e := by
  have HP := hidden hp
  have hnl := hp.2.2.2.2.1
  have hll : (p.l.map val).length = p.n := by rw [List.length_map]; exact hp.2.2.2.1
  have HLL := hidden hll
  have HBM := hidden hbm
  have hb0 := below_new w (.cells (pkc p) 26)
  have HB0 := hidden hb0
  have HX := hidden (Px.new w p 26)
  obtain ⟨c0, c1, c2, c3⟩ := HX.out
  have MX := hidden (mixed_says base _ p.a p.n p.c p.l (hp.2.2.2.later hb0))
  have EN := hidden (Chu.rEncode base _ p.a p.n p.c p.l (hp.2.2.2.later hb0) hbm)
  clear hp hll hbm hb0
  simp only [pkv, pkc] at *
  by_cases hpf : p.f = 0
  · have HR := hidden (show EncO w (w.alloc (.cells #[.int .u16 p.f, .int .u16 p.t, .int .u32 p.g, .slice p.a p.n p.c] 26)) p (.slice none 0 0) 72 from ⟨.inl ⟨.inl hpf, rfl⟩, fun _ => rfl, fun h => absurd h (by decide), HB0.out⟩)
    rw [hpf] at *
    go_enter Tryz.func9, Tryz.ntmps9
    go_wp2
    go_ret2
    exact ⟨_, _, rfl, HR.out⟩
  have bf : (p.f == 0) = false := by simpa using hpf
  by_cases hpt : p.t = 0
  · have HR := hidden (show EncO w (w.alloc (.cells #[.int .u16 p.f, .int .u16 p.t, .int .u32 p.g, .slice p.a p.n p.c] 26)) p (.slice none 0 0) 72 from ⟨.inl ⟨.inr hpt, rfl⟩, fun _ => rfl, fun h => absurd h (by decide), HB0.out⟩)
    rw [hpt] at *
    go_enter Tryz.func9, Tryz.ntmps9
    go_wp2
    go_ret2
    exact ⟨_, _, rfl, HR.out⟩
  have bt : (p.t == 0) = false := by simpa using hpt
  have HPO := hidden (show p.f ≠ 0 ∧ p.t ≠ 0 from ⟨hpf, hpt⟩)
  clear hpf hpt
  by_cases h0 : p.n = 0
  · have e0 : p.l.map val = [] := List.eq_nil_of_length_eq_zero (by rw [HLL.out, h0])
    have HR := hidden (show EncO w (w.alloc (.cells #[.int .u16 p.f, .int .u16 p.t, .int .u32 p.g, .slice p.a p.n p.c] 26)) p (.slice none 0 0) 73 from ⟨.inr (.inl ⟨HPO.out, e0, rfl⟩), fun _ => rfl, fun h => absurd h (by decide), HB0.out⟩)
    rw [h0] at HR c3 ⊢
    clear e0 c0 c1 c2 c3
    go_enter Tryz.func9, Tryz.ntmps9
    go_wp2
    go_ret2
    exact ⟨_, _, rfl, HR.out⟩
  have i0 : ((p.n : Int) == 0) = false := by simp; omega
  have HNE := hidden (show p.l.map val ≠ [] from fun e => h0 (by rw [← HLL.out, e]; rfl))
  go_enter Tryz.func9, Tryz.ntmps9
  go_wp2_with fail
  refine Calls.mono MX.out ?_
  rintro e w' ⟨tt, rfl, htt, rfl⟩
  have HTT := hidden htt
  clear htt
  cases tt with
  | true =>
    have HMX := hidden (HTT.out.1 rfl)
    have HR := hidden (show EncO w (w.alloc (.cells #[.int .u16 p.f, .int .u16 p.t, .int .u32 p.g, .slice p.a p.n p.c] 26)) p (.slice none 0 0) 74 from ⟨.inr (.inr (.inl ⟨HPO.out, HNE.out, HMX.out, rfl⟩)), fun _ => rfl, fun h => absurd h (by decide), HB0.out⟩)
    go_wp2
    go_ret2
    exact ⟨_, _, rfl, HR.out⟩
  | false =>
    have HMX := hidden (show ¬ Mixed (p.l.map val) from fun h => by simpa using HTT.out.2 h)
    go_wp2_with fail
    generalize hW0 : World.alloc w _ = W0 at *
    clear hW0
    refine Calls.mono EN.out ?_
    rintro e W ⟨v, er, rfl, hE, hbad, hgood, b1⟩
    have HE := hidden hE
    have HBW := hidden (HB0.out.trans (b1.mono HB0.out.size))
    have HXW := hidden (HX.out.later b1)
    clear b1 hE EN MX c0 c1 c2 c3
    obtain ⟨c0, c1, c2, c3⟩ := HXW.out
    by_cases he : er = 0
    · subst he
      obtain ⟨hall, htot⟩ := encR_ok HE.out
      have HALL := hidden hall
      have hvk : ∀ v ∈ p.l.map val, Chu.VOk v := by
        intro v hv
        obtain ⟨c, hc, rfl⟩ := List.mem_map.1 hv
        exact (HP.out.2.2.2.2.2.1 c hc).vok
      have hby := Chu.encA_bytes hvk hall
      obtain ⟨ca, ccap, rfl, hrow, hlc, _, hnn⟩ := Par.row_own (hgood rfl) hby (by rw [Chu.encA_len hall]; omega)
      rw [Chu.encA_len hall] at hrow hlc hnn ⊢
      have HROW := hidden hrow
      have HNN := hidden hnn
      have HBY := hidden hby
      have HPW := hidden (HP.out.later HBW.out)
      clear hgood hbad hrow hlc hnn hby hvk hall HX HB0
      generalize hTT : tot (p.l.map val) = N at *
      have HTN := hidden hTT
      clear hTT
      go_wp2_with fail
      refine Ord.wp_region_ex (X := Value × Value × Value × Value × Value) (by kernel_rfl) 56 (fun x => [(some 31, .pointer (some ⟨w.heap.size, 0, none⟩)), (some 32, .int .u16 p.f), (some 33, x.1), (some 34, .pointer (some ⟨w.heap.size, 1, none⟩)), (some 35, .int .u16 p.t), (some 36, x.2.1), (some 37, x.2.2.1), (some 38, .pointer (some ⟨w.heap.size, 2, none⟩)), (some 39, .int .u32 p.g), (some 40, x.2.2.2.1), (some 41, x.2.2.2.2), (some 6, x.2.2.2.2)]) [some 31, some 32, some 33, some 34, some 35, some 36, some 37, some 38, some 39, some 40, some 41, some 6] rfl (by kernel_rfl) (by rfl) (fun _ => rfl) (by kernel_rfl) (StN [2, 5, 6, 9, 10] (EnA W p)) (fun _ _ _ _ hL h => h.ext (n := 12) (by decide) hL) ?_ ?_ (undef, undef, undef, undef, undef) ?_
      case refine_1 =>
        intro x L i o ac w' ho hi hcl hdep hF hW
        match i, ho, hi, hdep with
        | 0, ho, hi, hdep =>
          cases ho
          have da0 : ac.eval (.tmp 1) = .pointer (some ⟨w.heap.size, 0, none⟩) := hF.old 1 rfl
          exact Ord.ex_value x rfl rfl (q_fp0 _ da0 rfl) rfl (hW.keep (by decide))
        | 1, ho, hi, hdep =>
          cases ho
          have da0 : ac.eval (.tmp 31) = .pointer (some ⟨w.heap.size, 0, none⟩) := hF.2.2.2 0 31 _ rfl (hdep ⟨0, .data⟩ (by simp) rfl)
          exact Ord.ex_value x rfl rfl (q_ld16 _ da0 rfl ((HXW.out.later (EnA.bel hW)).1)) rfl (hW.keep (by decide))
        | 2, ho, hi, hdep =>
          cases ho
          have da0 : ac.eval (.tmp 32) = .int .u16 p.f := hF.2.2.2 1 32 _ rfl (hdep ⟨1, .data⟩ (by simp) rfl)
          have hA := hW.at (k := 0) rfl hi (.inl rfl)
          refine Ord.ex_call x (fun v => (v, x.2)) rfl rfl (e_two _ da0 rfl) (fun _ => rfl) (fun v j hj => match j, hj with | 0, _ => rfl | 1, _ => rfl | 2, hj => absurd hj (by rw [hi]; decide) | 3, _ => rfl | 4, _ => rfl | 5, _ => rfl | 6, _ => rfl | 7, _ => rfl | 8, _ => rfl | 9, _ => rfl | 10, _ => rfl | 11, _ => rfl | _ + 12, _ => rfl) (Calls.mono (Par.rTwo p.f HPW.out.1.1 HPW.out.1.2 w') ?_)
          rintro e w1 ⟨rfl, rfl⟩
          exact ⟨_, rfl, hW.next (k := 0) rfl (by decide) hi (.inl rfl) (EnA.s0 hA HPW.out)⟩
        | 3, ho, hi, hdep =>
          cases ho
          have da0 : ac.eval (.tmp 1) = .pointer (some ⟨w.heap.size, 0, none⟩) := hF.old 1 rfl
          exact Ord.ex_value x rfl rfl (q_fp1 _ da0 rfl) rfl (hW.keep (by decide))
        | 4, ho, hi, hdep =>
          cases ho
          have da0 : ac.eval (.tmp 34) = .pointer (some ⟨w.heap.size, 1, none⟩) := hF.2.2.2 3 34 _ rfl (hdep ⟨3, .data⟩ (by simp) rfl)
          exact Ord.ex_value x rfl rfl (q_ld16 _ da0 rfl ((HXW.out.later (EnA.bel hW)).2.1)) rfl (hW.keep (by decide))
        | 5, ho, hi, hdep =>
          cases ho
          have da0 : ac.eval (.tmp 35) = .int .u16 p.t := hF.2.2.2 4 35 _ rfl (hdep ⟨4, .data⟩ (by simp) rfl)
          have hA := hW.at (k := 1) rfl hi (.inr ⟨2, rfl, hdep ⟨2, .chain⟩ (by simp) rfl⟩)
          refine Ord.ex_call x (fun v => (x.1, v, x.2.2)) rfl rfl (e_two _ da0 rfl) (fun _ => rfl) (fun v j hj => match j, hj with | 0, _ => rfl | 1, _ => rfl | 2, _ => rfl | 3, _ => rfl | 4, _ => rfl | 5, hj => absurd hj (by rw [hi]; decide) | 6, _ => rfl | 7, _ => rfl | 8, _ => rfl | 9, _ => rfl | 10, _ => rfl | 11, _ => rfl | _ + 12, _ => rfl) (Calls.mono (Par.rTwo p.t HPW.out.2.1.1 HPW.out.2.1.2 w') ?_)
          rintro e w1 ⟨rfl, rfl⟩
          exact ⟨_, rfl, hW.next (k := 1) rfl (by decide) hi (.inr ⟨2, rfl, hdep ⟨2, .chain⟩ (by simp) rfl⟩) (EnA.s1 hA HPW.out)⟩
        | 6, ho, hi, hdep =>
          cases ho
          have da0 : ac.eval (.tmp 33) = x.1 := hF.2.2.2 2 33 _ rfl (hdep ⟨2, .data⟩ (by simp) rfl)
          have da1 : ac.eval (.tmp 36) = x.2.1 := hF.2.2.2 5 36 _ rfl (hdep ⟨5, .data⟩ (by simp) rfl)
          have hA := hW.at (k := 2) rfl hi (.inr ⟨5, rfl, hdep ⟨5, .chain⟩ (by simp) rfl⟩)
          obtain ⟨v', w1, hrun, hA1⟩ := EnA.s2 hA 27
          exact Ord.ex_letter x (x.1, x.2.1, v', x.2.2.2) rfl rfl (q_ap _ _ da0 da1 rfl hrun) rfl (fun j hj => match j, hj with | 0, _ => rfl | 1, _ => rfl | 2, _ => rfl | 3, _ => rfl | 4, _ => rfl | 5, _ => rfl | 6, hj => absurd hj (by rw [hi]; decide) | 7, _ => rfl | 8, _ => rfl | 9, _ => rfl | 10, _ => rfl | 11, _ => rfl | _ + 12, _ => rfl) (hW.next (k := 2) rfl (by decide) hi (.inr ⟨5, rfl, hdep ⟨5, .chain⟩ (by simp) rfl⟩) hA1)
        | 7, ho, hi, hdep =>
          cases ho
          have da0 : ac.eval (.tmp 1) = .pointer (some ⟨w.heap.size, 0, none⟩) := hF.old 1 rfl
          exact Ord.ex_value x rfl rfl (q_fp2 _ da0 rfl) rfl (hW.keep (by decide))
        | 8, ho, hi, hdep =>
          cases ho
          have da0 : ac.eval (.tmp 38) = .pointer (some ⟨w.heap.size, 2, none⟩) := hF.2.2.2 7 38 _ rfl (hdep ⟨7, .data⟩ (by simp) rfl)
          exact Ord.ex_value x rfl rfl (q_ld32 _ da0 rfl ((HXW.out.later (EnA.bel hW)).2.2.1)) rfl (hW.keep (by decide))
        | 9, ho, hi, hdep =>
          cases ho
          have da0 : ac.eval (.tmp 39) = .int .u32 p.g := hF.2.2.2 8 39 _ rfl (hdep ⟨8, .data⟩ (by simp) rfl)
          have hA := hW.at (k := 3) rfl hi (.inr ⟨6, rfl, hdep ⟨6, .chain⟩ (by simp) rfl⟩)
          refine Ord.ex_call x (fun v => (x.1, x.2.1, x.2.2.1, v, x.2.2.2.2)) rfl rfl (e_four _ da0 rfl) (fun _ => rfl) (fun v j hj => match j, hj with | 0, _ => rfl | 1, _ => rfl | 2, _ => rfl | 3, _ => rfl | 4, _ => rfl | 5, _ => rfl | 6, _ => rfl | 7, _ => rfl | 8, _ => rfl | 9, hj => absurd hj (by rw [hi]; decide) | 10, _ => rfl | 11, _ => rfl | _ + 12, _ => rfl) (Calls.mono (rFour p.g HPW.out.2.2.1.1 HPW.out.2.2.1.2 w') ?_)
          rintro e w1 ⟨rfl, rfl⟩
          exact ⟨_, rfl, hW.next (k := 3) rfl (by decide) hi (.inr ⟨6, rfl, hdep ⟨6, .chain⟩ (by simp) rfl⟩) (EnA.s3 hA HPW.out)⟩
        | 10, ho, hi, hdep =>
          cases ho
          have da0 : ac.eval (.tmp 37) = x.2.2.1 := hF.2.2.2 6 37 _ rfl (hdep ⟨6, .data⟩ (by simp) rfl)
          have da1 : ac.eval (.tmp 40) = x.2.2.2.1 := hF.2.2.2 9 40 _ rfl (hdep ⟨9, .data⟩ (by simp) rfl)
          have hA := hW.at (k := 4) rfl hi (.inr ⟨9, rfl, hdep ⟨9, .chain⟩ (by simp) rfl⟩)
          obtain ⟨v', w1, hrun, hA1⟩ := EnA.s4 hA 27
          exact Ord.ex_letter x (x.1, x.2.1, x.2.2.1, x.2.2.2.1, v') rfl rfl (q_ap _ _ da0 da1 rfl hrun) rfl (fun j hj => match j, hj with | 0, _ => rfl | 1, _ => rfl | 2, _ => rfl | 3, _ => rfl | 4, _ => rfl | 5, _ => rfl | 6, _ => rfl | 7, _ => rfl | 8, _ => rfl | 9, _ => rfl | 10, hj => absurd hj (by rw [hi]; decide) | 11, hj => absurd (hcl 11 _ rfl hj ⟨10, .data⟩ (by simp) rfl) (by rw [hi]; decide) | _ + 12, _ => rfl) (hW.next (k := 4) rfl (by decide) hi (.inr ⟨9, rfl, hdep ⟨9, .chain⟩ (by simp) rfl⟩) hA1)
        | 11, ho, hi, hdep =>
          cases ho
          have da0 : ac.eval (.tmp 41) = x.2.2.2.2 := hF.2.2.2 10 41 _ rfl (hdep ⟨10, .data⟩ (by simp) rfl)
          exact Ord.ex_value x rfl rfl (q_as _ da0 rfl) rfl (hW.keep (by decide))
      case refine_3 => exact ⟨0, by decide, (fun j c hj => ⟨fun e => Bool.noConfusion e, fun e => absurd e (Nat.not_lt_zero _)⟩), (Below.refl _ _).drew, (fun e => by omega), (fun e => by cases e), (fun e => by omega), (fun e => by cases e), (fun e => by cases e)⟩
      intro x w5 hW
      simp only [Ord.puts, Ord.prs]
      go_simp
      obtain ⟨v1, v2, v3, v4, v5⟩ := x
      obtain ⟨k, hk1, hk2, hA⟩ := hW
      have hk4 := (hk2 4 10 rfl).1 rfl
      obtain rfl : k = 5 := by simp at hk1; omega
      have hown5 := hA.2.2.2.2.2 rfl
      have hb5 := hA.1
      clear hk1 hk2 hk4 hA
      simp only at hown5 ⊢
      obtain ⟨i0, hi, hz0, hz1, hz2⟩ := info_parts Par.info5
      obtain ⟨g5, gc5, rfl, hg5⟩ : ∃ g c, v5 = .slice (some ⟨g, 0, none⟩) 8 c ∧ W.heap.size ≤ g := by
        rcases hown5.2 with ⟨_, h0⟩ | ⟨g, gc, _, hv, hge, _⟩
        · omega
        · exact ⟨g, gc, hv, hge⟩
      have hN4 : 4 ≤ N := by
        rw [← HTN.out]
        obtain ⟨v, hv'⟩ : ∃ v, v ∈ p.l.map val := by
          cases hl : p.l.map val with
          | nil => exact absurd hl HNE.out
          | cons v l => exact ⟨v, List.mem_cons_self ..⟩
        obtain ⟨j, hj, e⟩ := List.getElem_of_mem hv'
        have := Chu.tot_lt (vs := p.l.map val) (i := j) (v := v) (by rw [List.getElem?_eq_getElem hj, e])
        have := Chu.clen_pos v
        omega
      obtain ⟨cb, coff, rfl⟩ : ∃ b off, ca = some ⟨b, off, none⟩ := by
        rcases HROW.out.2.2.2 with h | ⟨b, off, h, _⟩
        · omega
        · exact ⟨b, off, h⟩
      have hs5 := hb5.size
      have hbz := hb5.trans ((below_new w5 (.cells #[.int .u8 0, .int .u8 0, .int .u8 0, .int .u8 0] 5)).mono hs5)
      go_wp2_with (first | (at_builtin; refine wpList_append_own _ rfl (.tmp 42) _ 27 rfl W.heap.size 5 i0 (.int .u8 0) 1 1 Tryz.underlying27 hi hz0 hz1 hz2 rfl (by decide) _ _ _ rfl (hown5.alloc _) ⟨w5.heap.size, 0, none⟩ 4 4 [.int .u8 0, .int .u8 0, .int .u8 0, .int .u8 0] rfl rfl (Par.cells_new w5 #[.int .u8 0, .int .u8 0, .int .u8 0, .int .u8 0] 5) (by simp [Value.oneCell']) ?c3 ?c4 (by simp; omega) ?_) | go_in)
      case c3 => unfold maxLen; omega
      case c4 => omega
      intro v6 w6 hown6 hgr6 _
      have hb6 : Below W.heap.size W w6 := hbz.grown hgr6 hbz.size (fun k hk => by cases hk; exact hg5)
      have hnews := (HROW.out.later hb6).news
      clear hown5 hgr6 hb5 hbz
      obtain ⟨g6, gc6, rfl, hg6⟩ : ∃ g c, v6 = .slice (some ⟨g, 0, none⟩) 12 c ∧ W.heap.size ≤ g := by
        rcases hown6.2 with ⟨_, h0⟩ | ⟨g, gc, _, hv, hge, _⟩
        · omega
        · exact ⟨g, gc, hv, hge⟩
      go_wp2_with (first | (at_builtin; refine wpList_append_own _ rfl (.tmp 44) _ 27 rfl W.heap.size 5 i0 (.int .u8 0) 1 1 Tryz.underlying27 hi hz0 hz1 hz2 rfl (by decide) _ _ _ rfl hown6 ⟨cb, coff, none⟩ N ccap (Par.cs (encA (p.l.map val))) rfl ?d0 hnews (Par.cs_one _) ?d3 ?d4 hb6.size ?_) | go_in)
      case d0 => rw [Par.cs_len, Chu.encA_len HALL.out, HTN.out]; simp
      case d3 => unfold maxLen; omega
      case d4 => omega
      intro v7 w7 hown7 hgr7 _
      have hb7 : Below W.heap.size W w7 := hb6.grown hgr7 hb6.size (fun k hk => by cases hk; exact hg6)
      have epre : Par.cs (b2 p.f ++ (b2 p.t ++ bb4 p.g)) ++ Value.int .u8 0 :: Value.int .u8 0 :: Value.int .u8 0 :: Value.int .u8 0 :: Par.cs (encA (p.l.map val)) = (pre p.f p.t p.g (encA (p.l.map val))).map (Value.int .u8) := by
        simp [pre, hdz, Par.cs, b2, bb4]
      rw [epre] at hown7
      have HPB := hidden (pre_bytes HP.out.1 HP.out.2.1 HP.out.2.2.1 HBY.out)
      obtain ⟨va, vc, rfl, hr7, hcap7, _, _⟩ := Crc.row_own hown7 HPB.out (by omega)
      obtain ⟨vb, voff, rfl⟩ : ∃ vb voff, va = some ⟨vb, voff, none⟩ := by
        rcases hr7.2.2.2 with h | ⟨b, off, h, _⟩
        · omega
        · exact ⟨b, off, h⟩
      have HB7 := hidden (HBW.out.trans (hb7.mono HBW.out.size))
      have HR7 := hidden hr7
      clear hown6 hgr7 hb6 hnews hown7 epre hb7 hr7 c0 c1 c2 c3
      by_cases hlong : 65524 < N
      · have i1 : (65536 : Int) < ((12 + N : Nat) : Int) := by omega
        have HR := hidden (show EncO w w7 p (.slice none 0 0) 2 from ⟨.inr (.inr (.inr (.inr (.inl ⟨HPO.out, HNE.out, HMX.out, HE.out, by rw [HTN.out]; exact hlong, rfl⟩)))), fun _ => rfl, fun h => absurd h (by decide), HB7.out⟩)
        go_wp2
        go_ret2
        exact ⟨_, _, rfl, HR.out⟩
      · have i1 : ¬ (65536 : Int) < ((12 + N : Nat) : Int) := by omega
        have PU := hidden (Crc.rput vb voff (12 + N) vc _ w7 HR7.out (by omega) (by omega))
        go_wp2_with fail
        refine Calls.mono PU.out ?_
        rintro e w8 ⟨v8, rfl, hown8, b8⟩
        have HR := hidden (show EncO w w8 p v8 0 from ⟨.inr (.inr (.inr (.inr (.inr ⟨HPO.out, HNE.out, HMX.out, HE.out, by rw [HTN.out]; omega, rfl⟩)))), fun h => absurd rfl h, fun _ => by rw [HTN.out]; exact own_down hown8 HB7.out.size, HB7.out.trans (b8.mono HB7.out.size)⟩)
        clear hown8 b8
        go_wp2
        go_ret2
        exact ⟨_, _, rfl, HR.out⟩
    · obtain rfl := hbad he
      have hne := Chu.bne_t he
      have HR := hidden (show EncO w W p (.slice none 0 0) er from ⟨.inr (.inr (.inr (.inl ⟨HPO.out, HNE.out, HMX.out, HE.out, he⟩))), fun _ => rfl, fun h => absurd h he, HBW.out⟩)
      clear hgood hbad he
      go_wp2
      go_ret2
      exact ⟨_, _, rfl, HR.out⟩
theorem rEncode (base : Nat) (w : World) (p : Pk) (hp : PkOk base w p) (hbm : ∀ c ∈ p.l, c.bl ≤ 140737488351232) :
    Calls Tryz.prog 9 #[pkv p] w fun e w' => ∃ v er, e = .returned (.tuple #[v, .int .i64 er]) ∧ EncO w w' p v er := rEncode_ base w p hp hbm
end Go.Proofs.YtmnndkhdekpecaaGreatDoor.Pkt
