/-
  The reader of package chunk: a value.
  Conditions: the numbers lie within their kinds, the cells hold them; the bytes lie in the memory of an older world, which the reader does not touch.
-/
import Derived.Test.YtifdkpifambhaaaChO
namespace Go.Proofs.Ytifdkpifambhaaa.Chu
open Go.ChangeShapes Go.WideShapes Go.ChangeAt Go.RowKit
open Par (hidden Bytes Row Prm Prms cell_lt Cap cells_new cutA thrown form_of)
set_option linter.unusedVariables false

/-- the counts are not too high -/
def CntOk (k : Int) (v : List Int) : Prop := cG v ≤ 4096 ∧ cN k v ≤ 4096 ∧ cD k v ≤ 4096
/-- what a value is: the error, or (error 0) the chunk y; x is the chunk with its kind and flags alone -/
def Fil (k : Int) (v : List Int) (x : Ch) (e : Int) (y : Ch) : Prop :=
  if v.length < nb k then e = 61
  else if k = 3 ∨ k = 16 then (¬ CntOk k v ∧ e = 3) ∨ (CntOk k v ∧ v.length ≠ nb k + 4 * (cG v + cN k v + cD k v) ∧ e = 61) ∨ (CntOk k v ∧ v.length = nb k + 4 * (cG v + cN k v + cD k v) ∧ e = 0 ∧ y = repV k v x)
  else if k = 7 then (v.length ≠ 4 ∧ e = 61) ∨ (v.length = 4 ∧ e = 0 ∧ y = { x with tsn := n4 v 0 })
  else if k = 8 ∨ k = 11 ∨ k = 14 then (v.length ≠ 0 ∧ e = 61) ∨ (v.length = 0 ∧ e = 0 ∧ y = x)
  else if k = 1 ∨ k = 2 then ∃ l q c, Par.Out (v.drop 16) l q c ∧ ((c ≠ 0 ∧ e = c) ∨ (c = 0 ∧ e = 0 ∧ y = { x with tag := n4 v 0, win := n4 v 4, out := n2 v 8, inn := n2 v 10, tsn := n4 v 12, ps := l }))
  else if k = 4 ∨ k = 5 then ∃ l q c, Par.Out v l q c ∧ ((c ≠ 0 ∧ e = c) ∨ (c = 0 ∧ ¬ OneBeat l ∧ e = 61) ∨ (c = 0 ∧ OneBeat l ∧ e = 0 ∧ y = { x with ps := l }))
  else if k = 6 ∨ k = 9 then ∃ l q c, Par.Out v l q c ∧ ((c ≠ 0 ∧ e = c) ∨ (c = 0 ∧ e = 0 ∧ y = { x with ps := l }))
  else if k = 0 then (v.length = 12 ∧ e = 62) ∨ (v.length ≠ 12 ∧ e = 0 ∧ y = { x with tsn := n4 v 0, stream := n2 v 4, ssn := n2 v 6, proto := n4 v 8, bs := v.drop 12 })
  else e = 0 ∧ y = { x with bs := v }
theorem Fl.drewN {base n : Nat} {w0 w : World} {B C p : Nat} {v : List Int} {c : Ck} (h : Fl base n w0 w B C v p c) (m : Nat) : Fl base n w0 (w.drewN m) B C v p c :=
  ⟨⟨h.1.1, h.1.2.1, h.1.2.2.1, Par.below_drewN h.1.2.2.2.1 m, h.1.2.2.2.2⟩, h.2.1, h.2.2.1, h.2.2.2⟩
theorem tch_drewN (B C : Nat) (w : World) (m : Nat) : Tch B C w (w.drewN m) := ⟨rfl, rfl, rfl, Nat.le_refl _, fun _ _ _ _ => rfl⟩
theorem tch_drew (B C : Nat) (w : World) : Tch B C w w.drew := ⟨rfl, rfl, rfl, Nat.le_refl _, fun _ _ _ _ => rfl⟩
/-- what fill leaves -/
def Filled (base n : Nat) (w0 w : World) (B C : Nat) (v : List Int) (c : Ck) (e : Ending) (w' : World) : Prop :=
  Tch B C w w' ∧ ∃ er y, Fil c.kind v (val c) er y ∧ ((er ≠ 0 ∧ e = thrown er ∧ ∃ c', Bx w' C c') ∨ (er = 0 ∧ e = .returned (.tuple #[]) ∧ ∃ c' p, Fl base n w0 w' B C v p c' ∧ val c' = y))
theorem filled_bad {base n : Nat} {w0 w w' : World} {B C : Nat} {v : List Int} {c : Ck} {er : Int} (hT : Tch B C w w') (hx : ∃ c', Bx w' C c') (h : ∀ y, Fil c.kind v (val c) er y) (he : er ≠ 0) : Filled base n w0 w B C v c (thrown er) w' := ⟨hT, er, val c, h _, .inl ⟨he, rfl, hx⟩⟩
theorem filled_ok {base n : Nat} {w0 w w' : World} {B C p : Nat} {v : List Int} {c c' : Ck} (hT : Tch B C w w') (h : Fil c.kind v (val c) 0 (val c')) (hF : Fl base n w0 w' B C v p c') : Filled base n w0 w B C v c (.returned (.tuple #[])) w' := ⟨hT, 0, _, h, .inr ⟨rfl, rfl, c', p, hF, rfl⟩⟩

section
variable {a : Act} {o : Oper} {w : World}
theorem e_nb {u : Value} (x : Operand) (hu : a.eval x = u) (ho : o.op = .call { callee := .value (.func 53), args := #[x], argTypes := #[30] }) : (execOp a.eval o).run Try.prog w = .ok (.enter 53 #[u]) w := by
  unfold execOp
  rw [ho]
  go_simp
  cases x <;> simpa [Act.eval] using hu
theorem e_has {u v : Value} (x y : Operand) (hu : a.eval x = u) (hv : a.eval y = v) (ho : o.op = .call { callee := .value (.func 57), args := #[x, y], argTypes := #[59, 3] }) : (execOp a.eval o).run Try.prog w = .ok (.enter 57 #[u, v]) w := by
  unfold execOp
  rw [ho]
  go_simp
  exact ⟨by cases x <;> simpa [Act.eval] using hu, by cases y <;> simpa [Act.eval] using hv⟩
theorem e_need {u v : Value} (x y : Operand) (hu : a.eval x = u) (hv : a.eval y = v) (ho : o.op = .call { callee := .value (.func 56), args := #[x, y], argTypes := #[4, 24] }) : (execOp a.eval o).run Try.prog w = .ok (.enter 56 #[u, v]) w := by
  unfold execOp
  rw [ho]
  go_simp
  exact ⟨by cases x <;> simpa [Act.eval] using hu, by cases y <;> simpa [Act.eval] using hv⟩
theorem e_nil {B : Nat} (x : Operand) (hu : a.eval x = .pointer (some ⟨B, 0, none⟩)) (ho : o.op = .nilCheck x) : (execOp a.eval o).run Try.prog w = .ok (.value (.pointer (some ⟨B, 0, none⟩))) w := by
  unfold execOp
  rw [ho]
  simp only [hu]
  rfl
theorem e_fa {B S i j : Nat} (x : Operand) (hu : a.eval x = .pointer (some ⟨B, 0, none⟩)) (ho : o.op = .fieldAddr S x i) (hf : (Instr.fieldAt S (.pointer (some ⟨B, 0, none⟩)) i).run Try.prog w = .ok (.pointer (some ⟨B, j, none⟩)) w) : (execOp a.eval o).run Try.prog w = .ok (.value (.pointer (some ⟨B, j, none⟩))) w := by
  unfold execOp
  rw [ho]
  simp only [hu]
  exact Ord.run_v hf
theorem e_ld {t : TypeId} {p : Addr} {v : Value} (x : Operand) (hu : a.eval x = .pointer (some p)) (ho : o.op = .load t x) (hf : (Instr.loadAt t (.pointer (some p))).run Try.prog w = .ok v w) : (execOp a.eval o).run Try.prog w = .ok (.value v) w := by
  unfold execOp
  rw [ho]
  simp only [hu]
  exact Ord.run_v hf
end
theorem faR (w : World) (B : Nat) : (Instr.fieldAt 61 (.pointer (some ⟨B, 0, none⟩)) 0).run Try.prog w = .ok (.pointer (some ⟨B, 0, none⟩)) w := by simp [go_sem]
theorem ldL (w : World) (p : Addr) (a : Option Addr) (l k : Nat) (h : w.cell? p = some (.slice a l k)) : (Instr.loadAt 59 (.pointer (some p))).run Try.prog w = .ok (.slice a l k) w := by simp [go_sem, h]
/-- what the first statement of fill leaves, if the value is too short: nothing -/
def EsF (B C : Nat) (a : Option Addr) (len cap : Nat) (k : Int) : List (Value → World → Prop) :=
  [fun v _ => v = .pointer (some ⟨B, 0, none⟩), fun v _ => v = .pointer (some ⟨B, 0, none⟩), fun v _ => v = .pointer (some ⟨B, 0, none⟩), fun v _ => v = .slice a len cap,
   fun v _ => v = .pointer (some ⟨C, 0, none⟩), fun v _ => v = .pointer (some ⟨C, 0, none⟩), fun v _ => v = .pointer (some ⟨C, 0, none⟩), fun v _ => v = .int .u8 k, fun v _ => v = .int .i64 (nb k : Nat), fun v _ => v = .bool false, fun _ _ => False]
theorem staysF (B C : Nat) (a : Option Addr) (len cap : Nat) (k : Int) : ∀ j, Ord.Stays (Ord.fact (EsF B C a len cap k) j)
  | 0 => Ord.stays_eq _
  | 1 => Ord.stays_eq _
  | 2 => Ord.stays_eq _
  | 3 => Ord.stays_eq _
  | 4 => Ord.stays_eq _
  | 5 => Ord.stays_eq _
  | 6 => Ord.stays_eq _
  | 7 => Ord.stays_eq _
  | 8 => Ord.stays_eq _
  | 9 => Ord.stays_eq _
  | 10 => fun _ _ _ _ h => h
  | _ + 11 => fun _ _ _ _ h => h
set_option maxRecDepth 20000 in
theorem fill_short (base n : Nat) (w0 w : World) (B C : Nat) (v : List Int) (c : Ck) (h : Fl base n w0 w B C v 0 c) (hv : v.length < nb c.kind) :
    Calls Try.prog 61 #[.pointer (some ⟨B, 0, none⟩), .pointer (some ⟨C, 0, none⟩)] w fun e w' => Filled base n w0 w B C v c e w' := by
  obtain ⟨a, len, cap, qr, hlen⟩ := h.rd
  have QR := hidden qr
  have Q0 := hidden h.2.1.c0
  have HX := hidden h.2.1
  have HE := hidden (show ∀ y, Fil c.kind v (val c) 61 y from fun y => by unfold Fil; rw [if_pos hv])
  have HH := hidden (has a len cap (nb c.kind))
  rw [show decide (nb c.kind ≤ len) = false from decide_eq_false (by omega)] at HH
  clear h hlen qr
  go_enter Try.func61, Try.ntmps61
  go_wp2_with fail
  refine Ord.wp_region_slots (by kernel_rfl) 148 [(0, .pointer (some ⟨B, 0, none⟩)), (1, .pointer (some ⟨C, 0, none⟩))] [4, 5, 6, 7, 8, 9, 10, 11, 12, 13, 14] (EsF B C a len cap c.kind) w.drew (by kernel_rfl) (by kernel_rfl) (by kernel_rfl) rfl (staysF _ _ _ _ _ _) ?_ ?_ ?_
  case refine_3 => exact ⟨rfl, rfl, (fun p hp => by simp only [List.mem_cons, List.not_mem_nil, or_false] at hp; rcases hp with rfl | rfl <;> rfl), Below.refl _ _⟩
  case refine_2 =>
    intro a w' hG hF
    exact (hF 10 (by decide)).elim
  case refine_1 =>
    intro i o a' w' ho hG hdep
    obtain ⟨g1, g2, g3, g4⟩ := hG
    have qr : w'.cell? ⟨B, 0, none⟩ = some (.slice a len cap) := Par.keep_cell (w := w.drew) g4 QR.out
    have q0 : w'.cell? ⟨C, 0, none⟩ = some (.int .u8 c.kind) := Par.keep_cell (w := w.drew) g4 Q0.out
    match i, ho with
    | 0, ho =>
      cases ho
      exact Ord.by_value rfl rfl (v := a'.eval (.tmp 0)) rfl (Below.refl _ _) (g3 (0, _) (by simp))
    | 1, ho =>
      cases ho
      have da : a'.eval (.tmp 4) = .pointer (some ⟨B, 0, none⟩) := hdep ⟨0, .data⟩ (by simp) rfl
      exact Ord.by_value rfl rfl (e_nil _ da rfl) (Below.refl _ _) rfl
    | 2, ho =>
      cases ho
      have da : a'.eval (.tmp 5) = .pointer (some ⟨B, 0, none⟩) := hdep ⟨1, .data⟩ (by simp) rfl
      exact Ord.by_value rfl rfl (e_fa _ da rfl (faR _ _)) (Below.refl _ _) rfl
    | 3, ho =>
      cases ho
      have da : a'.eval (.tmp 6) = .pointer (some ⟨B, 0, none⟩) := hdep ⟨2, .data⟩ (by simp) rfl
      exact Ord.by_value rfl rfl (e_ld _ da rfl (ldL _ _ _ _ _ qr)) (Below.refl _ _) rfl
    | 4, ho =>
      cases ho
      exact Ord.by_value rfl rfl (v := a'.eval (.tmp 1)) rfl (Below.refl _ _) (g3 (1, _) (by simp))
    | 5, ho =>
      cases ho
      have da : a'.eval (.tmp 8) = .pointer (some ⟨C, 0, none⟩) := hdep ⟨4, .data⟩ (by simp) rfl
      exact Ord.by_value rfl rfl (e_nil _ da rfl) (Below.refl _ _) rfl
    | 6, ho =>
      cases ho
      have da : a'.eval (.tmp 9) = .pointer (some ⟨C, 0, none⟩) := hdep ⟨5, .data⟩ (by simp) rfl
      exact Ord.by_value rfl rfl (e_fa _ da rfl (fa0 _ _)) (Below.refl _ _) rfl
    | 7, ho =>
      cases ho
      have da : a'.eval (.tmp 10) = .pointer (some ⟨C, 0, none⟩) := hdep ⟨6, .data⟩ (by simp) rfl
      exact Ord.by_value rfl rfl (e_ld _ da rfl (ldK _ _ _ q0)) (Below.refl _ _) rfl
    | 8, ho =>
      cases ho
      have da : a'.eval (.tmp 11) = .int .u8 c.kind := hdep ⟨7, .data⟩ (by simp) rfl
      refine Ord.by_call rfl rfl (e_nb _ da rfl) (Calls.mono (numberBytes c.kind w') ?_)
      rintro e w3 ⟨rfl, rfl⟩
      exact ⟨_, rfl, Below.refl _ _, rfl⟩
    | 9, ho =>
      cases ho
      have da : a'.eval (.tmp 7) = .slice a len cap := hdep ⟨3, .data⟩ (by simp) rfl
      have db : a'.eval (.tmp 12) = .int .i64 (nb c.kind : Nat) := hdep ⟨8, .data⟩ (by simp) rfl
      refine Ord.by_call rfl rfl (e_has _ _ da db rfl) (Calls.mono (HH.out w') ?_)
      rintro e w3 ⟨rfl, rfl⟩
      exact ⟨_, rfl, Below.refl _ _, rfl⟩
    | 10, ho =>
      cases ho
      have da : a'.eval (.tmp 13) = .bool false := hdep ⟨9, .data⟩ (by simp) rfl
      refine Ord.wpOp_of rfl rfl ?_
      unfold Oper.wp
      rw [e_need (.tmp 13) (.const (.int .i64 61)) da rfl rfl]
      refine Calls.mono (need_bad 61 _) ?_
      rintro e w3 ⟨rfl, rfl⟩
      exact ⟨g2, filled_bad ⟨g4.os, g4.tape, g4.output, g4.size, fun k hk _ _ => g4.block k hk⟩ ⟨c, (show Bx w.drew C c from HX.out).later g4⟩ HE.out (by decide)⟩
end Go.Proofs.Ytifdkpifambhaaa.Chu
