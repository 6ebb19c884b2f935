/-
  For every number, row of bytes, place and bits the law MacTexts returns true: a seal's bytes are the document's, and just these are known as it (P4.2, P4.4). Conditions: none.
-/
import Derived.Test.YtalfhcaggjgibaaRows
import Derived.WalkKit
import Derived.ProofKit
import Derived.OpenShut
import Derived.ShutString
import Derived.ChangeOld
import Derived.Below
import Derived.SizedLaws
import Derived.Deep.DeepHandedRow
import Derived.LaidLaws
import Derived.Test.YtalfhcaggjgibaaMacJ
import Derived.Test.YtalfhcaggjgibaaOrders2
namespace Go.Proofs.Ytalfhcaggjgibaa.macTexts
open Go.ChangeShapes Go.WideShapes Go.ChangeAt Go.RowKit
set_option linter.unusedVariables false

theorem own : ownKnob Try.prog.godebug = none := by kernel_rfl
theorem laidOut : laidOutB Try.prog = true := by kernel_rfl

theorem u64_of {x : Int} (h : (Lit.int .u64 x).wf = true) : Mac.U x := by
  simp [Lit.wf, IntKind.min, IntKind.max, IntKind.signed, IntKind.bits] at h
  unfold Mac.U; omega
theorem below_drew {B : Nat} {w w' : World} (h : Below B w.drew w') : Below B w w' := ⟨h.os, h.tape, h.output, h.size, h.block⟩
theorem own_below {w w' : World} {g n : Nat} {f : Nat → Int} (h : Mac.Own w g n f) (b : Below w.heap.size w w') : Mac.Own w' g n f :=
  ⟨Nat.lt_of_lt_of_le h.1 b.size, fun k hk => ⟨(b.cell (p := ⟨g, k, none⟩) h.1).trans (h.2 k hk).1, (b.frozen (p := ⟨g, k, none⟩) h.1).trans (h.2 k hk).2⟩⟩
theorem row_t {w : World} {g : Nat} {x : Int} (h : Mac.Own w g 8 (Mac.dig x)) : Mac.Row w (some ⟨g, 0, none⟩) 8 (Mac.digs x) :=
  h.row (Mac.digs_len x) (Mac.digs_bytes x) (by decide) (Mac.digs_at x)
theorem rtext_row {W : World} {base : Nat} {v : Value} {x : Int} (h : W.ownsRow base 5 1 v 8 ((Mac.digs x).map (.int .u8))) :
    ∃ gv cv, v = .slice (some ⟨gv, 0, none⟩) 8 cv ∧ Mac.Row W (some ⟨gv, 0, none⟩) 8 (Mac.digs x) := by
  obtain ⟨gv, cv, rfl⟩ := Mac.row_form h (by decide)
  obtain ⟨a, cap, e, hr, _⟩ := Mac.row_own h (Mac.digs_bytes x) (by decide)
  cases e
  exact ⟨gv, cv, rfl, hr⟩
section
variable {a : Act} {o : Oper} {w : World}
theorem ent14 {v : Value} (x : Operand) (hv : a.eval x = v) (ho : o.op = .call { callee := .value (.func 14), args := #[x], argTypes := #[25] }) : (execOp a.eval o).run Try.prog w = .ok (.enter 14 #[v]) w := by
  unfold execOp
  rw [ho]
  go_simp
  cases x <;> simpa [Act.eval] using hv
theorem ent15 {u v : Value} (x y : Operand) (hu : a.eval x = u) (hv : a.eval y = v) (ho : o.op = .call { callee := .value (.func 15), args := #[x, y], argTypes := #[24, 25] }) : (execOp a.eval o).run Try.prog w = .ok (.enter 15 #[u, v]) w := by
  unfold execOp
  rw [ho]
  go_simp
  exact ⟨by cases x <;> simpa [Act.eval] using hu, by cases y <;> simpa [Act.eval] using hv⟩
theorem ent9 (ho : o.op = .call { callee := .value (.func 9), args := #[], argTypes := #[] }) : (execOp a.eval o).run Try.prog w = .ok (.enter 9 #[]) w := by
  unfold execOp
  rw [ho]
  go_simp
theorem convs {s : Value} {T : ByteArray} (x : Operand) (ho : o.op = .convert 24 9 x) (hx : a.eval x = s) (hc : (convert 24 9 s).run Try.prog w = .ok (.string T) w) : (execOp a.eval o).run Try.prog w = .ok (.value (.string T)) w := by
  unfold execOp
  rw [ho]
  simp only [hx, Sem.run_bind, hc]
  rfl
theorem sneqs {T : ByteArray} (x y : Operand) (ho : o.op = .binOp .neq 9 x y 9) (hx : a.eval x = .string T) (hy : a.eval y = .string T) : (execOp a.eval o).run Try.prog w = .ok (.value (.bool false)) w := by
  unfold execOp
  rw [ho]
  simp only [hx, hy]
  go_simp
theorem seqls {T Z : ByteArray} {p : Prop} [Decidable p] (x y : Operand) (ho : o.op = .binOp .eql 9 x y 9) (hx : a.eval x = .string Z) (hy : a.eval y = .string T) (h : Z = T ↔ p) : (execOp a.eval o).run Try.prog w = .ok (.value (.bool (decide p))) w := by
  unfold execOp
  rw [ho]
  simp only [hx, hy]
  go_simp
  rw [ByteArray.toList_eq, ByteArray.toList_eq]
  by_cases hp : p
  · rw [decide_eq_true hp, h.2 hp]; simp
  · rw [decide_eq_false hp]
    exact beq_eq_false_iff_ne.2 (fun e => hp (h.1 (bytes_inj e)))
theorem bneqs {b : Bool} (x y : Operand) (ho : o.op = .binOp .neq 4 x y 4) (hx : a.eval x = .bool b) (hy : a.eval y = .bool b) : (execOp a.eval o).run Try.prog w = .ok (.value (.bool false)) w := by
  unfold execOp
  rw [ho]
  simp only [hx, hy]
  go_simp
theorem nots (x : Operand) (ho : o.op = .unOp .not 4 x) (hx : a.eval x = .bool true) : (execOp a.eval o).run Try.prog w = .ok (.value (.bool false)) w := by
  unfold execOp
  rw [ho]
  simp only [hx]
  go_simp
theorem pickF {v : Value} (x y z : Operand) (ho : o.op = .pick x y z) (hx : a.eval x = .bool false) (hz : a.eval z = v) : (execOp a.eval o).run Try.prog w = .ok (.value v) w := by
  unfold execOp
  rw [ho]
  simp [hx, hz, asBool]
end
theorem byte_of {x : Int} (h : (Lit.int .u8 x).wf = true) : 0 ≤ x ∧ x < 256 := Mac.u8_bounds h
theorem place8 (a : Int) : ∃ j : Nat, j < 8 ∧ (IntKind.u64.wrap a).tmod 8 = (j : Int) ∧ wrap64 (j : Int) = (j : Int) := by
  have e : IntKind.u64.wrap a = a % 18446744073709551616 := IntKind.wrap_u64 a
  have h0 : 0 ≤ a % 18446744073709551616 := by omega
  refine ⟨(a % 18446744073709551616 % 8).toNat, by omega, ?_, ?_⟩
  · rw [e, Int.tmod_eq_emod_of_nonneg h0]; omega
  · unfold wrap64; omega
/-- the seal's bytes, one of them turned -/
def turnt (x : Int) (j : Nat) (y : Int) : List Int := (List.range 8).map (fun k => if k = j then y else Mac.dig x k)
theorem turnt_len (x : Int) (j : Nat) (y : Int) : (turnt x j y).length = 8 := by simp [turnt]
theorem turnt_at (x : Int) (j : Nat) (y : Int) (i : Nat) (hi : i < 8) : (turnt x j y).getD i 0 = if i = j then y else Mac.dig x i := by
  unfold turnt
  rw [List.getD_eq_getElem?_getD, List.getElem?_map, List.getElem?_range hi]
  rfl
theorem turnt_bytes (x : Int) (j : Nat) (y : Int) (hy : 0 ≤ y ∧ y < 256) : Mac.Bytes (turnt x j y) := by
  intro n hn
  obtain ⟨i, _, rfl⟩ := List.mem_map.1 hn
  by_cases e : i = j
  · simp only [if_pos e]; exact hy
  · simp only [if_neg e]; exact Mac.dig_byte x i
theorem xor_byte (d b : Int) : 0 ≤ bits .xor .u8 d b ∧ bits .xor .u8 d b < 256 := Mac.u8_bounds (wf_bits .xor .u8 d b)
theorem turnt_iff (x : Int) (j : Nat) (hj : j < 8) (b : Int) (hb : 0 ≤ b ∧ b < 256) : turnt x j (bits .xor .u8 (Mac.dig x j) b) = Mac.digs x ↔ b = 0 := by
  have hd := Mac.dig_byte x j
  constructor
  · intro h
    have h1 := congrArg (fun l => l.getD j 0) h
    simp only [turnt_at x j _ j hj, if_pos, Mac.digs_at x j hj] at h1
    obtain ⟨D, hD⟩ : ∃ D : Nat, Mac.dig x j = (D : Int) := ⟨(Mac.dig x j).toNat, by omega⟩
    obtain ⟨B, rfl⟩ : ∃ B : Nat, b = (B : Int) := ⟨b.toNat, by omega⟩
    rw [hD, u8_xor_nat D B (by omega) (by omega)] at h1
    have h2 : D ^^^ B = D := by omega
    have h3 : B = D ^^^ (D ^^^ B) := by rw [← Nat.xor_assoc, Nat.xor_self, Nat.zero_xor]
    rw [h2, Nat.xor_self] at h3
    omega
  · rintro rfl
    obtain ⟨D, hD⟩ : ∃ D : Nat, Mac.dig x j = (D : Int) := ⟨(Mac.dig x j).toNat, by omega⟩
    have e : bits .xor .u8 (Mac.dig x j) 0 = Mac.dig x j := by
      rw [hD]
      have := u8_xor_nat D 0 (by omega) (by omega)
      simpa using this
    rw [e]
    apply List.ext_getElem?
    intro i
    rcases Nat.lt_or_ge i 8 with hi | hi
    · unfold turnt Mac.digs
      rw [List.getElem?_map, List.getElem?_map, List.getElem?_range hi]
      by_cases e2 : i = j
      · subst e2; simp
      · simp [e2]
    · rw [List.getElem?_eq_none (by rw [turnt_len]; exact hi), List.getElem?_eq_none (by rw [Mac.digs_len]; exact hi)]
theorem row_turnt {w : World} {g : Nat} {x y : Int} {j : Nat} (h : Mac.Own w g 8 (fun k => if k = j then y else Mac.dig x k)) (hy : 0 ≤ y ∧ y < 256) : Mac.Row w (some ⟨g, 0, none⟩) 8 (turnt x j y) :=
  h.row (turnt_len x j y) (turnt_bytes x j y hy) (by decide) (turnt_at x j y)
theorem row_seven {w : World} {g : Nat} {zs : List Int} (h : Mac.Row w (some ⟨g, 0, none⟩) 8 zs) : Mac.Row w (some ⟨g, 0, none⟩) 7 (zs.take 7) := by
  obtain ⟨h1, h2, h3, h4⟩ := h
  refine ⟨by rw [List.length_take]; omega, fun n hn => h2 n (List.mem_of_mem_take hn), by decide, .inr ?_⟩
  obtain ⟨b, off, e, hc⟩ := h4.resolve_left (by decide)
  refine ⟨b, off, e, fun j hj => ?_⟩
  rw [hc j (by omega), List.getD_eq_getElem?_getD, List.getD_eq_getElem?_getD, List.getElem?_take, if_pos hj]
theorem fin3 {w w1 w2 w3 : World} (h1 : Below w.heap.size w w1) (h2 : Below w1.heap.size w1 w2) (h3 : Below w2.heap.size w2 w3) : Below w.heap.size w w3 := by
  have x2 := h1.trans (h2.mono h1.size)
  exact x2.trans (h3.mono x2.size)
theorem uncons {α : Type} {l : List α} {n : Nat} (h : l.length = n + 1) : ∃ x r, l = x :: r ∧ r.length = n := by
  cases l with
  | nil => cases h
  | cons x r => exact ⟨x, r, rfl, by simpa using h⟩

def Es (a0 : Int) (a1 : Option Addr) (len1 cap1 g : Nat) (z1 : List Int) (T Z : ByteArray) : List (Value → World → Prop) :=
  [fun v _ => v = .slice (some ⟨g, 0, none⟩) 8 8,
   fun v _ => v = .string T,
   fun v _ => v = .int .u64 a0,
   fun v w => ∃ gv cv, v = .slice (some ⟨gv, 0, none⟩) 8 cv ∧ Mac.Row w (some ⟨gv, 0, none⟩) 8 (Mac.digs a0),
   fun v _ => v = .string T,
   fun v _ => v = .bool false,
   fun v _ => v = .bool false,
   fun v _ => v = .slice a1 len1 cap1,
   fun v _ => v = .int .u64 a0,
   fun v _ => v = .bool (decide (z1 = Mac.digs a0)),
   fun v _ => v = .slice a1 len1 cap1,
   fun v _ => v = .string Z,
   fun v _ => v = .int .u64 a0,
   fun v w => ∃ gv cv, v = .slice (some ⟨gv, 0, none⟩) 8 cv ∧ Mac.Row w (some ⟨gv, 0, none⟩) 8 (Mac.digs a0),
   fun v _ => v = .string T,
   fun v _ => v = .bool (decide (z1 = Mac.digs a0)),
   fun v _ => v = .bool false,
   fun v _ => v = .bool false,
   fun v _ => v = .bool false,
   fun v _ => v = .slice (some ⟨g, 0, none⟩) 8 8,
   fun v _ => v = .int .u64 a0,
   fun v _ => v = .bool true,
   fun v _ => v = .bool false,
   fun v _ => v = .bool false,
   fun v _ => v = .bool false,
   fun v _ => v = .bool true,
   fun v _ => v = .bool false,
   fun v _ => v = .bool false]
theorem stays (a0 : Int) (a1 : Option Addr) (len1 cap1 g : Nat) (z1 : List Int) (T Z : ByteArray) : ∀ j, Ord.Stays (Ord.fact (Es a0 a1 len1 cap1 g z1 T Z) j) := fun j => match j with
  | 0 => Ord.stays_eq _
  | 1 => Ord.stays_eq _
  | 2 => Ord.stays_eq _
  | 3 => fun v w w' hb ⟨gv, cv, h1, h2⟩ => ⟨gv, cv, h1, h2.later hb⟩
  | 4 => Ord.stays_eq _
  | 5 => Ord.stays_eq _
  | 6 => Ord.stays_eq _
  | 7 => Ord.stays_eq _
  | 8 => Ord.stays_eq _
  | 9 => Ord.stays_eq _
  | 10 => Ord.stays_eq _
  | 11 => Ord.stays_eq _
  | 12 => Ord.stays_eq _
  | 13 => fun v w w' hb ⟨gv, cv, h1, h2⟩ => ⟨gv, cv, h1, h2.later hb⟩
  | 14 => Ord.stays_eq _
  | 15 => Ord.stays_eq _
  | 16 => Ord.stays_eq _
  | 17 => Ord.stays_eq _
  | 18 => Ord.stays_eq _
  | 19 => Ord.stays_eq _
  | 20 => Ord.stays_eq _
  | 21 => Ord.stays_eq _
  | 22 => Ord.stays_eq _
  | 23 => Ord.stays_eq _
  | 24 => Ord.stays_eq _
  | 25 => Ord.stays_eq _
  | 26 => Ord.stays_eq _
  | 27 => Ord.stays_eq _
  | _ + 28 => fun _ _ _ _ h => h
theorem frame63 (a : Act) (h : a.tmps.size = 63) (hd : a.defers = []) : ∃ x0 x1 x2 x3 x4 x5 x6 x7 x8 x9 x10 x11 x12 x13 x14 x15 x16 x17 x18 x19 x20 x21 x22 x23 x24 x25 x26 x27 x28 x29 x30 x31 x32 x33 x34 x35 x36 x37 x38 x39 x40 x41 x42 x43 x44 x45 x46 x47 x48 x49 x50 x51 x52 x53 x54 x55 x56 x57 x58 x59 x60 x61 x62, a = ⟨#[x0, x1, x2, x3, x4, x5, x6, x7, x8, x9, x10, x11, x12, x13, x14, x15, x16, x17, x18, x19, x20, x21, x22, x23, x24, x25, x26, x27, x28, x29, x30, x31, x32, x33, x34, x35, x36, x37, x38, x39, x40, x41, x42, x43, x44, x45, x46, x47, x48, x49, x50, x51, x52, x53, x54, x55, x56, x57, x58, x59, x60, x61, x62], []⟩ := by
  obtain ⟨⟨l⟩, df⟩ := a
  simp only at hd
  subst hd
  simp only [List.size_toArray] at h
  obtain ⟨x0, l0, rfl, h0⟩ := uncons h
  obtain ⟨x1, l1, rfl, h1⟩ := uncons h0
  obtain ⟨x2, l2, rfl, h2⟩ := uncons h1
  obtain ⟨x3, l3, rfl, h3⟩ := uncons h2
  obtain ⟨x4, l4, rfl, h4⟩ := uncons h3
  obtain ⟨x5, l5, rfl, h5⟩ := uncons h4
  obtain ⟨x6, l6, rfl, h6⟩ := uncons h5
  obtain ⟨x7, l7, rfl, h7⟩ := uncons h6
  obtain ⟨x8, l8, rfl, h8⟩ := uncons h7
  obtain ⟨x9, l9, rfl, h9⟩ := uncons h8
  obtain ⟨x10, l10, rfl, h10⟩ := uncons h9
  obtain ⟨x11, l11, rfl, h11⟩ := uncons h10
  obtain ⟨x12, l12, rfl, h12⟩ := uncons h11
  obtain ⟨x13, l13, rfl, h13⟩ := uncons h12
  obtain ⟨x14, l14, rfl, h14⟩ := uncons h13
  obtain ⟨x15, l15, rfl, h15⟩ := uncons h14
  obtain ⟨x16, l16, rfl, h16⟩ := uncons h15
  obtain ⟨x17, l17, rfl, h17⟩ := uncons h16
  obtain ⟨x18, l18, rfl, h18⟩ := uncons h17
  obtain ⟨x19, l19, rfl, h19⟩ := uncons h18
  obtain ⟨x20, l20, rfl, h20⟩ := uncons h19
  obtain ⟨x21, l21, rfl, h21⟩ := uncons h20
  obtain ⟨x22, l22, rfl, h22⟩ := uncons h21
  obtain ⟨x23, l23, rfl, h23⟩ := uncons h22
  obtain ⟨x24, l24, rfl, h24⟩ := uncons h23
  obtain ⟨x25, l25, rfl, h25⟩ := uncons h24
  obtain ⟨x26, l26, rfl, h26⟩ := uncons h25
  obtain ⟨x27, l27, rfl, h27⟩ := uncons h26
  obtain ⟨x28, l28, rfl, h28⟩ := uncons h27
  obtain ⟨x29, l29, rfl, h29⟩ := uncons h28
  obtain ⟨x30, l30, rfl, h30⟩ := uncons h29
  obtain ⟨x31, l31, rfl, h31⟩ := uncons h30
  obtain ⟨x32, l32, rfl, h32⟩ := uncons h31
  obtain ⟨x33, l33, rfl, h33⟩ := uncons h32
  obtain ⟨x34, l34, rfl, h34⟩ := uncons h33
  obtain ⟨x35, l35, rfl, h35⟩ := uncons h34
  obtain ⟨x36, l36, rfl, h36⟩ := uncons h35
  obtain ⟨x37, l37, rfl, h37⟩ := uncons h36
  obtain ⟨x38, l38, rfl, h38⟩ := uncons h37
  obtain ⟨x39, l39, rfl, h39⟩ := uncons h38
  obtain ⟨x40, l40, rfl, h40⟩ := uncons h39
  obtain ⟨x41, l41, rfl, h41⟩ := uncons h40
  obtain ⟨x42, l42, rfl, h42⟩ := uncons h41
  obtain ⟨x43, l43, rfl, h43⟩ := uncons h42
  obtain ⟨x44, l44, rfl, h44⟩ := uncons h43
  obtain ⟨x45, l45, rfl, h45⟩ := uncons h44
  obtain ⟨x46, l46, rfl, h46⟩ := uncons h45
  obtain ⟨x47, l47, rfl, h47⟩ := uncons h46
  obtain ⟨x48, l48, rfl, h48⟩ := uncons h47
  obtain ⟨x49, l49, rfl, h49⟩ := uncons h48
  obtain ⟨x50, l50, rfl, h50⟩ := uncons h49
  obtain ⟨x51, l51, rfl, h51⟩ := uncons h50
  obtain ⟨x52, l52, rfl, h52⟩ := uncons h51
  obtain ⟨x53, l53, rfl, h53⟩ := uncons h52
  obtain ⟨x54, l54, rfl, h54⟩ := uncons h53
  obtain ⟨x55, l55, rfl, h55⟩ := uncons h54
  obtain ⟨x56, l56, rfl, h56⟩ := uncons h55
  obtain ⟨x57, l57, rfl, h57⟩ := uncons h56
  obtain ⟨x58, l58, rfl, h58⟩ := uncons h57
  obtain ⟨x59, l59, rfl, h59⟩ := uncons h58
  obtain ⟨x60, l60, rfl, h60⟩ := uncons h59
  obtain ⟨x61, l61, rfl, h61⟩ := uncons h60
  obtain ⟨x62, l62, rfl, h62⟩ := uncons h61
  obtain rfl := List.eq_nil_of_length_eq_zero h62
  exact ⟨x0, x1, x2, x3, x4, x5, x6, x7, x8, x9, x10, x11, x12, x13, x14, x15, x16, x17, x18, x19, x20, x21, x22, x23, x24, x25, x26, x27, x28, x29, x30, x31, x32, x33, x34, x35, x36, x37, x38, x39, x40, x41, x42, x43, x44, x45, x46, x47, x48, x49, x50, x51, x52, x53, x54, x55, x56, x57, x58, x59, x60, x61, x62, rfl⟩

set_option maxHeartbeats 4000000 in
set_option maxRecDepth 20000 in

theorem walk (a0 : Int) (a1 : Option Addr) (len1 cap1 : Nat) (z1 : List Int) (a2 : Int) (a3 : Int) (w : World) (w0 : (Lit.int .u64 a0).wf = true) (w1 : Mac.Row w a1 len1 z1) (s1 : len1 ≤ cap1 ∧ cap1 ≤ 140737488351232 ∧ (a1 = none → len1 = 0 ∧ cap1 = 0)) (w2 : (Lit.int .i64 a2).wf = true) (w3 : (Lit.int .u8 a3).wf = true) :
    Calls Try.prog 5 #[.int .u64 a0, .slice a1 len1 cap1, .int .i64 a2, .int .u8 a3] w fun e w' => e = .returned (.bool true) ∧ Below w.heap.size w w' := by
  have u0 := u64_of w0
  have HZ := Mac.hidden w1
  go_enter Try.func5, Try.ntmps5
  go_wp2_with fail
  refine (Mac.text _ a0 u0).mono ?_
  rintro e w2 ⟨g, hg, rfl, ho, hb⟩
  go_wp2_with fail
  have HT := Mac.hidden (show Mac.Own w2.drew g 8 (Mac.dig a0) from ho)
  have HB := Mac.hidden (show Below w.heap.size w w2.drew from hb.drew)
  have HS := Mac.hidden (Mac.str_eq z1 (Mac.digs a0) w1.2.1 (Mac.digs_bytes a0))
  have CT := Mac.hidden (fun W (h : Mac.Own W g 8 (Mac.dig a0)) => Mac.conv_row W _ 8 8 _ (row_t h))
  have CZ := Mac.hidden (fun W (h : Below w.heap.size w W) => Mac.conv_row W _ _ cap1 _ (w1.later h))
  obtain ⟨T, hT⟩ : ∃ T, strOfNums (Mac.digs a0) = T := ⟨_, rfl⟩
  obtain ⟨Z, hZ⟩ : ∃ Z, strOfNums z1 = Z := ⟨_, rfl⟩
  have HTT := Mac.hidden hT
  rw [hT] at CT HS
  rw [hZ] at CZ HS
  clear hT hZ ho hb
  refine Ord.wp_region_slots (by kernel_rfl) 63 [(0, .int .u64 a0), (1, .slice a1 len1 cap1), (2, .int .i64 a2), (3, .int .u8 a3), (8, .bool false), (9, .slice (some ⟨g, 0, none⟩) 8 8)] [12, 13, 14, 15, 16, 17, 18, 19, 20, 21, 22, 23, 24, 25, 26, 27, 28, 29, 30, 31, 32, 33, 34, 35, 36, 37, 38, 39] (Es a0 a1 len1 cap1 g z1 T Z) w2.drew (by kernel_rfl) (by kernel_rfl) (by kernel_rfl) rfl (stays a0 a1 len1 cap1 g z1 T Z) ?_ ?_ ?_
  case refine_3 => exact ⟨rfl, rfl, (fun p hp => by simp only [List.mem_cons, List.not_mem_nil, or_false] at hp; rcases hp with rfl | rfl | rfl | rfl | rfl | rfl <;> rfl), Below.refl _ _⟩
  case refine_1 =>
    intro i o a w' ho hG hdep
    obtain ⟨g1, g2, g3, g4⟩ := hG
    match i, ho with
    | 0, ho =>
      cases ho
      exact Ord.by_value rfl rfl (v := a.eval (.tmp 9)) rfl (Below.refl _ _) (g3 (9, .slice (some ⟨g, 0, none⟩) 8 8) (by simp))
    | 1, ho =>
      cases ho
      have da : a.eval (.tmp 12) = .slice (some ⟨g, 0, none⟩) 8 8 := hdep ⟨0, .data⟩ (by simp) rfl
      exact Ord.by_value rfl rfl (convs _ rfl da (CT.out _ (own_below HT.out g4))) (Below.refl _ _) rfl
    | 2, ho =>
      cases ho
      exact Ord.by_value rfl rfl (v := a.eval (.tmp 0)) rfl (Below.refl _ _) (g3 (0, .int .u64 a0) (by simp))
    | 3, ho =>
      cases ho
      have da : a.eval (.tmp 14) = .int .u64 a0 := hdep ⟨2, .data⟩ (by simp) rfl
      refine Ord.by_call rfl rfl (ent14 _ da rfl) ((Mac.rtext w' a0 u0).mono ?_)
      rintro e w3 ⟨v, rfl, hv, hb3⟩
      obtain ⟨gv, cv, rfl, hrow⟩ := rtext_row hv
      exact ⟨_, rfl, hb3, gv, cv, rfl, hrow⟩
    | 4, ho =>
      cases ho
      obtain ⟨gv, cv, da, hrow⟩ : ∃ gv cv, a.eval (.tmp 15) = .slice (some ⟨gv, 0, none⟩) 8 cv ∧ Mac.Row w' (some ⟨gv, 0, none⟩) 8 (Mac.digs a0) := hdep ⟨3, .data⟩ (by simp) rfl
      exact Ord.by_value rfl rfl (convs _ rfl da (by rw [Mac.conv_row _ _ _ _ _ hrow, HTT.out])) (Below.refl _ _) rfl
    | 5, ho =>
      cases ho
      have da : a.eval (.tmp 13) = .string T := hdep ⟨1, .data⟩ (by simp) rfl
      have db : a.eval (.tmp 16) = .string T := hdep ⟨4, .data⟩ (by simp) rfl
      exact Ord.by_value rfl rfl (sneqs _ _ rfl da db) (Below.refl _ _) rfl
    | 6, ho =>
      cases ho
      have da : a.eval (.tmp 17) = .bool false := hdep ⟨5, .data⟩ (by simp) rfl
      exact Ord.by_value rfl rfl (v := a.eval (.tmp 17)) rfl (Below.refl _ _) da
    | 7, ho =>
      cases ho
      have dg : a.eval (.tmp 18) = .bool false := hdep ⟨6, .guard⟩ (by simp) rfl
      exact Ord.by_value rfl (Ord.wanted_of dg (by rw [g1]; decide) rfl rfl) (v := a.eval (.tmp 1)) rfl (Below.refl _ _) (g3 (1, .slice a1 len1 cap1) (by simp))
    | 8, ho =>
      cases ho
      have dg : a.eval (.tmp 18) = .bool false := hdep ⟨6, .guard⟩ (by simp) rfl
      exact Ord.by_value rfl (Ord.wanted_of dg (by rw [g1]; decide) rfl rfl) (v := a.eval (.tmp 0)) rfl (Below.refl _ _) (g3 (0, .int .u64 a0) (by simp))
    | 9, ho =>
      cases ho
      have dg : a.eval (.tmp 18) = .bool false := hdep ⟨6, .guard⟩ (by simp) rfl
      have da : a.eval (.tmp 19) = .slice a1 len1 cap1 := hdep ⟨7, .data⟩ (by simp) rfl
      have db : a.eval (.tmp 20) = .int .u64 a0 := hdep ⟨8, .data⟩ (by simp) rfl
      refine Ord.by_call rfl (Ord.wanted_of dg (by rw [g1]; decide) rfl rfl) (ent15 _ _ da db rfl) ((Mac.same w' _ _ _ _ (HZ.out.later (HB.out.trans (g4.mono HB.out.size))) a0 u0).mono ?_)
      rintro e w3 ⟨rfl, hb3⟩
      exact ⟨_, rfl, hb3, rfl⟩
    | 10, ho =>
      cases ho
      have dg : a.eval (.tmp 18) = .bool false := hdep ⟨6, .guard⟩ (by simp) rfl
      exact Ord.by_value rfl (Ord.wanted_of dg (by rw [g1]; decide) rfl rfl) (v := a.eval (.tmp 1)) rfl (Below.refl _ _) (g3 (1, .slice a1 len1 cap1) (by simp))
    | 11, ho =>
      cases ho
      have dg : a.eval (.tmp 18) = .bool false := hdep ⟨6, .guard⟩ (by simp) rfl
      have da : a.eval (.tmp 22) = .slice a1 len1 cap1 := hdep ⟨10, .data⟩ (by simp) rfl
      exact Ord.by_value rfl (Ord.wanted_of dg (by rw [g1]; decide) rfl rfl) (convs _ rfl da (CZ.out _ (HB.out.trans (g4.mono HB.out.size)))) (Below.refl _ _) rfl
    | 12, ho =>
      cases ho
      have dg : a.eval (.tmp 18) = .bool false := hdep ⟨6, .guard⟩ (by simp) rfl
      exact Ord.by_value rfl (Ord.wanted_of dg (by rw [g1]; decide) rfl rfl) (v := a.eval (.tmp 0)) rfl (Below.refl _ _) (g3 (0, .int .u64 a0) (by simp))
    | 13, ho =>
      cases ho
      have dg : a.eval (.tmp 18) = .bool false := hdep ⟨6, .guard⟩ (by simp) rfl
      have da : a.eval (.tmp 24) = .int .u64 a0 := hdep ⟨12, .data⟩ (by simp) rfl
      refine Ord.by_call rfl (Ord.wanted_of dg (by rw [g1]; decide) rfl rfl) (ent14 _ da rfl) ((Mac.rtext w' a0 u0).mono ?_)
      rintro e w3 ⟨v, rfl, hv, hb3⟩
      obtain ⟨gv, cv, rfl, hrow⟩ := rtext_row hv
      exact ⟨_, rfl, hb3, gv, cv, rfl, hrow⟩
    | 14, ho =>
      cases ho
      have dg : a.eval (.tmp 18) = .bool false := hdep ⟨6, .guard⟩ (by simp) rfl
      obtain ⟨gv, cv, da, hrow⟩ : ∃ gv cv, a.eval (.tmp 25) = .slice (some ⟨gv, 0, none⟩) 8 cv ∧ Mac.Row w' (some ⟨gv, 0, none⟩) 8 (Mac.digs a0) := hdep ⟨13, .data⟩ (by simp) rfl
      exact Ord.by_value rfl (Ord.wanted_of dg (by rw [g1]; decide) rfl rfl) (convs _ rfl da (by rw [Mac.conv_row _ _ _ _ _ hrow, HTT.out])) (Below.refl _ _) rfl
    | 15, ho =>
      cases ho
      have dg : a.eval (.tmp 18) = .bool false := hdep ⟨6, .guard⟩ (by simp) rfl
      have da : a.eval (.tmp 23) = .string Z := hdep ⟨11, .data⟩ (by simp) rfl
      have db : a.eval (.tmp 26) = .string T := hdep ⟨14, .data⟩ (by simp) rfl
      exact Ord.by_value rfl (Ord.wanted_of dg (by rw [g1]; decide) rfl rfl) (seqls _ _ rfl da db HS.out) (Below.refl _ _) rfl
    | 16, ho =>
      cases ho
      have dg : a.eval (.tmp 18) = .bool false := hdep ⟨6, .guard⟩ (by simp) rfl
      have da : a.eval (.tmp 21) = .bool (decide (z1 = Mac.digs a0)) := hdep ⟨9, .data⟩ (by simp) rfl
      have db : a.eval (.tmp 27) = .bool (decide (z1 = Mac.digs a0)) := hdep ⟨15, .data⟩ (by simp) rfl
      exact Ord.by_value rfl (Ord.wanted_of dg (by rw [g1]; decide) rfl rfl) (bneqs _ _ rfl da db) (Below.refl _ _) rfl
    | 17, ho =>
      cases ho
      have da : a.eval (.tmp 18) = .bool false := hdep ⟨6, .data⟩ (by simp) rfl
      have db : a.eval (.tmp 28) = .bool false := hdep ⟨16, .data⟩ (by simp) rfl
      exact Ord.by_value rfl rfl (pickF _ _ _ rfl da db) (Below.refl _ _) rfl
    | 18, ho =>
      cases ho
      have da : a.eval (.tmp 29) = .bool false := hdep ⟨17, .data⟩ (by simp) rfl
      exact Ord.by_value rfl rfl (v := a.eval (.tmp 29)) rfl (Below.refl _ _) da
    | 19, ho =>
      cases ho
      have dg : a.eval (.tmp 30) = .bool false := hdep ⟨18, .guard⟩ (by simp) rfl
      exact Ord.by_value rfl (Ord.wanted_of dg (by rw [g1]; decide) rfl rfl) (v := a.eval (.tmp 9)) rfl (Below.refl _ _) (g3 (9, .slice (some ⟨g, 0, none⟩) 8 8) (by simp))
    | 20, ho =>
      cases ho
      have dg : a.eval (.tmp 30) = .bool false := hdep ⟨18, .guard⟩ (by simp) rfl
      exact Ord.by_value rfl (Ord.wanted_of dg (by rw [g1]; decide) rfl rfl) (v := a.eval (.tmp 0)) rfl (Below.refl _ _) (g3 (0, .int .u64 a0) (by simp))
    | 21, ho =>
      cases ho
      have dg : a.eval (.tmp 30) = .bool false := hdep ⟨18, .guard⟩ (by simp) rfl
      have da : a.eval (.tmp 31) = .slice (some ⟨g, 0, none⟩) 8 8 := hdep ⟨19, .data⟩ (by simp) rfl
      have db : a.eval (.tmp 32) = .int .u64 a0 := hdep ⟨20, .data⟩ (by simp) rfl
      refine Ord.by_call rfl (Ord.wanted_of dg (by rw [g1]; decide) rfl rfl) (ent15 _ _ da db rfl) ((Mac.same w' _ _ _ _ (row_t (own_below HT.out g4)) a0 u0).mono ?_)
      rintro e w3 ⟨rfl, hb3⟩
      exact ⟨_, rfl, hb3, (show Value.bool (decide (Mac.digs a0 = Mac.digs a0)) = .bool true by simp)⟩
    | 22, ho =>
      cases ho
      have dg : a.eval (.tmp 30) = .bool false := hdep ⟨18, .guard⟩ (by simp) rfl
      have da : a.eval (.tmp 33) = .bool true := hdep ⟨21, .data⟩ (by simp) rfl
      exact Ord.by_value rfl (Ord.wanted_of dg (by rw [g1]; decide) rfl rfl) (nots _ rfl da) (Below.refl _ _) rfl
    | 23, ho =>
      cases ho
      have da : a.eval (.tmp 30) = .bool false := hdep ⟨18, .data⟩ (by simp) rfl
      have db : a.eval (.tmp 34) = .bool false := hdep ⟨22, .data⟩ (by simp) rfl
      exact Ord.by_value rfl rfl (pickF _ _ _ rfl da db) (Below.refl _ _) rfl
    | 24, ho =>
      cases ho
      have da : a.eval (.tmp 35) = .bool false := hdep ⟨23, .data⟩ (by simp) rfl
      exact Ord.by_value rfl rfl (v := a.eval (.tmp 35)) rfl (Below.refl _ _) da
    | 25, ho =>
      cases ho
      have dg : a.eval (.tmp 36) = .bool false := hdep ⟨24, .guard⟩ (by simp) rfl
      refine Ord.by_call rfl (Ord.wanted_of dg (by rw [g1]; decide) rfl rfl) (ent9 rfl) ((Mac.awake w').mono ?_)
      rintro e w3 ⟨rfl, hb3⟩
      exact ⟨_, rfl, hb3, rfl⟩
    | 26, ho =>
      cases ho
      have dg : a.eval (.tmp 36) = .bool false := hdep ⟨24, .guard⟩ (by simp) rfl
      have da : a.eval (.tmp 37) = .bool true := hdep ⟨25, .data⟩ (by simp) rfl
      exact Ord.by_value rfl (Ord.wanted_of dg (by rw [g1]; decide) rfl rfl) (nots _ rfl da) (Below.refl _ _) rfl
    | 27, ho =>
      cases ho
      have da : a.eval (.tmp 36) = .bool false := hdep ⟨24, .data⟩ (by simp) rfl
      have db : a.eval (.tmp 38) = .bool false := hdep ⟨26, .data⟩ (by simp) rfl
      exact Ord.by_value rfl rfl (pickF _ _ _ rfl da db) (Below.refl _ _) rfl
  case refine_2 =>
    intro a w' hG hL
    obtain ⟨g1, g2, g3, g4⟩ := hG
    obtain ⟨x0, x1, x2, x3, x4, x5, x6, x7, x8, x9, x10, x11, x12, x13, x14, x15, x16, x17, x18, x19, x20, x21, x22, x23, x24, x25, x26, x27, x28, x29, x30, x31, x32, x33, x34, x35, x36, x37, x38, x39, x40, x41, x42, x43, x44, x45, x46, x47, x48, x49, x50, x51, x52, x53, x54, x55, x56, x57, x58, x59, x60, x61, x62, rfl⟩ := frame63 a g1 g2
    obtain rfl : x0 = .int .u64 a0 := g3 (0, .int .u64 a0) (by simp)
    obtain rfl : x1 = .slice a1 len1 cap1 := g3 (1, .slice a1 len1 cap1) (by simp)
    obtain rfl : x2 = .int .i64 a2 := g3 (2, .int .i64 a2) (by simp)
    obtain rfl : x3 = .int .u8 a3 := g3 (3, .int .u8 a3) (by simp)
    obtain rfl : x8 = .bool false := g3 (8, .bool false) (by simp)
    obtain rfl : x9 = .slice (some ⟨g, 0, none⟩) 8 8 := g3 (9, .slice (some ⟨g, 0, none⟩) 8 8) (by simp)
    obtain rfl : x39 = .bool false := hL 27 (by decide)
    clear hL g3
    have HT2 := Mac.hidden (own_below HT.out g4)
    have HB2 := Mac.hidden (HB.out.trans (g4.mono HB.out.size))
    clear HT HB CT CZ HTT HS g4 g1 g2
    obtain ⟨j, hj, hp1, hp2⟩ := place8 a2
    have b3 := byte_of w3
    obtain ⟨c1, f1⟩ := HT2.out.2 j hj
    have HO := Mac.hidden (HT2.out.set j hj (bits .xor .u8 (Mac.dig a0 j) a3))
    have HI := Mac.hidden (turnt_iff a0 j hj a3 b3)
    have hy := xor_byte (Mac.dig a0 j) a3
    have hbs := Mac.hidden (fun v : Value => HB2.out.setCell (p := ⟨g, j, none⟩) hg v)
    have hgl := HT2.out.1
    clear HT2 HB2
    generalize hyy : bits .xor .u8 (Mac.dig a0 j) a3 = y at *
    have S1 := Mac.hidden (Mac.same _ _ 8 8 _ (row_turnt HO.out hy) a0 u0)
    have HR := Mac.hidden (row_seven (row_turnt HO.out hy))
    have S7 := Mac.hidden (show decide ((turnt a0 j y).take 7 = Mac.digs a0) = false from decide_eq_false (fun e => by have := congrArg List.length e; rw [List.length_take, turnt_len, Mac.digs_len] at this; omega))
    have hq0 : (0 : Int) ≤ (j : Int) := by omega
    have hq1 : (j : Int) < 8 := by omega
    by_cases ha : a3 = 0
    · rw [decide_eq_true (HI.out.2 ha)] at S1
      have hab : (a3 == 0) = true := by simpa using ha
      clear HI ha
      go_wp2_with fail
      refine Calls.mono S1.out ?_
      rintro e wa ⟨rfl, ba⟩
      go_wp2_with fail
      refine Calls.mono (Mac.same _ _ 7 8 _ (HR.out.later ba) a0 u0) ?_
      rintro e wb ⟨rfl, bb⟩
      rw [S7.out]
      go_wp2
      go_ret
      exact ⟨rfl, fin3 (hbs.out _) ba bb⟩
    · rw [decide_eq_false (fun e => ha (HI.out.1 e))] at S1
      have hab : (a3 == 0) = false := by simpa using ha
      clear HI ha
      go_wp2_with fail
      refine Calls.mono S1.out ?_
      rintro e wa ⟨rfl, ba⟩
      go_wp2_with fail
      refine Calls.mono (Mac.same _ _ 7 8 _ (HR.out.later ba) a0 u0) ?_
      rintro e wb ⟨rfl, bb⟩
      rw [S7.out]
      go_wp2
      go_ret
      exact ⟨rfl, fin3 (hbs.out _) ba bb⟩

theorem contract (H : Type) (enc : TypeId × Value → H) (W : World) (base : Nat) (args : Array Value) (ds gs : List (DataW H)) (before : List MemPlace)
    (hval : ∀ (j : Nat) t v, Try.f5.params[j]? = some t → args[j]? = some v → Value.okWide Try.prog W .any base t v)
    (hW : DataW.Whole enc Try.prog Try.f5.params.toList Rows.macTextsSpec.vars false W args.toList ds gs before)
    (hsz0 : (DataW.weightsEach Try.prog (Try.f5.params.toList ++ Rows.macTextsSpec.plain.varTypes Try.prog) (ds ++ gs)).all (· ≤ reachBytes) = true) :
    Calls Try.prog 5 args W fun e W' => ∃ v, e = .returned v ∧ Rows.macTextsSpec.post enc Try.prog Try.f5 false true false false W args v W' := by
  have hW' := hW
  obtain ⟨p, q, hA0, hV, rfl, hfz, hnd⟩ := hW
  have hA : DataW.TrodAll enc Try.prog W 0 (fun _ => true) true Try.f5.params.toList args.toList ds p := hA0
  have hsz := hsz0
  rw [Try.params5] at hA hval hsz
  obtain ⟨v0, vs0, d0, ds0, p0, q0, hargs, rfl, rfl, h0, r0⟩ := trodAll_cons hA
  obtain ⟨v1, vs1, d1, ds1, p1, q1, rfl, rfl, rfl, h1, r1⟩ := trodAll_cons r0
  obtain ⟨v2, vs2, d2, ds2, p2, q2, rfl, rfl, rfl, h2, r2⟩ := trodAll_cons r1
  obtain ⟨v3, vs3, d3, ds3, p3, q3, rfl, rfl, rfl, h3, r3⟩ := trodAll_cons r2
  obtain ⟨rfl, rfl, rfl⟩ := trodAll_nil r3
  obtain rfl : args = #[v0, v1, v2, v3] := by cases args; simp_all
  obtain ⟨rfl, rfl⟩ := trodVars_none hV
  obtain ⟨a0, rfl, rfl, rfl, w0⟩ := open_int Try.underlying25 (hval 0 25 v0 rfl rfl) h0
  obtain ⟨a1, len1, cap1, rfl⟩ := okWide_slice Try.underlying24 (hval 1 24 v1 rfl rfl)
  have k1 := h1
  have lt1 : ∀ x ∈ p1, x.block < W.heap.size := by obtain ⟨m, hm⟩ := k1; exact DataW.trod_lt m _ _ _ hm
  obtain ⟨z1, w1, s1⟩ : ∃ zs, Mac.Row W a1 len1 zs ∧ len1 ≤ cap1 ∧ cap1 ≤ 140737488351232 ∧ (a1 = none → len1 = 0 ∧ cap1 = 0) := by
    obtain ⟨fuel, hf⟩ := h1
    refine Mac.row_of hf fun elems spare hd => ?_
    simp only at hd
    subst hd
    have sz := sized_slice hsz (j := 1) (t := 24) (elems := elems) (spare := spare) rfl rfl Try.underlying24
    rw [show Try.prog.bytesOf 5 = 1 by kernel_rfl, Nat.mul_one] at sz
    exact sz
  obtain ⟨a2, rfl, rfl, rfl, w2⟩ := open_int Try.underlying3 (hval 2 3 v2 rfl rfl) h2
  obtain ⟨a3, rfl, rfl, rfl, w3⟩ := open_int Try.underlying5 (hval 3 5 v3 rfl rfl) h3
  clear hA0 hsz0 hsz
  refine (walk a0 a1 len1 cap1 z1 a2 a3 W w0 w1 s1 w2 w3).mono fun e W' ⟨he, bel⟩ => ?_
  subst he
  exact ⟨_, rfl, _, _, _, [], _, [], hW', trodAll_mk1 (shut_bool Try.underlying4 _), (trodAll_cons_mk (shut_int Try.underlying25 w0) (trodAll_cons_mk (Below.trod laidOut (by kernel_rfl) (of_decide_eq_true (by kernel_rfl)) k1 bel lt1) (trodAll_cons_mk (shut_int Try.underlying3 w2) (trodAll_cons_mk (shut_int Try.underlying5 w3) trodAll_mk0)))), rfl, bel.frame _, fun h => by cases h⟩

noncomputable def laidWorld (os : Os) : World :=
  World.holding Try.prog os ⟨#[], #[], []⟩
theorem laid_met (os : Os) : laidMet Try.prog Rows.macTextsRow.laid ((laidWorld os).forCall (fun _ _ => 0) ⟨#[], #[.int .u64 0, .slice none 0 0, .int .i64 0, .int .u8 0], []⟩).memory :=
  laidMet_of_run' 8 (by kernel_rfl) (by kernel_rfl)
theorem reads (os : Os) {H : Type} (enc : TypeId × Value → H) : ∃ places, DataW.whole enc Try.prog ((laidWorld os).forCall (fun _ _ => 0) ⟨#[], #[.int .u64 0, .slice none 0 0, .int .i64 0, .int .u8 0], []⟩).memory Try.f5.params.toList Rows.macTextsSpec.vars false #[Value.int .u64 0, Value.slice none 0 0, Value.int .i64 0, Value.int .u8 0].toList 8 = some ([.lit (.int .u64 0), .nil, .lit (.int .i64 0), .lit (.int .u8 0)], [], places) :=
  ⟨[], by kernel_rfl⟩

set_option maxRecDepth 100000 in
theorem lifted (os : Os) (started : os.Started) (H : Type) (enc : TypeId × Value → H) (F : Stop.Interp) :
    ReturnsInHanded {} Try.checked os 5 .any ((OpenSpec.ofChange Rows.macTextsSpec).preRow enc Try.prog Try.f5 Rows.macTextsRow.domain false Rows.macTextsRow.laid) (((OpenSpec.ofChange Rows.macTextsSpec).at F).post enc Try.prog Try.f5 false true false false) := by
  obtain ⟨places, hx⟩ := reads os enc
  refine returnsInHanded_of_row (C := Try.checked) (s := OpenSpec.ofChange Rows.macTextsSpec) own started (by kernel_rfl) Try.func5
    (witness_row_at (enc := enc) (C := Try.checked) false (laidWorld os) #[.int .u64 0, .slice none 0 0, .int .i64 0, .int .u8 0] rfl (by kernel_rfl) (by kernel_rfl) (by kernel_rfl)
      (OpenSpec.preRow_of_cond 8 hx (by kernel_rfl) (fun k hk => by cases hk) (by kernel_rfl) (laid_met os))) ?_
  intro W base args ds gs before hval hW _ hcond hsz hL _ _
  exact contract H enc W base args ds gs before hval hW hsz

theorem said : Rows.MacTextsSaid :=
  OpenClaim.holds_of_cond 5 Try.f5 rfl rfl rfl rfl rfl rfl rfl ⟨rfl, rfl, rfl, rfl, rfl⟩ rfl rfl rfl rfl rfl (by kernel_rfl) Try.func5 (by kernel_rfl)
    (of_decide_eq_true (by kernel_rfl)) (by unfold Func.isWrapper; first | (rw [if_pos (by decide +kernel)]; kernel_rfl) | (rw [if_neg (by decide +kernel)]; exact ⟨rfl, rfl⟩))
    (fun os started H enc _ F => by rw [OpenClaim.pre_eq_preRow]; exact lifted os started H enc F)

/-- THE STATEMENT -/
theorem proved : Rows.MacTextsSaid := said
#print axioms proved
end Go.Proofs.Ytalfhcaggjgibaa.macTexts
