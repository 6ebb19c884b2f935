/-
  For every key and every row of bytes the law MacOwn returns true: mac.Sum changes nothing of what is handed in, and what mac.Text tells is one's own (rule 3). Conditions: none.
-/
import Derived.Test.YtalfhcaggjgibaaRows
import Derived.WalkKit
import Derived.ProofKit
import Derived.OpenShut
import Derived.ShutString
import Derived.ChangeOld
import Derived.Below
import Derived.SizedLaws
import Derived.Deep.DeepHandedRow
import Derived.LaidLaws
import Derived.Test.YtalfhcaggjgibaaMacM
namespace Go.Proofs.Ytalfhcaggjgibaa.macOwn
open Go.ChangeShapes Go.WideShapes Go.ChangeAt Go.RowKit
set_option linter.unusedVariables false

theorem own : ownKnob Try.prog.godebug = none := by kernel_rfl
theorem laidOut : laidOutB Try.prog = true := by kernel_rfl

theorem rtext_row {W : World} {base : Nat} {v : Value} {x : Int} (h : W.ownsRow base 5 1 v 8 ((Mac.digs x).map (.int .u8))) :
    ∃ gv cv, v = .slice (some ⟨gv, 0, none⟩) 8 cv ∧ Mac.Row W (some ⟨gv, 0, none⟩) 8 (Mac.digs x) := by
  obtain ⟨gv, cv, rfl⟩ := Mac.row_form h (by decide)
  obtain ⟨a, cap, e, hr, _⟩ := Mac.row_own h (Mac.digs_bytes x) (by decide)
  cases e
  exact ⟨gv, cv, rfl, hr⟩
section
variable {a : Act} {o : Oper} {w : World}
theorem ent14 {v : Value} (x : Operand) (hv : a.eval x = v) (ho : o.op = .call { callee := .value (.func 14), args := #[x], argTypes := #[25] }) : (execOp a.eval o).run Try.prog w = .ok (.enter 14 #[v]) w := by
  unfold execOp
  rw [ho]
  go_simp
  cases x <;> simpa [Act.eval] using hv
theorem ent13 {v : Value} (x : Operand) (hv : a.eval x = v) (ho : o.op = .call { callee := .value (.func 13), args := #[x], argTypes := #[25] }) : (execOp a.eval o).run Try.prog w = .ok (.enter 13 #[v]) w := by
  unfold execOp
  rw [ho]
  go_simp
  cases x <;> simpa [Act.eval] using hv
theorem ent9 (ho : o.op = .call { callee := .value (.func 9), args := #[], argTypes := #[] }) : (execOp a.eval o).run Try.prog w = .ok (.enter 9 #[]) w := by
  unfold execOp
  rw [ho]
  go_simp
theorem convs {s : Value} {T : ByteArray} (x : Operand) (ho : o.op = .convert 24 9 x) (hx : a.eval x = s) (hc : (convert 24 9 s).run Try.prog w = .ok (.string T) w) : (execOp a.eval o).run Try.prog w = .ok (.value (.string T)) w := by
  unfold execOp
  rw [ho]
  simp only [hx, Sem.run_bind, hc]
  rfl
theorem seqlT {T : ByteArray} (x y : Operand) (ho : o.op = .binOp .eql 9 x y 9) (hx : a.eval x = .string T) (hy : a.eval y = .string T) : (execOp a.eval o).run Try.prog w = .ok (.value (.bool true)) w := by
  unfold execOp
  rw [ho]
  simp only [hx, hy]
  go_simp
theorem pickT {v : Value} (x y z : Operand) (ho : o.op = .pick x y z) (hx : a.eval x = .bool true) (hy : a.eval y = v) : (execOp a.eval o).run Try.prog w = .ok (.value v) w := by
  unfold execOp
  rw [ho]
  simp [hx, hy, asBool]
end
def Es (X : Int) (T : ByteArray) : List (Value → World → Prop) :=
  [fun v _ => v = .int .u64 X,
   fun v w => ∃ gv cv, v = .slice (some ⟨gv, 0, none⟩) 8 cv ∧ Mac.Row w (some ⟨gv, 0, none⟩) 8 (Mac.digs X),
   fun v _ => v = .string T,
   fun v _ => v = .int .u64 X,
   fun v w => ∃ gv cv, v = .slice (some ⟨gv, 0, none⟩) 8 cv ∧ Mac.Row w (some ⟨gv, 0, none⟩) 8 (Mac.digs X),
   fun v _ => v = .string T,
   fun v _ => v = .bool true,
   fun v _ => v = .bool true,
   fun v _ => v = .bool true,
   fun v _ => v = .bool true,
   fun v _ => v = .bool true]
theorem stays (X : Int) (T : ByteArray) : ∀ j, Ord.Stays (Ord.fact (Es X T) j) := fun j => match j with
  | 0 => Ord.stays_eq _
  | 1 => fun v w w' hb ⟨gv, cv, h1, h2⟩ => ⟨gv, cv, h1, h2.later hb⟩
  | 2 => Ord.stays_eq _
  | 3 => Ord.stays_eq _
  | 4 => fun v w w' hb ⟨gv, cv, h1, h2⟩ => ⟨gv, cv, h1, h2.later hb⟩
  | 5 => Ord.stays_eq _
  | 6 => Ord.stays_eq _
  | 7 => Ord.stays_eq _
  | 8 => Ord.stays_eq _
  | 9 => Ord.stays_eq _
  | 10 => Ord.stays_eq _
  | _ + 11 => fun _ _ _ _ h => h
theorem two_parts (w : World) (a : Option Addr) (len cap : Nat) (zs : List Int) (h : Mac.Row w a len zs) :
    Mac.Parts (w.alloc (.cells #[.slice a len cap, .slice a len cap] 24)) (some ⟨w.heap.size, 0, none⟩) 2 [(a, len, cap, zs), (a, len, cap, zs)] := by
  have h2 := h.later ((Below.refl _ w).alloc (Nat.le_refl _) (.cells #[.slice a len cap, .slice a len cap] 24))
  refine ⟨rfl, by decide, ?_, .inr ⟨_, _, rfl, ?_⟩⟩
  · intro p hp
    simp only [List.mem_cons, List.not_mem_nil, or_false, or_self] at hp
    subst hp
    exact h2
  · intro j p hj
    rw [World.cell?_alloc_at _ _ _ _ rfl]
    match j, hj with
    | 0, hj => cases hj; rfl
    | 1, hj => cases hj; rfl
set_option maxHeartbeats 4000000 in
set_option maxRecDepth 20000 in

theorem walk (k0 : List Int) (a1 : Option Addr) (len1 cap1 : Nat) (z1 : List Int) (w : World) (w0 : Mac.Key k0) (w1 : Mac.Row w a1 len1 z1) (s1 : len1 ≤ cap1 ∧ cap1 ≤ 140737488351232 ∧ (a1 = none → len1 = 0 ∧ cap1 = 0)) :
    Calls Try.prog 6 #[Mac.keyv k0, .slice a1 len1 cap1] w fun e w' => e = .returned (.bool true) ∧ Below w.heap.size w w' := by
  obtain ⟨i0, hi, hz0, hz1, hz2⟩ := info_parts Mac.info5
  obtain ⟨hcap, hmax, hnil⟩ := s1
  have SU := Mac.hidden (fun W pa n pc ps h1 h2 => Mac.sums W k0 w0 pa n pc ps h1 h2)
  have KN := Mac.hidden (Mac.Kc.new w k0 w0 23)
  obtain ⟨x0, x1, x2, x3, x4, x5, x6, x7, x8, x9, x10, x11, x12, x13, x14, x15, rfl, hk⟩ := Mac.key16 k0 w0
  rw [hk] at SU ⊢
  clear hk
  have B0 := (Below.refl w.heap.size w).alloc (Nat.le_refl _) (.cells #[.int .u8 x0, .int .u8 x1, .int .u8 x2, .int .u8 x3, .int .u8 x4, .int .u8 x5, .int .u8 x6, .int .u8 x7, .int .u8 x8, .int .u8 x9, .int .u8 x10, .int .u8 x11, .int .u8 x12, .int .u8 x13, .int .u8 x14, .int .u8 x15] 23)
  have S0 := Mac.size_alloc w (.cells #[.int .u8 x0, .int .u8 x1, .int .u8 x2, .int .u8 x3, .int .u8 x4, .int .u8 x5, .int .u8 x6, .int .u8 x7, .int .u8 x8, .int .u8 x9, .int .u8 x10, .int .u8 x11, .int .u8 x12, .int .u8 x13, .int .u8 x14, .int .u8 x15] 23)
  replace KN := Mac.hidden (show Mac.Kc (w.alloc (.cells #[.int .u8 x0, .int .u8 x1, .int .u8 x2, .int .u8 x3, .int .u8 x4, .int .u8 x5, .int .u8 x6, .int .u8 x7, .int .u8 x8, .int .u8 x9, .int .u8 x10, .int .u8 x11, .int .u8 x12, .int .u8 x13, .int .u8 x14, .int .u8 x15] 23)) w.heap.size [x0, x1, x2, x3, x4, x5, x6, x7, x8, x9, x10, x11, x12, x13, x14, x15] from KN.out)
  go_enter Try.func6, Try.ntmps6
  go_upto_region 1 with fail
  go_cut [5] from 10 (fun v wx => wx.ownsRow (w.heap.size + 1) 5 1 v len1 (z1.map (.int .u8)) ∧ Below w.heap.size w wx ∧ Mac.Kc wx w.heap.size [x0, x1, x2, x3, x4, x5, x6, x7, x8, x9, x10, x11, x12, x13, x14, x15])
  case first =>
    have hown0 : ((w.alloc (.cells #[.int .u8 x0, .int .u8 x1, .int .u8 x2, .int .u8 x3, .int .u8 x4, .int .u8 x5, .int .u8 x6, .int .u8 x7, .int .u8 x8, .int .u8 x9, .int .u8 x10, .int .u8 x11, .int .u8 x12, .int .u8 x13, .int .u8 x14, .int .u8 x15] 23)).alloc (.cells #[] 5)).ownsRow (w.heap.size + 1) 5 1 (.slice (some ⟨w.heap.size + 1, 0, none⟩) 0 0) 0 [] := by
      have := World.ownsRow_lit (base := w.heap.size + 1) (e := 5) (size := 1) (w.alloc (.cells #[.int .u8 x0, .int .u8 x1, .int .u8 x2, .int .u8 x3, .int .u8 x4, .int .u8 x5, .int .u8 x6, .int .u8 x7, .int .u8 x8, .int .u8 x9, .int .u8 x10, .int .u8 x11, .int .u8 x12, .int .u8 x13, .int .u8 x14, .int .u8 x15] 23)) #[] 0 (by rw [S0]; exact Nat.le_refl _) (Nat.zero_le _) rfl
      rwa [S0] at this
    have B1 := B0.alloc (by rw [S0]; omega) (.cells #[] 5)
    have S1 := Mac.size_alloc (w.alloc (.cells #[.int .u8 x0, .int .u8 x1, .int .u8 x2, .int .u8 x3, .int .u8 x4, .int .u8 x5, .int .u8 x6, .int .u8 x7, .int .u8 x8, .int .u8 x9, .int .u8 x10, .int .u8 x11, .int .u8 x12, .int .u8 x13, .int .u8 x14, .int .u8 x15] 23)) (.cells #[] 5)
    rw [S0] at S1
    have K1 := Mac.hidden (Mac.Kc.below KN.out (n := (w.alloc (.cells #[.int .u8 x0, .int .u8 x1, .int .u8 x2, .int .u8 x3, .int .u8 x4, .int .u8 x5, .int .u8 x6, .int .u8 x7, .int .u8 x8, .int .u8 x9, .int .u8 x10, .int .u8 x11, .int .u8 x12, .int .u8 x13, .int .u8 x14, .int .u8 x15] 23)).heap.size) ((Below.refl _ _).alloc (Nat.le_refl _) (.cells #[] 5)) (by rw [S0]; omega))
    have R1 := w1.later B1
    have hl := w1.1
    have HB1 := Mac.hidden B1
    have HS1 := Mac.hidden S1
    have HO := Mac.hidden hown0
    clear B0 S0 B1 S1 hown0 SU KN
    rcases a1 with _ | ad
    · obtain ⟨rfl, rfl⟩ := hnil rfl
      obtain rfl := List.eq_nil_of_length_eq_zero hl
      go_wp2_with (first | (at_builtin; refine wpList_append_own_none rfl _ _ 24 rfl (w.heap.size + 1) 5 i0 1 Try.underlying24 hi _ _ _ rfl HO.out rfl ?_) | fail)
      go_wp2_with fail
      go_meet
      exact ⟨HO.out, HB1.out, K1.out⟩
    · have hnews : ∀ j u, (z1.map (Value.int .u8))[j]? = some u → ((w.alloc (.cells #[.int .u8 x0, .int .u8 x1, .int .u8 x2, .int .u8 x3, .int .u8 x4, .int .u8 x5, .int .u8 x6, .int .u8 x7, .int .u8 x8, .int .u8 x9, .int .u8 x10, .int .u8 x11, .int .u8 x12, .int .u8 x13, .int .u8 x14, .int .u8 x15] 23)).alloc (.cells #[] 5)).cell? (ad.add j) = some u := by
        rcases R1.2.2.2 with h0 | ⟨b', off', he, hc'⟩
        · intro j u hj
          rw [List.eq_nil_of_length_eq_zero (by omega : z1.length = 0)] at hj
          cases hj
        · cases he
          exact Mac.news hl hc'
      clear R1 hnil
      go_wp2_with (first | (at_builtin; refine wpList_append_own _ rfl _ _ 24 rfl (w.heap.size + 1) 5 i0 (.int .u8 0) 1 1 Try.underlying24 hi hz0 hz1 hz2 rfl (by decide) _ _ _ rfl HO.out ad len1 cap1 (z1.map (Value.int .u8)) rfl ?c0 hnews (Mac.one_cell _) ?c3 ?c4 ?c5 ?_) | fail)
      case c0 => simp; omega
      case c3 => unfold maxLen; omega
      case c4 => omega
      case c5 => rw [HS1.out]; omega
      intro v w2 ho2 hg2 _
      have hK : Mac.Kc w2 w.heap.size [x0, x1, x2, x3, x4, x5, x6, x7, x8, x9, x10, x11, x12, x13, x14, x15] := fun j hj => (World.cell?_of_block (a := ⟨w.heap.size, j, none⟩) (hg2.block w.heap.size (by rw [HS1.out]; omega) (by simp [Value.ownBlock]))).trans (K1.out j hj)
      have hB : Below w.heap.size w w2 := HB1.out.grown hg2 (by rw [HS1.out]; omega) (fun j hj => by cases hj; show w.heap.size ≤ w.heap.size + 1; omega)
      clear hg2 hnews
      go_wp2_with fail
      go_meet
      exact ⟨ho2, hB, hK⟩
  case rest =>
  obtain ⟨ho, hB, hK⟩ := hcut
  obtain ⟨a', cap', rfl, hrow, hcc, hnn, hge⟩ := Mac.row_own ho w1.2.1 (by omega)
  have KCC := Mac.hidden hK
  have d0 : wc.cell? ⟨w.heap.size, 0, none⟩ = some (.int .u8 x0) := KCC.out 0 (by decide)
  have d1 : wc.cell? ⟨w.heap.size, 1, none⟩ = some (.int .u8 x1) := KCC.out 1 (by decide)
  have d2 : wc.cell? ⟨w.heap.size, 2, none⟩ = some (.int .u8 x2) := KCC.out 2 (by decide)
  have d3 : wc.cell? ⟨w.heap.size, 3, none⟩ = some (.int .u8 x3) := KCC.out 3 (by decide)
  have d4 : wc.cell? ⟨w.heap.size, 4, none⟩ = some (.int .u8 x4) := KCC.out 4 (by decide)
  have d5 : wc.cell? ⟨w.heap.size, 5, none⟩ = some (.int .u8 x5) := KCC.out 5 (by decide)
  have d6 : wc.cell? ⟨w.heap.size, 6, none⟩ = some (.int .u8 x6) := KCC.out 6 (by decide)
  have d7 : wc.cell? ⟨w.heap.size, 7, none⟩ = some (.int .u8 x7) := KCC.out 7 (by decide)
  have d8 : wc.cell? ⟨w.heap.size, 8, none⟩ = some (.int .u8 x8) := KCC.out 8 (by decide)
  have d9 : wc.cell? ⟨w.heap.size, 9, none⟩ = some (.int .u8 x9) := KCC.out 9 (by decide)
  have d10 : wc.cell? ⟨w.heap.size, 10, none⟩ = some (.int .u8 x10) := KCC.out 10 (by decide)
  have d11 : wc.cell? ⟨w.heap.size, 11, none⟩ = some (.int .u8 x11) := KCC.out 11 (by decide)
  have d12 : wc.cell? ⟨w.heap.size, 12, none⟩ = some (.int .u8 x12) := KCC.out 12 (by decide)
  have d13 : wc.cell? ⟨w.heap.size, 13, none⟩ = some (.int .u8 x13) := KCC.out 13 (by decide)
  have d14 : wc.cell? ⟨w.heap.size, 14, none⟩ = some (.int .u8 x14) := KCC.out 14 (by decide)
  have d15 : wc.cell? ⟨w.heap.size, 15, none⟩ = some (.int .u8 x15) := KCC.out 15 (by decide)
  have hwc := hB.size
  have HP := Mac.hidden (two_parts wc a' len1 cap' z1 hrow)
  have SM := Mac.hidden (SU.out (wc.alloc (.cells #[.slice a' len1 cap', .slice a' len1 cap'] 24)) (some ⟨wc.heap.size, 0, none⟩) 2 2 _ HP.out (by rw [Mac.rowOf_len]; have := hrow.1; simp [Mac.all]; omega))
  have ux := Mac.U_sip [x0, x1, x2, x3, x4, x5, x6, x7, x8, x9, x10, x11, x12, x13, x14, x15] (Mac.rowOf (Mac.bytesOf [(a', len1, cap', z1), (a', len1, cap', z1)]))
  generalize Mac.sip [x0, x1, x2, x3, x4, x5, x6, x7, x8, x9, x10, x11, x12, x13, x14, x15] (Mac.rowOf (Mac.bytesOf [(a', len1, cap', z1), (a', len1, cap', z1)])) = X at *
  have HB2 := Mac.hidden (hB.alloc hwc (.cells #[.slice a' len1 cap', .slice a' len1 cap'] 24))
  have HR := Mac.hidden (hrow.later ((Below.refl _ wc).alloc (Nat.le_refl _) (.cells #[.slice a' len1 cap', .slice a' len1 cap'] 24)))
  have HZ := Mac.hidden w1
  clear hK SU KN B0 S0 ho hrow hB HP
  go_wp2_with fail
  refine Calls.mono SM.out ?_
  rintro e w3 ⟨rfl, b3⟩
  have B3 : Below w.heap.size w w3 := HB2.out.trans (b3.mono HB2.out.size)
  have RO := Mac.hidden (HR.out.later b3)
  have RB := Mac.hidden (HZ.out.later B3)
  clear d0 d1 d2 d3 d4 d5 d6 d7 d8 d9 d10 d11 d12 d13 d14 d15 SM HB2 HR HZ b3 KCC hnil hnn hge w1
  go_wp2_with fail
  go_loopw [7, 20] (fun _ i wr => ∃ k : Nat, k ≤ len1 ∧ i = .int .i64 k ∧ Below w3.heap.size w3 wr) (fun _ i _ => len1 - (intOf i).toNat)
  case atStart => exact ⟨0, Nat.zero_le _, rfl, Below.refl _ _⟩
  case round =>
    obtain ⟨k, hk, rfl, hbl⟩ := hrel
    rcases Nat.lt_or_ge k len1 with hlt | hge
    · have r1 := RO.out.later hbl
      have r2 := RB.out.later hbl
      obtain ⟨b', off', rfl, hc1⟩ := r1.2.2.2.resolve_left (by omega)
      obtain ⟨b, off, rfl, hc2⟩ := r2.2.2.2.resolve_left (by omega)
      have c1 := hc1 k hlt
      have c2 := hc2 k hlt
      generalize z1.getD k 0 = z at c1 c2
      clear r1 r2 hc1 hc2 RO RB
      go_wp2
      go_region_held3 (fun w' => w'.cell? ⟨b', off' + k, none⟩ = some (.int .u8 z) ∧ w'.cell? ⟨b, off + k, none⟩ = some (.int .u8 z)) (go_keep) (fail)
      go_wp2
      go_roundw
      case rel => exact ⟨k + 1, by omega, by go_num, hbl.drew⟩
      case measure => simp [intOf]; omega
    · obtain rfl : k = len1 := by omega
      have B4 : Below w.heap.size w wr := B3.trans (hbl.mono B3.size)
      have HB4 := Mac.hidden B4
      clear hbl RO RB B4
      go_wp2_with fail
      refine (Mac.text _ X ux).mono ?_
      rintro e w5 ⟨g, hg, rfl, ho, b5⟩
      have B5 := HB4.out.trans (b5.mono HB4.out.size)
      have hgw : w.heap.size ≤ g := Nat.le_trans HB4.out.size hg
      clear b5 HB4
      go_wp2_with fail
      go_loopw [9, 37] (fun _ i wr => ∃ k : Nat, k ≤ 8 ∧ i = .int .i64 k ∧ (∃ f, Mac.Own wr g 8 f) ∧ Below w.heap.size w wr) (fun _ i _ => 8 - (intOf i).toNat)
      case atStart => exact ⟨0, by omega, rfl, ⟨_, ho⟩, B5⟩
      case round =>
        obtain ⟨j, hj, rfl, ⟨f, hof⟩, hbl⟩ := hrel
        rcases Nat.lt_or_ge j 8 with hlt | hge
        · obtain ⟨c1, f1⟩ := hof.2 j hlt
          have HO := Mac.hidden (hof.set j hlt 0)
          clear hof ho
          go_wp2
          go_roundw
          case rel => exact ⟨j + 1, by omega, by go_num, ⟨_, HO.out⟩, hbl.setCell (p := ⟨g, j, none⟩) hgw _⟩
          case measure => simp [intOf]; omega
        · obtain rfl : j = 8 := by omega
          clear hof ho B5
          go_wp2_with fail
          refine Ord.wp_region_slots (by kernel_rfl) 54 [(6, .int .u64 X)] [44, 45, 46, 47, 48, 49, 50, 51, 52, 53, 4] (Es X (strOfNums (Mac.digs X))) wr.drew (by kernel_rfl) (by kernel_rfl) (by kernel_rfl) rfl (stays X (strOfNums (Mac.digs X))) ?_ ?_ ?_
          case refine_3 => exact ⟨rfl, rfl, (fun p hp => by simp only [List.mem_cons, List.not_mem_nil, or_false] at hp; subst hp; rfl), Below.refl _ _⟩
          case refine_2 =>
            intro a w' hG hF
            obtain ⟨g1, g2, g3, g4⟩ := hG
            have h4 : a.eval (.tmp 4) = .bool true := hF 10 (by decide)
            have h4' : a.tmps[4]?.getD undef = .bool true := by simpa [Act.eval] using h4
            rename_i hKK
            refine hKK a w' ?_
            refine wp_ret ?_
            refine bodyPost_ret (v := .bool true) ?_ g2 ⟨rfl, hbl.trans (Below.mono ⟨g4.os, g4.tape, g4.output, g4.size, g4.block⟩ hbl.size)⟩
            simp [results, Try.results6, go_sem, h4']
          case refine_1 =>
            intro i o a w' ho hG hdep
            obtain ⟨g1, g2, g3, g4⟩ := hG
            match i, ho with
            | 0, ho =>
              cases ho
              exact Ord.by_value rfl rfl (v := a.eval (.tmp 6)) rfl (Below.refl _ _) (g3 (6, .int .u64 X) (by simp))
            | 1, ho =>
              cases ho
              have da : a.eval (.tmp 44) = .int .u64 X := hdep ⟨0, .data⟩ (by simp) rfl
              refine Ord.by_call rfl rfl (ent13 _ da rfl) ((Mac.text w' X ux).mono ?_)
              rintro e w9 ⟨g9, hg9, rfl, ho9, hb9⟩
              exact ⟨_, rfl, hb9, g9, 8, rfl, ho9.row (Mac.digs_len X) (Mac.digs_bytes X) (by decide) (Mac.digs_at X)⟩
            | 2, ho =>
              cases ho
              obtain ⟨gv, cv, da, hrow⟩ : ∃ gv cv, a.eval (.tmp 45) = .slice (some ⟨gv, 0, none⟩) 8 cv ∧ Mac.Row w' (some ⟨gv, 0, none⟩) 8 (Mac.digs X) := hdep ⟨1, .data⟩ (by simp) rfl
              exact Ord.by_value rfl rfl (convs _ rfl da (Mac.conv_row _ _ _ _ _ hrow)) (Below.refl _ _) rfl
            | 3, ho =>
              cases ho
              exact Ord.by_value rfl rfl (v := a.eval (.tmp 6)) rfl (Below.refl _ _) (g3 (6, .int .u64 X) (by simp))
            | 4, ho =>
              cases ho
              have da : a.eval (.tmp 47) = .int .u64 X := hdep ⟨3, .data⟩ (by simp) rfl
              refine Ord.by_call rfl rfl (ent14 _ da rfl) ((Mac.rtext w' X ux).mono ?_)
              rintro e w9 ⟨v, rfl, hv, hb9⟩
              obtain ⟨gv, cv, rfl, hrow⟩ := rtext_row hv
              exact ⟨_, rfl, hb9, gv, cv, rfl, hrow⟩
            | 5, ho =>
              cases ho
              obtain ⟨gv, cv, da, hrow⟩ : ∃ gv cv, a.eval (.tmp 48) = .slice (some ⟨gv, 0, none⟩) 8 cv ∧ Mac.Row w' (some ⟨gv, 0, none⟩) 8 (Mac.digs X) := hdep ⟨4, .data⟩ (by simp) rfl
              exact Ord.by_value rfl rfl (convs _ rfl da (Mac.conv_row _ _ _ _ _ hrow)) (Below.refl _ _) rfl
            | 6, ho =>
              cases ho
              have da : a.eval (.tmp 46) = .string (strOfNums (Mac.digs X)) := hdep ⟨2, .data⟩ (by simp) rfl
              have db : a.eval (.tmp 49) = .string (strOfNums (Mac.digs X)) := hdep ⟨5, .data⟩ (by simp) rfl
              exact Ord.by_value rfl rfl (seqlT _ _ rfl da db) (Below.refl _ _) rfl
            | 7, ho =>
              cases ho
              have da : a.eval (.tmp 50) = .bool true := hdep ⟨6, .data⟩ (by simp) rfl
              exact Ord.by_value rfl rfl (v := a.eval (.tmp 50)) rfl (Below.refl _ _) da
            | 8, ho =>
              cases ho
              have dg : a.eval (.tmp 51) = .bool true := hdep ⟨7, .guard⟩ (by simp) rfl
              refine Ord.by_call rfl (Ord.wanted_of dg (by rw [g1]; decide) rfl rfl) (ent9 rfl) ((Mac.awake w').mono ?_)
              rintro e w9 ⟨rfl, hb9⟩
              exact ⟨_, rfl, hb9, rfl⟩
            | 9, ho =>
              cases ho
              have da : a.eval (.tmp 51) = .bool true := hdep ⟨7, .data⟩ (by simp) rfl
              have db : a.eval (.tmp 52) = .bool true := hdep ⟨8, .data⟩ (by simp) rfl
              exact Ord.by_value rfl rfl (pickT _ _ _ rfl da db) (Below.refl _ _) rfl
            | 10, ho =>
              cases ho
              have da : a.eval (.tmp 53) = .bool true := hdep ⟨9, .data⟩ (by simp) rfl
              exact Ord.by_value rfl rfl (v := a.eval (.tmp 53)) rfl (Below.refl _ _) da

theorem contract (H : Type) (enc : TypeId × Value → H) (W : World) (base : Nat) (args : Array Value) (ds gs : List (DataW H)) (before : List MemPlace)
    (hval : ∀ (j : Nat) t v, Try.f6.params[j]? = some t → args[j]? = some v → Value.okWide Try.prog W .any base t v)
    (hW : DataW.Whole enc Try.prog Try.f6.params.toList Rows.macOwnSpec.vars false W args.toList ds gs before)
    (hsz0 : (DataW.weightsEach Try.prog (Try.f6.params.toList ++ Rows.macOwnSpec.plain.varTypes Try.prog) (ds ++ gs)).all (· ≤ reachBytes) = true) :
    Calls Try.prog 6 args W fun e W' => ∃ v, e = .returned v ∧ Rows.macOwnSpec.post enc Try.prog Try.f6 false true false false W args v W' := by
  have hW' := hW
  obtain ⟨p, q, hA0, hV, rfl, hfz, hnd⟩ := hW
  have hA : DataW.TrodAll enc Try.prog W 0 (fun _ => true) true Try.f6.params.toList args.toList ds p := hA0
  have hsz := hsz0
  rw [Try.params6] at hA hval hsz
  obtain ⟨v0, vs0, d0, ds0, p0, q0, hargs, rfl, rfl, h0, r0⟩ := trodAll_cons hA
  obtain ⟨v1, vs1, d1, ds1, p1, q1, rfl, rfl, rfl, h1, r1⟩ := trodAll_cons r0
  obtain ⟨rfl, rfl, rfl⟩ := trodAll_nil r1
  obtain rfl : args = #[v0, v1] := by cases args; simp_all
  obtain ⟨rfl, rfl⟩ := trodVars_none hV
  have k0 := h0
  have lt0 : ∀ x ∈ p0, x.block < W.heap.size := by obtain ⟨m, hm⟩ := k0; exact DataW.trod_lt m _ _ _ hm
  obtain ⟨kz0, rfl, w0⟩ := Mac.key_of (hval 0 23 v0 rfl rfl) h0
  obtain ⟨a1, len1, cap1, rfl⟩ := okWide_slice Try.underlying24 (hval 1 24 v1 rfl rfl)
  have k1 := h1
  have lt1 : ∀ x ∈ p1, x.block < W.heap.size := by obtain ⟨m, hm⟩ := k1; exact DataW.trod_lt m _ _ _ hm
  obtain ⟨z1, w1, s1⟩ : ∃ zs, Mac.Row W a1 len1 zs ∧ len1 ≤ cap1 ∧ cap1 ≤ 140737488351232 ∧ (a1 = none → len1 = 0 ∧ cap1 = 0) := by
    obtain ⟨fuel, hf⟩ := h1
    refine Mac.row_of hf fun elems spare hd => ?_
    simp only at hd
    subst hd
    have sz := sized_slice hsz (j := 1) (t := 24) (elems := elems) (spare := spare) rfl rfl Try.underlying24
    rw [show Try.prog.bytesOf 5 = 1 by kernel_rfl, Nat.mul_one] at sz
    exact sz
  clear hA0 hsz0 hsz
  refine (walk kz0 a1 len1 cap1 z1 W w0 w1 s1).mono fun e W' ⟨he, bel⟩ => ?_
  subst he
  exact ⟨_, rfl, _, _, _, [], _, [], hW', trodAll_mk1 (shut_bool Try.underlying4 _), (trodAll_cons_mk (Below.trod laidOut (by kernel_rfl) (of_decide_eq_true (by kernel_rfl)) k0 bel lt0) (trodAll_cons_mk (Below.trod laidOut (by kernel_rfl) (of_decide_eq_true (by kernel_rfl)) k1 bel lt1) trodAll_mk0)), rfl, bel.frame _, fun h => by cases h⟩

noncomputable def laidWorld (os : Os) : World :=
  World.holding Try.prog os ⟨#[], #[], []⟩
theorem laid_met (os : Os) : laidMet Try.prog Rows.macOwnRow.laid ((laidWorld os).forCall (fun _ _ => 0) ⟨#[], #[.agg #[.int .u8 0, .int .u8 0, .int .u8 0, .int .u8 0, .int .u8 0, .int .u8 0, .int .u8 0, .int .u8 0, .int .u8 0, .int .u8 0, .int .u8 0, .int .u8 0, .int .u8 0, .int .u8 0, .int .u8 0, .int .u8 0], .slice none 0 0], []⟩).memory :=
  laidMet_of_run' 8 (by kernel_rfl) (by kernel_rfl)
theorem reads (os : Os) {H : Type} (enc : TypeId × Value → H) : ∃ places, DataW.whole enc Try.prog ((laidWorld os).forCall (fun _ _ => 0) ⟨#[], #[.agg #[.int .u8 0, .int .u8 0, .int .u8 0, .int .u8 0, .int .u8 0, .int .u8 0, .int .u8 0, .int .u8 0, .int .u8 0, .int .u8 0, .int .u8 0, .int .u8 0, .int .u8 0, .int .u8 0, .int .u8 0, .int .u8 0], .slice none 0 0], []⟩).memory Try.f6.params.toList Rows.macOwnSpec.vars false #[Value.agg #[.int .u8 0, .int .u8 0, .int .u8 0, .int .u8 0, .int .u8 0, .int .u8 0, .int .u8 0, .int .u8 0, .int .u8 0, .int .u8 0, .int .u8 0, .int .u8 0, .int .u8 0, .int .u8 0, .int .u8 0, .int .u8 0], Value.slice none 0 0].toList 8 = some ([.agg [.lit (.int .u8 0), .lit (.int .u8 0), .lit (.int .u8 0), .lit (.int .u8 0), .lit (.int .u8 0), .lit (.int .u8 0), .lit (.int .u8 0), .lit (.int .u8 0), .lit (.int .u8 0), .lit (.int .u8 0), .lit (.int .u8 0), .lit (.int .u8 0), .lit (.int .u8 0), .lit (.int .u8 0), .lit (.int .u8 0), .lit (.int .u8 0)], .nil], [], places) :=
  ⟨[], by kernel_rfl⟩

set_option maxRecDepth 100000 in
theorem lifted (os : Os) (started : os.Started) (H : Type) (enc : TypeId × Value → H) (F : Stop.Interp) :
    ReturnsInHanded {} Try.checked os 6 .any ((OpenSpec.ofChange Rows.macOwnSpec).preRow enc Try.prog Try.f6 Rows.macOwnRow.domain false Rows.macOwnRow.laid) (((OpenSpec.ofChange Rows.macOwnSpec).at F).post enc Try.prog Try.f6 false true false false) := by
  obtain ⟨places, hx⟩ := reads os enc
  refine returnsInHanded_of_row (C := Try.checked) (s := OpenSpec.ofChange Rows.macOwnSpec) own started (by kernel_rfl) Try.func6
    (witness_row_at (enc := enc) (C := Try.checked) false (laidWorld os) #[.agg #[.int .u8 0, .int .u8 0, .int .u8 0, .int .u8 0, .int .u8 0, .int .u8 0, .int .u8 0, .int .u8 0, .int .u8 0, .int .u8 0, .int .u8 0, .int .u8 0, .int .u8 0, .int .u8 0, .int .u8 0, .int .u8 0], .slice none 0 0] rfl (by kernel_rfl) (by kernel_rfl) (by kernel_rfl)
      (OpenSpec.preRow_of_cond 8 hx (by kernel_rfl) (fun k hk => by cases hk) (by kernel_rfl) (laid_met os))) ?_
  intro W base args ds gs before hval hW _ hcond hsz hL _ _
  exact contract H enc W base args ds gs before hval hW hsz

theorem said : Rows.MacOwnSaid :=
  OpenClaim.holds_of_cond 6 Try.f6 rfl rfl rfl rfl rfl rfl rfl ⟨rfl, rfl, rfl, rfl, rfl⟩ rfl rfl rfl rfl rfl (by kernel_rfl) Try.func6 (by kernel_rfl)
    (of_decide_eq_true (by kernel_rfl)) (by unfold Func.isWrapper; first | (rw [if_pos (by decide +kernel)]; kernel_rfl) | (rw [if_neg (by decide +kernel)]; exact ⟨rfl, rfl⟩))
    (fun os started H enc _ F => by rw [OpenClaim.pre_eq_preRow]; exact lifted os started H enc F)

/-- THE STATEMENT -/
theorem proved : Rows.MacOwnSaid := said
#print axioms proved
end Go.Proofs.Ytalfhcaggjgibaa.macOwn
