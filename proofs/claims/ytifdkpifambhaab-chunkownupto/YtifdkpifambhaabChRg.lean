/-
  What the document's Decode tells.
  Conditions: the numbers lie within their kinds, the cells hold them.
-/
import Derived.Test.YtifdkpifambhaabChRe
import Derived.Test.YtifdkpifambhaabChRf
import Derived.Test.YtifdkpifambhaabChY
import Derived.Test.YtifdkpifambhaabOrders5
namespace Go.Proofs.Ytifdkpifambhaab.Chu
open Go.ChangeShapes Go.WideShapes Go.ChangeAt Go.RowKit
open Par (hidden Bytes Row Prm Prms cell_lt Cap cells_new cutA thrown form_of)
set_option linter.unusedVariables false
attribute [local go_sem ↓] execOp_ld execOp_bx execOp_st
attribute [local go_sem] run_box

theorem rRead (base : Nat) (w : World) (a : Option Addr) (len cap : Nat) (v : List Int) (k f : Int) (hf : 0 ≤ f ∧ f < 256) (hr : Row base w a len v) (hlc : len ≤ cap) (hnn : a = none → len = 0 ∧ cap = 0) :
    Calls Try.prog 17 #[cv (kf k f), .slice a len cap] w fun e w' => RdR w v k (zch k (flg k f)) e w' := by
  rcases kind_cases k with rfl | rfl | rfl | rfl | rfl | rfl | rfl | rfl | rfl | rfl | rfl | rfl | rfl | rfl | hk
  · exact read0 base w a len cap v f hf hr hlc hnn
  · exact read1 base w a len cap v f hf hr hlc hnn
  · exact read2 base w a len cap v f hf hr hlc hnn
  · exact read3 base w a len cap v f hf hr hlc hnn
  · exact read4 base w a len cap v f hf hr hlc hnn
  · exact read5 base w a len cap v f hf hr hlc hnn
  · exact read6 base w a len cap v f hf hr hlc hnn
  · exact read7 base w a len cap v f hf hr hlc hnn
  · exact read8 base w a len cap v f hf hr hlc hnn
  · exact read9 base w a len cap v f hf hr hlc hnn
  · exact read10 base w a len cap v f hf hr hlc hnn
  · exact read11 base w a len cap v f hf hr hlc hnn
  · exact read14 base w a len cap v f hf hr hlc hnn
  · exact read16 base w a len cap v f hf hr hlc hnn
  · exact readO base w a len cap v k hk f hf hr hlc hnn
/-- what read tells, as a fact -/
def Tz (W : World) (B : List Int) (k f : Int) (c' : Ck) (er : Int) (x : World) : Prop := ∃ y, Fil k B (zch k (flg k f)) er y ∧ (er = 0 → val c' = y ∧ Lsts W.heap.size x c')
section
variable {a : Act} {o : Oper} {w : World}
theorem o_ia {b off len cap : Nat} (x : Operand) (hx : a.eval x = .slice (some ⟨b, off, none⟩) len cap) (ho : o.op = .indexAddr 22 x (.const (.int .i64 0))) (h : 0 < len) {r : Value} (hr : r = .pointer (some ⟨b, off, none⟩)) : (execOp a.eval o).run Try.prog w = .ok (.value r) w := by
  have i1 : (0 : Int) < (len : Int) := by omega
  subst hr
  unfold execOp
  rw [ho]
  simp only [hx]
  go_simp
theorem o_ia1 {b off len cap : Nat} (x : Operand) (hx : a.eval x = .slice (some ⟨b, off, none⟩) len cap) (ho : o.op = .indexAddr 22 x (.const (.int .i64 1))) (h : 1 < len) {r : Value} (hr : r = .pointer (some ⟨b, off + 1, none⟩)) : (execOp a.eval o).run Try.prog w = .ok (.value r) w := by
  have i1 : (1 : Int) < (len : Int) := by omega
  subst hr
  unfold execOp
  rw [ho]
  simp only [hx]
  go_simp
theorem o_bc {k f : Int} (x y : Operand) (hx : a.eval x = .int .u8 k) (hy : a.eval y = .int .u8 f) (ho : o.op = .build 39 #[(0, x), (1, y)]) : (execOp a.eval o).run Try.prog w = .ok (.value (cv (kf k f))) w := by
  unfold execOp
  rw [ho]
  simp only [List.map_toArray, List.map_cons, List.map_nil, hx, hy]
  go_simp
  rfl
theorem o_sl2 {b off len cap n : Nat} {A : Option Addr} (x : Operand) (t : Nat) (hx : a.eval x = .slice (some ⟨b, off, none⟩) len cap) (hy : a.eval (.tmp t) = .int .i64 (n : Int)) (ho : o.op = .slice 22 x (some (.const (.int .i64 4))) (some (.tmp t)) none) (hA : (if cap = 4 then (some ⟨b, off, none⟩ : Option Addr) else some ⟨b, off + 4, none⟩) = A) (h1 : 4 ≤ n) (h2 : n ≤ len) (h3 : len ≤ cap) : (execOp a.eval o).run Try.prog w = .ok (.value (.slice A (n - 4) (cap - 4))) w := by
  have i1 : (4 : Int) ≤ (n : Int) := by omega
  have i2 : (n : Int) ≤ (cap : Int) := by omega
  have i3 : (4 : Int) ≤ (cap : Int) := by omega
  unfold execOp
  have hy2 : a.tmps[t]?.getD undef = .int .i64 (n : Int) := by simpa [Act.eval] using hy
  rw [ho, ← hA]
  simp only [hx]
  go_simp
theorem o_read {u0 u1 : Value} (x y : Operand) (h0 : a.eval x = u0) (h1 : a.eval y = u1) (ho : o.op = .call { callee := .value (.func 17), args := #[x, y], argTypes := #[39, 22] }) : (execOp a.eval o).run Try.prog w = .ok (.enter 17 #[u0, u1]) w := by
  unfold execOp
  rw [ho]
  go_simp
  exact ⟨by cases x <;> simpa [Act.eval] using h0, by cases y <;> simpa [Act.eval] using h1⟩
theorem o_al (ho : o.op = .alloc 39) : (execOp a.eval o).run Try.prog w = .ok (.value (.pointer (some ⟨w.heap.size, 0, none⟩))) (w.alloc (.cells (cc (zck 0)) 39)) := by
  unfold execOp
  rw [ho]
  go_simp
  rfl
end
theorem uncons {l : List Value} {n : Nat} (h : l.length = n + 1) : ∃ x l', l = x :: l' ∧ l'.length = n := by
  match l, h with
  | x :: l', h => exact ⟨x, l', rfl, by simpa using h⟩
theorem frame50 (a : Act) (h : a.tmps.size = 50) (hd : a.defers = []) : ∃ x0 x1 x2 x3 x4 x5 x6 x7 x8 x9 x10 x11 x12 x13 x14 x15 x16 x17 x18 x19 x20 x21 x22 x23 x24 x25 x26 x27 x28 x29 x30 x31 x32 x33 x34 x35 x36 x37 x38 x39 x40 x41 x42 x43 x44 x45 x46 x47 x48 x49, a = ⟨#[x0, x1, x2, x3, x4, x5, x6, x7, x8, x9, x10, x11, x12, x13, x14, x15, x16, x17, x18, x19, x20, x21, x22, x23, x24, x25, x26, x27, x28, x29, x30, x31, x32, x33, x34, x35, x36, x37, x38, x39, x40, x41, x42, x43, x44, x45, x46, x47, x48, x49], []⟩ := by
  obtain ⟨⟨l⟩, df⟩ := a
  simp only at hd
  subst hd
  simp only [List.size_toArray] at h
  obtain ⟨x0, l0, rfl, h0⟩ := uncons h
  obtain ⟨x1, l1, rfl, h1⟩ := uncons h0
  obtain ⟨x2, l2, rfl, h2⟩ := uncons h1
  obtain ⟨x3, l3, rfl, h3⟩ := uncons h2
  obtain ⟨x4, l4, rfl, h4⟩ := uncons h3
  obtain ⟨x5, l5, rfl, h5⟩ := uncons h4
  obtain ⟨x6, l6, rfl, h6⟩ := uncons h5
  obtain ⟨x7, l7, rfl, h7⟩ := uncons h6
  obtain ⟨x8, l8, rfl, h8⟩ := uncons h7
  obtain ⟨x9, l9, rfl, h9⟩ := uncons h8
  obtain ⟨x10, l10, rfl, h10⟩ := uncons h9
  obtain ⟨x11, l11, rfl, h11⟩ := uncons h10
  obtain ⟨x12, l12, rfl, h12⟩ := uncons h11
  obtain ⟨x13, l13, rfl, h13⟩ := uncons h12
  obtain ⟨x14, l14, rfl, h14⟩ := uncons h13
  obtain ⟨x15, l15, rfl, h15⟩ := uncons h14
  obtain ⟨x16, l16, rfl, h16⟩ := uncons h15
  obtain ⟨x17, l17, rfl, h17⟩ := uncons h16
  obtain ⟨x18, l18, rfl, h18⟩ := uncons h17
  obtain ⟨x19, l19, rfl, h19⟩ := uncons h18
  obtain ⟨x20, l20, rfl, h20⟩ := uncons h19
  obtain ⟨x21, l21, rfl, h21⟩ := uncons h20
  obtain ⟨x22, l22, rfl, h22⟩ := uncons h21
  obtain ⟨x23, l23, rfl, h23⟩ := uncons h22
  obtain ⟨x24, l24, rfl, h24⟩ := uncons h23
  obtain ⟨x25, l25, rfl, h25⟩ := uncons h24
  obtain ⟨x26, l26, rfl, h26⟩ := uncons h25
  obtain ⟨x27, l27, rfl, h27⟩ := uncons h26
  obtain ⟨x28, l28, rfl, h28⟩ := uncons h27
  obtain ⟨x29, l29, rfl, h29⟩ := uncons h28
  obtain ⟨x30, l30, rfl, h30⟩ := uncons h29
  obtain ⟨x31, l31, rfl, h31⟩ := uncons h30
  obtain ⟨x32, l32, rfl, h32⟩ := uncons h31
  obtain ⟨x33, l33, rfl, h33⟩ := uncons h32
  obtain ⟨x34, l34, rfl, h34⟩ := uncons h33
  obtain ⟨x35, l35, rfl, h35⟩ := uncons h34
  obtain ⟨x36, l36, rfl, h36⟩ := uncons h35
  obtain ⟨x37, l37, rfl, h37⟩ := uncons h36
  obtain ⟨x38, l38, rfl, h38⟩ := uncons h37
  obtain ⟨x39, l39, rfl, h39⟩ := uncons h38
  obtain ⟨x40, l40, rfl, h40⟩ := uncons h39
  obtain ⟨x41, l41, rfl, h41⟩ := uncons h40
  obtain ⟨x42, l42, rfl, h42⟩ := uncons h41
  obtain ⟨x43, l43, rfl, h43⟩ := uncons h42
  obtain ⟨x44, l44, rfl, h44⟩ := uncons h43
  obtain ⟨x45, l45, rfl, h45⟩ := uncons h44
  obtain ⟨x46, l46, rfl, h46⟩ := uncons h45
  obtain ⟨x47, l47, rfl, h47⟩ := uncons h46
  obtain ⟨x48, l48, rfl, h48⟩ := uncons h47
  obtain ⟨x49, l49, rfl, h49⟩ := uncons h48
  obtain rfl := List.eq_nil_of_length_eq_zero h49
  exact ⟨x0, x1, x2, x3, x4, x5, x6, x7, x8, x9, x10, x11, x12, x13, x14, x15, x16, x17, x18, x19, x20, x21, x22, x23, x24, x25, x26, x27, x28, x29, x30, x31, x32, x33, x34, x35, x36, x37, x38, x39, x40, x41, x42, x43, x44, x45, x46, x47, x48, x49, rfl⟩
set_option maxRecDepth 20000 in
set_option maxHeartbeats 1000000 in
theorem rDecode (base : Nat) (w : World) (a : Option Addr) (len cap : Nat) (zs : List Int) (hr : Row base w a len zs) (hlc : len ≤ cap) (hnn : a = none → len = 0 ∧ cap = 0) :
    Calls Try.prog 10 #[.slice a len cap] w fun e w' => ∃ c m er, e = .returned (.tuple #[cv c, .int .i64 ((m : Nat) : Int), .int .i64 er]) ∧ DecR w zs w' c m er := by
  have b1 : Bx (w.alloc (.cells #[.int .u8 0, .int .u8 0, .int .u32 0, .int .u16 0, .int .u16 0, .int .u32 0, .int .u32 0, .int .u32 0, .int .u16 0, .int .u16 0, .slice none 0 0, .slice none 0 0, .slice none 0 0, .slice none 0 0, .slice none 0 0] 39)) w.heap.size (zck 0) := Bx.new w (zck 0)
  have hb1 : Below w.heap.size w (w.alloc (.cells #[.int .u8 0, .int .u8 0, .int .u32 0, .int .u16 0, .int .u16 0, .int .u32 0, .int .u32 0, .int .u32 0, .int .u16 0, .int .u16 0, .slice none 0 0, .slice none 0 0, .slice none 0 0, .slice none 0 0, .slice none 0 0] 39)) := (Below.refl _ w).alloc (Nat.le_refl _) _
  have hzl := hr.1
  have hlim := hr.2.2.1
  have HBY := hidden hr.2.1
  have HR := hidden hr
  have HX := hidden b1
  have HB := hidden hb1
  clear hr b1 hb1
  have bad : ∀ (W : World), Bx W w.heap.size (zck 0) → Below w.heap.size w W → (sto (.pointer (some ⟨w.heap.size, 0, none⟩)) (.agg #[.int .u8 0, .int .u8 0, .int .u32 0, .int .u16 0, .int .u16 0, .int .u32 0, .int .u32 0, .int .u32 0, .int .u16 0, .int .u16 0, .slice none 0 0, .slice none 0 0, .slice none 0 0, .slice none 0 0, .slice none 0 0])).run Try.prog W = .ok () (stoW W w.heap.size (zck 0)) ∧ Bx (stoW W w.heap.size (zck 0)) w.heap.size (zck 0) ∧ Below w.heap.size w (stoW W w.heap.size (zck 0)) := fun W h1 h2 => ⟨sto_run h1 (zck 0), stoW_bx h1 (zck 0), stoW_below (zck 0) h2 (Nat.le_refl _)⟩
  have fin : ∀ (W' : World) (er : Int) (y : Ch), er ≠ 0 → Dec zs er y 0 → Below w.heap.size w W' → DecR w zs W' (zck 0) 0 er := fun W' er y he hd hb => ⟨⟨y, hd, fun h => absurd h he⟩, fun _ => ⟨rfl, rfl⟩, zck_chk _ _, hb⟩
  have FIN := hidden fin
  have BAD := hidden bad
  clear fin bad
  go_enter Try.func10, Try.ntmps10
  go_upto_region 1 with fail
  generalize hW : World.alloc w _ = W at *
  clear hW
  rcases Nat.lt_or_ge len 4 with h4 | h4
  · have h4' : (len : Int) < 4 := by omega
    obtain ⟨t1, t2, t3⟩ := BAD.out W HX.out HB.out
    have T2 := hidden t2
    have F := hidden (FIN.out _ 60 (zch 0 0) (by decide) (.inl ⟨.inl (by omega), rfl⟩) t3)
    clear t2 t3 BAD FIN
    go_wp2
    exact bodyPost_ret (v := .tuple #[cv (zck 0), .int .i64 ((0 : Nat) : Int), .int .i64 60]) (cell_res3 Try.results10 T2.out _ rfl rfl rfl) rfl ⟨zck 0, 0, 60, rfl, F.out⟩
  have h4' : ¬ (len : Int) < 4 := by omega
  have nbd := n2_bound HBY.out 2
  obtain ⟨n, hn⟩ : ∃ n : Nat, n2 zs 2 = (n : Int) := ⟨(n2 zs 2).toNat, by omega⟩
  have GE := rGet2 base W a len cap 2 zs (HR.out.later HB.out) (by omega)
  rw [hn] at GE nbd
  have GE := hidden GE
  have HN := hidden hn
  clear hn
  go_wp2_with fail
  refine Calls.mono GE.out ?_
  rintro e wz ⟨rfl, rfl⟩
  by_cases hc : n < 4 ∨ len < n
  · obtain ⟨t1, t2, t3⟩ := BAD.out W HX.out HB.out
    have T2 := hidden t2
    have F := hidden (FIN.out _ 60 (zch 0 0) (by decide) (.inl ⟨.inr (by rw [HN.out]; omega), rfl⟩) t3)
    clear t2 t3 BAD FIN
    rcases Nat.lt_or_ge n 4 with h5 | h5
    · have h5' : (n : Int) < 4 := by omega
      clear hc
      go_wp2
      exact bodyPost_ret (v := .tuple #[cv (zck 0), .int .i64 ((0 : Nat) : Int), .int .i64 60]) (cell_res3 Try.results10 T2.out _ rfl rfl rfl) rfl ⟨zck 0, 0, 60, rfl, F.out⟩
    · have h5' : ¬ (n : Int) < 4 := by omega
      have h6' : (len : Int) < (n : Int) := by omega
      clear hc
      go_wp2
      exact bodyPost_ret (v := .tuple #[cv (zck 0), .int .i64 ((0 : Nat) : Int), .int .i64 60]) (cell_res3 Try.results10 T2.out _ rfl rfl rfl) rfl ⟨zck 0, 0, 60, rfl, F.out⟩
  have h5 : 4 ≤ n := by omega
  have h6 : n ≤ len := by omega
  have h5' : ¬ (n : Int) < 4 := by omega
  have h6' : ¬ (len : Int) < (n : Int) := by omega
  have HCUT := hidden (show ¬ Cut zs by unfold Cut; rw [HN.out]; omega)
  clear hc
  obtain ⟨b, off, rfl, _, _⟩ := HR.out.2.2.2.resolve_left (by omega)
  obtain ⟨A4, hA4⟩ : ∃ A4, (if cap = 4 then (some ⟨b, off, none⟩ : Option Addr) else some ⟨b, off + 4, none⟩) = A4 := ⟨_, rfl⟩
  have HA4 := hidden (show cutA (some ⟨b, off, none⟩) cap 4 = A4 by rw [← hA4]; unfold cutA Addr.add; rfl)
  obtain ⟨B, hB⟩ : ∃ B, body zs = B := ⟨_, rfl⟩
  have hBe : (zs.drop 4).take (n - 4) = B := by rw [← hB, body_eq zs (n - 4) (by rw [HN.out]; omega)]
  have HRB := hidden (show ∀ x, Below W.heap.size W x → Row base x A4 (n - 4) B from fun x hx => by
    rw [← HA4.out, ← hBe]
    exact row_take (Par.cutA_row ((HR.out.later HB.out).later hx) (by omega) hlc hnn) (n - 4) (by omega))
  have HNA := hidden (show A4 = none → n - 4 = 0 ∧ cap - 4 = 0 from fun h => by rw [← HA4.out] at h; have := Par.cutA_none (k := 4) hnn h; omega)
  generalize hk : zs.getD 0 0 = k at *
  generalize hf : zs.getD 1 0 = f at *
  have kb : 0 ≤ k ∧ k < 256 := by rw [← hk]; exact Par.at_bound zs HBY.out 0
  have fb : 0 ≤ f ∧ f < 256 := by rw [← hf]; exact Par.at_bound zs HBY.out 1
  have c0 : ∀ x, Below W.heap.size W x → x.cell? ⟨b, off, none⟩ = some (.int .u8 k) := fun x hx => by
    obtain ⟨b', off', e, hc⟩ := row_cell (HR.out.later HB.out) hx (j := 0) (by omega)
    cases e
    rw [← hk]
    exact hc
  have c1 : ∀ x, Below W.heap.size W x → x.cell? ⟨b, off + 1, none⟩ = some (.int .u8 f) := fun x hx => by
    obtain ⟨b', off', e, hc⟩ := row_cell (HR.out.later HB.out) hx (j := 1) (by omega)
    cases e
    rw [← hf]
    exact hc
  have RD := hidden (show ∀ x, Below W.heap.size W x → Calls Try.prog 17 #[cv (kf k f), .slice A4 (n - 4) (cap - 4)] x fun e w' => RdR x B k (zch k (flg k f)) e w' from fun x hx => rRead base x A4 (n - 4) (cap - 4) B k f fb (HRB.out x hx) (by omega) HNA.out)
  go_upto_region 6 with fail
  refine Ord.wp_region_allC (by kernel_rfl) [0, 1, 2, 3, 4, 5, 6, 7, 8, 9, 10, 11, 12, 13, 14, 15, 16] (fun L ac x => ac.tmps.size = 50 ∧ ac.defers = [] ∧ ac.eval (.tmp 0) = .slice (some ⟨b, off, none⟩) len cap ∧ ac.eval (.tmp 2) = .pointer (some ⟨w.heap.size, 0, none⟩) ∧ ac.eval (.tmp 3) = .int .i64 0 ∧ ac.eval (.tmp 4) = .int .i64 0 ∧ ac.eval (.tmp 5) = .int .i64 (n : Int) ∧ (L 0 = true → ac.eval (.tmp 25) = .slice (some ⟨b, off, none⟩) len cap) ∧ (L 1 = true → ac.eval (.tmp 26) = .pointer (some ⟨b, off, none⟩)) ∧ (L 2 = true → ac.eval (.tmp 27) = .int .u8 k) ∧ (L 3 = true → ac.eval (.tmp 28) = .slice (some ⟨b, off, none⟩) len cap) ∧ (L 4 = true → ac.eval (.tmp 29) = .pointer (some ⟨b, off + 1, none⟩)) ∧ (L 5 = true → ac.eval (.tmp 30) = .int .u8 f) ∧ (L 6 = true → ac.eval (.tmp 31) = cv (kf k f)) ∧ (L 7 = true → ac.eval (.tmp 32) = .slice (some ⟨b, off, none⟩) len cap) ∧ (L 8 = true → ac.eval (.tmp 33) = .int .i64 (n : Int)) ∧ (L 9 = true → ac.eval (.tmp 34) = .slice A4 (n - 4) (cap - 4)) ∧ Below W.heap.size W x ∧ ∃ p c' er, (L 14 = true → ac.eval (.tmp 6) = .pointer (some ⟨p, 0, none⟩) ∧ W.heap.size ≤ p ∧ Bx x p (if L 15 = true then c' else zck 0)) ∧ (L 10 = true → ac.eval (.tmp 35) = .tuple #[cv c', .int .i64 er] ∧ Tz W B k f c' er x ∧ (L 14 = true → er = 0 → AvC (some p) c')) ∧ (L 11 = true → ac.eval (.tmp 24) = .tuple #[cv c', .int .i64 er]) ∧ (L 12 = true → ac.eval (.tmp 36) = cv c') ∧ (L 13 = true → ac.eval (.tmp 37) = .int .i64 er) ∧ (L 16 = true → ac.eval (.tmp 7) = .int .i64 er)) (by kernel_rfl) ?_ ?_ ?_ ?_
  case refine_1 =>
    intro L i o ac x ho hi hcl hdep hG
    obtain ⟨g1, g2, k0, k2, k3, k4, k5, f0, f1, f2, f3, f4, f5, f6, f7, f8, f9, bx, p, c', er, e14, e10, e11, e12, e13, e16⟩ := hG
    match i, ho, hi with
    | 0, ho, hi =>
      cases ho
      refine Ord.wpOp_of rfl rfl (Ord.wp_value (v := .slice (some ⟨b, off, none⟩) len cap) (w' := x) (o_mv _ rfl k0) ?_)
      exact ⟨(Ord.size_put _ 25 _).trans g1, g2, (Ord.eval_put_other _ 25 0 _ (by decide)).trans k0, (Ord.eval_put_other _ 25 2 _ (by decide)).trans k2, (Ord.eval_put_other _ 25 3 _ (by decide)).trans k3, (Ord.eval_put_other _ 25 4 _ (by decide)).trans k4, (Ord.eval_put_other _ 25 5 _ (by decide)).trans k5, fun _ => Ord.eval_put_same _ _ _ (by rw [g1]; decide), fun h => (Ord.eval_put_other _ 25 26 _ (by decide)).trans (f1 (by simpa [Ord.upd] using h)), fun h => (Ord.eval_put_other _ 25 27 _ (by decide)).trans (f2 (by simpa [Ord.upd] using h)), fun h => (Ord.eval_put_other _ 25 28 _ (by decide)).trans (f3 (by simpa [Ord.upd] using h)), fun h => (Ord.eval_put_other _ 25 29 _ (by decide)).trans (f4 (by simpa [Ord.upd] using h)), fun h => (Ord.eval_put_other _ 25 30 _ (by decide)).trans (f5 (by simpa [Ord.upd] using h)), fun h => (Ord.eval_put_other _ 25 31 _ (by decide)).trans (f6 (by simpa [Ord.upd] using h)), fun h => (Ord.eval_put_other _ 25 32 _ (by decide)).trans (f7 (by simpa [Ord.upd] using h)), fun h => (Ord.eval_put_other _ 25 33 _ (by decide)).trans (f8 (by simpa [Ord.upd] using h)), fun h => (Ord.eval_put_other _ 25 34 _ (by decide)).trans (f9 (by simpa [Ord.upd] using h)), bx, p, c', er, fun h => by
          obtain ⟨q1, q2, q3⟩ := e14 (by simpa [Ord.upd] using h)
          exact ⟨(Ord.eval_put_other _ 25 6 _ (by decide)).trans q1, q2, by simpa [Ord.upd] using q3⟩,
        fun h => by
          obtain ⟨q1, q2, q3⟩ := e10 (by simpa [Ord.upd] using h)
          exact ⟨(Ord.eval_put_other _ 25 35 _ (by decide)).trans q1, q2, fun h' => q3 (by simpa [Ord.upd] using h')⟩,
        fun h => (Ord.eval_put_other _ 25 24 _ (by decide)).trans (e11 (by simpa [Ord.upd] using h)),
        fun h => (Ord.eval_put_other _ 25 36 _ (by decide)).trans (e12 (by simpa [Ord.upd] using h)),
        fun h => (Ord.eval_put_other _ 25 37 _ (by decide)).trans (e13 (by simpa [Ord.upd] using h)),
        fun h => (Ord.eval_put_other _ 25 7 _ (by decide)).trans (e16 (by simpa [Ord.upd] using h))⟩
    | 1, ho, hi =>
      cases ho
      have da := f0 (hdep ⟨0, .data⟩ (by simp) rfl)
      refine Ord.wpOp_of rfl rfl (Ord.wp_value (v := .pointer (some ⟨b, off, none⟩)) (w' := x) (o_ia _ da rfl (by omega) rfl) ?_)
      exact ⟨(Ord.size_put _ 26 _).trans g1, g2, (Ord.eval_put_other _ 26 0 _ (by decide)).trans k0, (Ord.eval_put_other _ 26 2 _ (by decide)).trans k2, (Ord.eval_put_other _ 26 3 _ (by decide)).trans k3, (Ord.eval_put_other _ 26 4 _ (by decide)).trans k4, (Ord.eval_put_other _ 26 5 _ (by decide)).trans k5, fun h => (Ord.eval_put_other _ 26 25 _ (by decide)).trans (f0 (by simpa [Ord.upd] using h)), fun _ => Ord.eval_put_same _ _ _ (by rw [g1]; decide), fun h => (Ord.eval_put_other _ 26 27 _ (by decide)).trans (f2 (by simpa [Ord.upd] using h)), fun h => (Ord.eval_put_other _ 26 28 _ (by decide)).trans (f3 (by simpa [Ord.upd] using h)), fun h => (Ord.eval_put_other _ 26 29 _ (by decide)).trans (f4 (by simpa [Ord.upd] using h)), fun h => (Ord.eval_put_other _ 26 30 _ (by decide)).trans (f5 (by simpa [Ord.upd] using h)), fun h => (Ord.eval_put_other _ 26 31 _ (by decide)).trans (f6 (by simpa [Ord.upd] using h)), fun h => (Ord.eval_put_other _ 26 32 _ (by decide)).trans (f7 (by simpa [Ord.upd] using h)), fun h => (Ord.eval_put_other _ 26 33 _ (by decide)).trans (f8 (by simpa [Ord.upd] using h)), fun h => (Ord.eval_put_other _ 26 34 _ (by decide)).trans (f9 (by simpa [Ord.upd] using h)), bx, p, c', er, fun h => by
          obtain ⟨q1, q2, q3⟩ := e14 (by simpa [Ord.upd] using h)
          exact ⟨(Ord.eval_put_other _ 26 6 _ (by decide)).trans q1, q2, by simpa [Ord.upd] using q3⟩,
        fun h => by
          obtain ⟨q1, q2, q3⟩ := e10 (by simpa [Ord.upd] using h)
          exact ⟨(Ord.eval_put_other _ 26 35 _ (by decide)).trans q1, q2, fun h' => q3 (by simpa [Ord.upd] using h')⟩,
        fun h => (Ord.eval_put_other _ 26 24 _ (by decide)).trans (e11 (by simpa [Ord.upd] using h)),
        fun h => (Ord.eval_put_other _ 26 36 _ (by decide)).trans (e12 (by simpa [Ord.upd] using h)),
        fun h => (Ord.eval_put_other _ 26 37 _ (by decide)).trans (e13 (by simpa [Ord.upd] using h)),
        fun h => (Ord.eval_put_other _ 26 7 _ (by decide)).trans (e16 (by simpa [Ord.upd] using h))⟩
    | 2, ho, hi =>
      cases ho
      have da := f1 (hdep ⟨1, .data⟩ (by simp) rfl)
      refine Ord.wpOp_of rfl rfl (Ord.wp_value (v := .int .u8 k) (w' := x) (e_ld _ da rfl (ld8 _ _ _ (c0 x bx))) ?_)
      exact ⟨(Ord.size_put _ 27 _).trans g1, g2, (Ord.eval_put_other _ 27 0 _ (by decide)).trans k0, (Ord.eval_put_other _ 27 2 _ (by decide)).trans k2, (Ord.eval_put_other _ 27 3 _ (by decide)).trans k3, (Ord.eval_put_other _ 27 4 _ (by decide)).trans k4, (Ord.eval_put_other _ 27 5 _ (by decide)).trans k5, fun h => (Ord.eval_put_other _ 27 25 _ (by decide)).trans (f0 (by simpa [Ord.upd] using h)), fun h => (Ord.eval_put_other _ 27 26 _ (by decide)).trans (f1 (by simpa [Ord.upd] using h)), fun _ => Ord.eval_put_same _ _ _ (by rw [g1]; decide), fun h => (Ord.eval_put_other _ 27 28 _ (by decide)).trans (f3 (by simpa [Ord.upd] using h)), fun h => (Ord.eval_put_other _ 27 29 _ (by decide)).trans (f4 (by simpa [Ord.upd] using h)), fun h => (Ord.eval_put_other _ 27 30 _ (by decide)).trans (f5 (by simpa [Ord.upd] using h)), fun h => (Ord.eval_put_other _ 27 31 _ (by decide)).trans (f6 (by simpa [Ord.upd] using h)), fun h => (Ord.eval_put_other _ 27 32 _ (by decide)).trans (f7 (by simpa [Ord.upd] using h)), fun h => (Ord.eval_put_other _ 27 33 _ (by decide)).trans (f8 (by simpa [Ord.upd] using h)), fun h => (Ord.eval_put_other _ 27 34 _ (by decide)).trans (f9 (by simpa [Ord.upd] using h)), bx, p, c', er, fun h => by
          obtain ⟨q1, q2, q3⟩ := e14 (by simpa [Ord.upd] using h)
          exact ⟨(Ord.eval_put_other _ 27 6 _ (by decide)).trans q1, q2, by simpa [Ord.upd] using q3⟩,
        fun h => by
          obtain ⟨q1, q2, q3⟩ := e10 (by simpa [Ord.upd] using h)
          exact ⟨(Ord.eval_put_other _ 27 35 _ (by decide)).trans q1, q2, fun h' => q3 (by simpa [Ord.upd] using h')⟩,
        fun h => (Ord.eval_put_other _ 27 24 _ (by decide)).trans (e11 (by simpa [Ord.upd] using h)),
        fun h => (Ord.eval_put_other _ 27 36 _ (by decide)).trans (e12 (by simpa [Ord.upd] using h)),
        fun h => (Ord.eval_put_other _ 27 37 _ (by decide)).trans (e13 (by simpa [Ord.upd] using h)),
        fun h => (Ord.eval_put_other _ 27 7 _ (by decide)).trans (e16 (by simpa [Ord.upd] using h))⟩
    | 3, ho, hi =>
      cases ho
      refine Ord.wpOp_of rfl rfl (Ord.wp_value (v := .slice (some ⟨b, off, none⟩) len cap) (w' := x) (o_mv _ rfl k0) ?_)
      exact ⟨(Ord.size_put _ 28 _).trans g1, g2, (Ord.eval_put_other _ 28 0 _ (by decide)).trans k0, (Ord.eval_put_other _ 28 2 _ (by decide)).trans k2, (Ord.eval_put_other _ 28 3 _ (by decide)).trans k3, (Ord.eval_put_other _ 28 4 _ (by decide)).trans k4, (Ord.eval_put_other _ 28 5 _ (by decide)).trans k5, fun h => (Ord.eval_put_other _ 28 25 _ (by decide)).trans (f0 (by simpa [Ord.upd] using h)), fun h => (Ord.eval_put_other _ 28 26 _ (by decide)).trans (f1 (by simpa [Ord.upd] using h)), fun h => (Ord.eval_put_other _ 28 27 _ (by decide)).trans (f2 (by simpa [Ord.upd] using h)), fun _ => Ord.eval_put_same _ _ _ (by rw [g1]; decide), fun h => (Ord.eval_put_other _ 28 29 _ (by decide)).trans (f4 (by simpa [Ord.upd] using h)), fun h => (Ord.eval_put_other _ 28 30 _ (by decide)).trans (f5 (by simpa [Ord.upd] using h)), fun h => (Ord.eval_put_other _ 28 31 _ (by decide)).trans (f6 (by simpa [Ord.upd] using h)), fun h => (Ord.eval_put_other _ 28 32 _ (by decide)).trans (f7 (by simpa [Ord.upd] using h)), fun h => (Ord.eval_put_other _ 28 33 _ (by decide)).trans (f8 (by simpa [Ord.upd] using h)), fun h => (Ord.eval_put_other _ 28 34 _ (by decide)).trans (f9 (by simpa [Ord.upd] using h)), bx, p, c', er, fun h => by
          obtain ⟨q1, q2, q3⟩ := e14 (by simpa [Ord.upd] using h)
          exact ⟨(Ord.eval_put_other _ 28 6 _ (by decide)).trans q1, q2, by simpa [Ord.upd] using q3⟩,
        fun h => by
          obtain ⟨q1, q2, q3⟩ := e10 (by simpa [Ord.upd] using h)
          exact ⟨(Ord.eval_put_other _ 28 35 _ (by decide)).trans q1, q2, fun h' => q3 (by simpa [Ord.upd] using h')⟩,
        fun h => (Ord.eval_put_other _ 28 24 _ (by decide)).trans (e11 (by simpa [Ord.upd] using h)),
        fun h => (Ord.eval_put_other _ 28 36 _ (by decide)).trans (e12 (by simpa [Ord.upd] using h)),
        fun h => (Ord.eval_put_other _ 28 37 _ (by decide)).trans (e13 (by simpa [Ord.upd] using h)),
        fun h => (Ord.eval_put_other _ 28 7 _ (by decide)).trans (e16 (by simpa [Ord.upd] using h))⟩
    | 4, ho, hi =>
      cases ho
      have da := f3 (hdep ⟨3, .data⟩ (by simp) rfl)
      refine Ord.wpOp_of rfl rfl (Ord.wp_value (v := .pointer (some ⟨b, off + 1, none⟩)) (w' := x) (o_ia1 _ da rfl (by omega) rfl) ?_)
      exact ⟨(Ord.size_put _ 29 _).trans g1, g2, (Ord.eval_put_other _ 29 0 _ (by decide)).trans k0, (Ord.eval_put_other _ 29 2 _ (by decide)).trans k2, (Ord.eval_put_other _ 29 3 _ (by decide)).trans k3, (Ord.eval_put_other _ 29 4 _ (by decide)).trans k4, (Ord.eval_put_other _ 29 5 _ (by decide)).trans k5, fun h => (Ord.eval_put_other _ 29 25 _ (by decide)).trans (f0 (by simpa [Ord.upd] using h)), fun h => (Ord.eval_put_other _ 29 26 _ (by decide)).trans (f1 (by simpa [Ord.upd] using h)), fun h => (Ord.eval_put_other _ 29 27 _ (by decide)).trans (f2 (by simpa [Ord.upd] using h)), fun h => (Ord.eval_put_other _ 29 28 _ (by decide)).trans (f3 (by simpa [Ord.upd] using h)), fun _ => Ord.eval_put_same _ _ _ (by rw [g1]; decide), fun h => (Ord.eval_put_other _ 29 30 _ (by decide)).trans (f5 (by simpa [Ord.upd] using h)), fun h => (Ord.eval_put_other _ 29 31 _ (by decide)).trans (f6 (by simpa [Ord.upd] using h)), fun h => (Ord.eval_put_other _ 29 32 _ (by decide)).trans (f7 (by simpa [Ord.upd] using h)), fun h => (Ord.eval_put_other _ 29 33 _ (by decide)).trans (f8 (by simpa [Ord.upd] using h)), fun h => (Ord.eval_put_other _ 29 34 _ (by decide)).trans (f9 (by simpa [Ord.upd] using h)), bx, p, c', er, fun h => by
          obtain ⟨q1, q2, q3⟩ := e14 (by simpa [Ord.upd] using h)
          exact ⟨(Ord.eval_put_other _ 29 6 _ (by decide)).trans q1, q2, by simpa [Ord.upd] using q3⟩,
        fun h => by
          obtain ⟨q1, q2, q3⟩ := e10 (by simpa [Ord.upd] using h)
          exact ⟨(Ord.eval_put_other _ 29 35 _ (by decide)).trans q1, q2, fun h' => q3 (by simpa [Ord.upd] using h')⟩,
        fun h => (Ord.eval_put_other _ 29 24 _ (by decide)).trans (e11 (by simpa [Ord.upd] using h)),
        fun h => (Ord.eval_put_other _ 29 36 _ (by decide)).trans (e12 (by simpa [Ord.upd] using h)),
        fun h => (Ord.eval_put_other _ 29 37 _ (by decide)).trans (e13 (by simpa [Ord.upd] using h)),
        fun h => (Ord.eval_put_other _ 29 7 _ (by decide)).trans (e16 (by simpa [Ord.upd] using h))⟩
    | 5, ho, hi =>
      cases ho
      have da := f4 (hdep ⟨4, .data⟩ (by simp) rfl)
      refine Ord.wpOp_of rfl rfl (Ord.wp_value (v := .int .u8 f) (w' := x) (e_ld _ da rfl (ld8 _ _ _ (c1 x bx))) ?_)
      exact ⟨(Ord.size_put _ 30 _).trans g1, g2, (Ord.eval_put_other _ 30 0 _ (by decide)).trans k0, (Ord.eval_put_other _ 30 2 _ (by decide)).trans k2, (Ord.eval_put_other _ 30 3 _ (by decide)).trans k3, (Ord.eval_put_other _ 30 4 _ (by decide)).trans k4, (Ord.eval_put_other _ 30 5 _ (by decide)).trans k5, fun h => (Ord.eval_put_other _ 30 25 _ (by decide)).trans (f0 (by simpa [Ord.upd] using h)), fun h => (Ord.eval_put_other _ 30 26 _ (by decide)).trans (f1 (by simpa [Ord.upd] using h)), fun h => (Ord.eval_put_other _ 30 27 _ (by decide)).trans (f2 (by simpa [Ord.upd] using h)), fun h => (Ord.eval_put_other _ 30 28 _ (by decide)).trans (f3 (by simpa [Ord.upd] using h)), fun h => (Ord.eval_put_other _ 30 29 _ (by decide)).trans (f4 (by simpa [Ord.upd] using h)), fun _ => Ord.eval_put_same _ _ _ (by rw [g1]; decide), fun h => (Ord.eval_put_other _ 30 31 _ (by decide)).trans (f6 (by simpa [Ord.upd] using h)), fun h => (Ord.eval_put_other _ 30 32 _ (by decide)).trans (f7 (by simpa [Ord.upd] using h)), fun h => (Ord.eval_put_other _ 30 33 _ (by decide)).trans (f8 (by simpa [Ord.upd] using h)), fun h => (Ord.eval_put_other _ 30 34 _ (by decide)).trans (f9 (by simpa [Ord.upd] using h)), bx, p, c', er, fun h => by
          obtain ⟨q1, q2, q3⟩ := e14 (by simpa [Ord.upd] using h)
          exact ⟨(Ord.eval_put_other _ 30 6 _ (by decide)).trans q1, q2, by simpa [Ord.upd] using q3⟩,
        fun h => by
          obtain ⟨q1, q2, q3⟩ := e10 (by simpa [Ord.upd] using h)
          exact ⟨(Ord.eval_put_other _ 30 35 _ (by decide)).trans q1, q2, fun h' => q3 (by simpa [Ord.upd] using h')⟩,
        fun h => (Ord.eval_put_other _ 30 24 _ (by decide)).trans (e11 (by simpa [Ord.upd] using h)),
        fun h => (Ord.eval_put_other _ 30 36 _ (by decide)).trans (e12 (by simpa [Ord.upd] using h)),
        fun h => (Ord.eval_put_other _ 30 37 _ (by decide)).trans (e13 (by simpa [Ord.upd] using h)),
        fun h => (Ord.eval_put_other _ 30 7 _ (by decide)).trans (e16 (by simpa [Ord.upd] using h))⟩
    | 6, ho, hi =>
      cases ho
      have da := f2 (hdep ⟨2, .data⟩ (by simp) rfl)
      have db := f5 (hdep ⟨5, .data⟩ (by simp) rfl)
      refine Ord.wpOp_of rfl rfl (Ord.wp_value (v := cv (kf k f)) (w' := x) (o_bc _ _ da db rfl) ?_)
      exact ⟨(Ord.size_put _ 31 _).trans g1, g2, (Ord.eval_put_other _ 31 0 _ (by decide)).trans k0, (Ord.eval_put_other _ 31 2 _ (by decide)).trans k2, (Ord.eval_put_other _ 31 3 _ (by decide)).trans k3, (Ord.eval_put_other _ 31 4 _ (by decide)).trans k4, (Ord.eval_put_other _ 31 5 _ (by decide)).trans k5, fun h => (Ord.eval_put_other _ 31 25 _ (by decide)).trans (f0 (by simpa [Ord.upd] using h)), fun h => (Ord.eval_put_other _ 31 26 _ (by decide)).trans (f1 (by simpa [Ord.upd] using h)), fun h => (Ord.eval_put_other _ 31 27 _ (by decide)).trans (f2 (by simpa [Ord.upd] using h)), fun h => (Ord.eval_put_other _ 31 28 _ (by decide)).trans (f3 (by simpa [Ord.upd] using h)), fun h => (Ord.eval_put_other _ 31 29 _ (by decide)).trans (f4 (by simpa [Ord.upd] using h)), fun h => (Ord.eval_put_other _ 31 30 _ (by decide)).trans (f5 (by simpa [Ord.upd] using h)), fun _ => Ord.eval_put_same _ _ _ (by rw [g1]; decide), fun h => (Ord.eval_put_other _ 31 32 _ (by decide)).trans (f7 (by simpa [Ord.upd] using h)), fun h => (Ord.eval_put_other _ 31 33 _ (by decide)).trans (f8 (by simpa [Ord.upd] using h)), fun h => (Ord.eval_put_other _ 31 34 _ (by decide)).trans (f9 (by simpa [Ord.upd] using h)), bx, p, c', er, fun h => by
          obtain ⟨q1, q2, q3⟩ := e14 (by simpa [Ord.upd] using h)
          exact ⟨(Ord.eval_put_other _ 31 6 _ (by decide)).trans q1, q2, by simpa [Ord.upd] using q3⟩,
        fun h => by
          obtain ⟨q1, q2, q3⟩ := e10 (by simpa [Ord.upd] using h)
          exact ⟨(Ord.eval_put_other _ 31 35 _ (by decide)).trans q1, q2, fun h' => q3 (by simpa [Ord.upd] using h')⟩,
        fun h => (Ord.eval_put_other _ 31 24 _ (by decide)).trans (e11 (by simpa [Ord.upd] using h)),
        fun h => (Ord.eval_put_other _ 31 36 _ (by decide)).trans (e12 (by simpa [Ord.upd] using h)),
        fun h => (Ord.eval_put_other _ 31 37 _ (by decide)).trans (e13 (by simpa [Ord.upd] using h)),
        fun h => (Ord.eval_put_other _ 31 7 _ (by decide)).trans (e16 (by simpa [Ord.upd] using h))⟩
    | 7, ho, hi =>
      cases ho
      refine Ord.wpOp_of rfl rfl (Ord.wp_value (v := .slice (some ⟨b, off, none⟩) len cap) (w' := x) (o_mv _ rfl k0) ?_)
      exact ⟨(Ord.size_put _ 32 _).trans g1, g2, (Ord.eval_put_other _ 32 0 _ (by decide)).trans k0, (Ord.eval_put_other _ 32 2 _ (by decide)).trans k2, (Ord.eval_put_other _ 32 3 _ (by decide)).trans k3, (Ord.eval_put_other _ 32 4 _ (by decide)).trans k4, (Ord.eval_put_other _ 32 5 _ (by decide)).trans k5, fun h => (Ord.eval_put_other _ 32 25 _ (by decide)).trans (f0 (by simpa [Ord.upd] using h)), fun h => (Ord.eval_put_other _ 32 26 _ (by decide)).trans (f1 (by simpa [Ord.upd] using h)), fun h => (Ord.eval_put_other _ 32 27 _ (by decide)).trans (f2 (by simpa [Ord.upd] using h)), fun h => (Ord.eval_put_other _ 32 28 _ (by decide)).trans (f3 (by simpa [Ord.upd] using h)), fun h => (Ord.eval_put_other _ 32 29 _ (by decide)).trans (f4 (by simpa [Ord.upd] using h)), fun h => (Ord.eval_put_other _ 32 30 _ (by decide)).trans (f5 (by simpa [Ord.upd] using h)), fun h => (Ord.eval_put_other _ 32 31 _ (by decide)).trans (f6 (by simpa [Ord.upd] using h)), fun _ => Ord.eval_put_same _ _ _ (by rw [g1]; decide), fun h => (Ord.eval_put_other _ 32 33 _ (by decide)).trans (f8 (by simpa [Ord.upd] using h)), fun h => (Ord.eval_put_other _ 32 34 _ (by decide)).trans (f9 (by simpa [Ord.upd] using h)), bx, p, c', er, fun h => by
          obtain ⟨q1, q2, q3⟩ := e14 (by simpa [Ord.upd] using h)
          exact ⟨(Ord.eval_put_other _ 32 6 _ (by decide)).trans q1, q2, by simpa [Ord.upd] using q3⟩,
        fun h => by
          obtain ⟨q1, q2, q3⟩ := e10 (by simpa [Ord.upd] using h)
          exact ⟨(Ord.eval_put_other _ 32 35 _ (by decide)).trans q1, q2, fun h' => q3 (by simpa [Ord.upd] using h')⟩,
        fun h => (Ord.eval_put_other _ 32 24 _ (by decide)).trans (e11 (by simpa [Ord.upd] using h)),
        fun h => (Ord.eval_put_other _ 32 36 _ (by decide)).trans (e12 (by simpa [Ord.upd] using h)),
        fun h => (Ord.eval_put_other _ 32 37 _ (by decide)).trans (e13 (by simpa [Ord.upd] using h)),
        fun h => (Ord.eval_put_other _ 32 7 _ (by decide)).trans (e16 (by simpa [Ord.upd] using h))⟩
    | 8, ho, hi =>
      cases ho
      refine Ord.wpOp_of rfl rfl (Ord.wp_value (v := .int .i64 (n : Int)) (w' := x) (o_mv _ rfl k5) ?_)
      exact ⟨(Ord.size_put _ 33 _).trans g1, g2, (Ord.eval_put_other _ 33 0 _ (by decide)).trans k0, (Ord.eval_put_other _ 33 2 _ (by decide)).trans k2, (Ord.eval_put_other _ 33 3 _ (by decide)).trans k3, (Ord.eval_put_other _ 33 4 _ (by decide)).trans k4, (Ord.eval_put_other _ 33 5 _ (by decide)).trans k5, fun h => (Ord.eval_put_other _ 33 25 _ (by decide)).trans (f0 (by simpa [Ord.upd] using h)), fun h => (Ord.eval_put_other _ 33 26 _ (by decide)).trans (f1 (by simpa [Ord.upd] using h)), fun h => (Ord.eval_put_other _ 33 27 _ (by decide)).trans (f2 (by simpa [Ord.upd] using h)), fun h => (Ord.eval_put_other _ 33 28 _ (by decide)).trans (f3 (by simpa [Ord.upd] using h)), fun h => (Ord.eval_put_other _ 33 29 _ (by decide)).trans (f4 (by simpa [Ord.upd] using h)), fun h => (Ord.eval_put_other _ 33 30 _ (by decide)).trans (f5 (by simpa [Ord.upd] using h)), fun h => (Ord.eval_put_other _ 33 31 _ (by decide)).trans (f6 (by simpa [Ord.upd] using h)), fun h => (Ord.eval_put_other _ 33 32 _ (by decide)).trans (f7 (by simpa [Ord.upd] using h)), fun _ => Ord.eval_put_same _ _ _ (by rw [g1]; decide), fun h => (Ord.eval_put_other _ 33 34 _ (by decide)).trans (f9 (by simpa [Ord.upd] using h)), bx, p, c', er, fun h => by
          obtain ⟨q1, q2, q3⟩ := e14 (by simpa [Ord.upd] using h)
          exact ⟨(Ord.eval_put_other _ 33 6 _ (by decide)).trans q1, q2, by simpa [Ord.upd] using q3⟩,
        fun h => by
          obtain ⟨q1, q2, q3⟩ := e10 (by simpa [Ord.upd] using h)
          exact ⟨(Ord.eval_put_other _ 33 35 _ (by decide)).trans q1, q2, fun h' => q3 (by simpa [Ord.upd] using h')⟩,
        fun h => (Ord.eval_put_other _ 33 24 _ (by decide)).trans (e11 (by simpa [Ord.upd] using h)),
        fun h => (Ord.eval_put_other _ 33 36 _ (by decide)).trans (e12 (by simpa [Ord.upd] using h)),
        fun h => (Ord.eval_put_other _ 33 37 _ (by decide)).trans (e13 (by simpa [Ord.upd] using h)),
        fun h => (Ord.eval_put_other _ 33 7 _ (by decide)).trans (e16 (by simpa [Ord.upd] using h))⟩
    | 9, ho, hi =>
      cases ho
      have da := f7 (hdep ⟨7, .data⟩ (by simp) rfl)
      have db := f8 (hdep ⟨8, .data⟩ (by simp) rfl)
      refine Ord.wpOp_of rfl rfl (Ord.wp_value (v := .slice A4 (n - 4) (cap - 4)) (w' := x) (o_sl2 _ _ da db rfl hA4 (by omega) (by omega) (by omega)) ?_)
      exact ⟨(Ord.size_put _ 34 _).trans g1, g2, (Ord.eval_put_other _ 34 0 _ (by decide)).trans k0, (Ord.eval_put_other _ 34 2 _ (by decide)).trans k2, (Ord.eval_put_other _ 34 3 _ (by decide)).trans k3, (Ord.eval_put_other _ 34 4 _ (by decide)).trans k4, (Ord.eval_put_other _ 34 5 _ (by decide)).trans k5, fun h => (Ord.eval_put_other _ 34 25 _ (by decide)).trans (f0 (by simpa [Ord.upd] using h)), fun h => (Ord.eval_put_other _ 34 26 _ (by decide)).trans (f1 (by simpa [Ord.upd] using h)), fun h => (Ord.eval_put_other _ 34 27 _ (by decide)).trans (f2 (by simpa [Ord.upd] using h)), fun h => (Ord.eval_put_other _ 34 28 _ (by decide)).trans (f3 (by simpa [Ord.upd] using h)), fun h => (Ord.eval_put_other _ 34 29 _ (by decide)).trans (f4 (by simpa [Ord.upd] using h)), fun h => (Ord.eval_put_other _ 34 30 _ (by decide)).trans (f5 (by simpa [Ord.upd] using h)), fun h => (Ord.eval_put_other _ 34 31 _ (by decide)).trans (f6 (by simpa [Ord.upd] using h)), fun h => (Ord.eval_put_other _ 34 32 _ (by decide)).trans (f7 (by simpa [Ord.upd] using h)), fun h => (Ord.eval_put_other _ 34 33 _ (by decide)).trans (f8 (by simpa [Ord.upd] using h)), fun _ => Ord.eval_put_same _ _ _ (by rw [g1]; decide), bx, p, c', er, fun h => by
          obtain ⟨q1, q2, q3⟩ := e14 (by simpa [Ord.upd] using h)
          exact ⟨(Ord.eval_put_other _ 34 6 _ (by decide)).trans q1, q2, by simpa [Ord.upd] using q3⟩,
        fun h => by
          obtain ⟨q1, q2, q3⟩ := e10 (by simpa [Ord.upd] using h)
          exact ⟨(Ord.eval_put_other _ 34 35 _ (by decide)).trans q1, q2, fun h' => q3 (by simpa [Ord.upd] using h')⟩,
        fun h => (Ord.eval_put_other _ 34 24 _ (by decide)).trans (e11 (by simpa [Ord.upd] using h)),
        fun h => (Ord.eval_put_other _ 34 36 _ (by decide)).trans (e12 (by simpa [Ord.upd] using h)),
        fun h => (Ord.eval_put_other _ 34 37 _ (by decide)).trans (e13 (by simpa [Ord.upd] using h)),
        fun h => (Ord.eval_put_other _ 34 7 _ (by decide)).trans (e16 (by simpa [Ord.upd] using h))⟩
    | 10, ho, hi =>
      cases ho
      have da := f6 (hdep ⟨6, .data⟩ (by simp) rfl)
      have db := f9 (hdep ⟨9, .data⟩ (by simp) rfl)
      have l11 : L 11 = false := by
        cases h : L 11 with
        | false => rfl
        | true => exact absurd (hcl 11 _ rfl h ⟨10, .data⟩ (by simp) rfl) (by rw [hi]; decide)
      have l12 : L 12 = false := by
        cases h : L 12 with
        | false => rfl
        | true => exact absurd (hcl 12 _ rfl h ⟨11, .data⟩ (by simp) rfl) (by rw [l11]; decide)
      have l13 : L 13 = false := by
        cases h : L 13 with
        | false => rfl
        | true => exact absurd (hcl 13 _ rfl h ⟨11, .data⟩ (by simp) rfl) (by rw [l11]; decide)
      have l16 : L 16 = false := by
        cases h : L 16 with
        | false => rfl
        | true => exact absurd (hcl 16 _ rfl h ⟨13, .data⟩ (by simp) rfl) (by rw [l13]; decide)
      have l15 : L 15 = false := by
        cases h : L 15 with
        | false => rfl
        | true => exact absurd (hcl 15 _ rfl h ⟨12, .data⟩ (by simp) rfl) (by rw [l12]; decide)
      refine Ord.wpOp_of rfl rfl ?_
      unfold Oper.wp
      rw [o_read _ _ da db rfl]
      refine Calls.mono (RD.out x bx) ?_
      rintro e w2 ⟨c2, er2, y, rfl, hF, hok, b2⟩
      have hsx := bx.size
      have bx2 : Below W.heap.size W w2 := bx.trans (b2.mono hsx)
      exact ⟨(Ord.size_put _ 35 _).trans g1, g2, (Ord.eval_put_other _ 35 0 _ (by decide)).trans k0, (Ord.eval_put_other _ 35 2 _ (by decide)).trans k2, (Ord.eval_put_other _ 35 3 _ (by decide)).trans k3, (Ord.eval_put_other _ 35 4 _ (by decide)).trans k4, (Ord.eval_put_other _ 35 5 _ (by decide)).trans k5, fun h => (Ord.eval_put_other _ 35 25 _ (by decide)).trans (f0 (by simpa [Ord.upd] using h)), fun h => (Ord.eval_put_other _ 35 26 _ (by decide)).trans (f1 (by simpa [Ord.upd] using h)), fun h => (Ord.eval_put_other _ 35 27 _ (by decide)).trans (f2 (by simpa [Ord.upd] using h)), fun h => (Ord.eval_put_other _ 35 28 _ (by decide)).trans (f3 (by simpa [Ord.upd] using h)), fun h => (Ord.eval_put_other _ 35 29 _ (by decide)).trans (f4 (by simpa [Ord.upd] using h)), fun h => (Ord.eval_put_other _ 35 30 _ (by decide)).trans (f5 (by simpa [Ord.upd] using h)), fun h => (Ord.eval_put_other _ 35 31 _ (by decide)).trans (f6 (by simpa [Ord.upd] using h)), fun h => (Ord.eval_put_other _ 35 32 _ (by decide)).trans (f7 (by simpa [Ord.upd] using h)), fun h => (Ord.eval_put_other _ 35 33 _ (by decide)).trans (f8 (by simpa [Ord.upd] using h)), fun h => (Ord.eval_put_other _ 35 34 _ (by decide)).trans (f9 (by simpa [Ord.upd] using h)), bx2, p, c2, er2, fun h => by
          obtain ⟨q1, q2, q3⟩ := e14 (by simpa [Ord.upd] using h)
          rw [l15] at q3
          exact ⟨(Ord.eval_put_other _ 35 6 _ (by decide)).trans q1, q2, by simp only [Ord.upd, l15]; exact q3.later b2⟩, fun _ => ⟨Ord.eval_put_same _ _ _ (by rw [g1]; decide), ⟨y, hF, fun e => ⟨(hok e).1, (hok e).2.mono hsx⟩⟩, fun h he => by
          obtain ⟨q1, q2, q3⟩ := e14 (by simpa [Ord.upd] using h)
          exact avC_of (hok he).2 (fun bb u o hbb _ e => by cases e; have := q3.lt; omega)⟩, fun h => absurd h (by simp [Ord.upd, l11]), fun h => absurd h (by simp [Ord.upd, l12]), fun h => absurd h (by simp [Ord.upd, l13]), fun h => absurd h (by simp [Ord.upd, l16])⟩
    | 11, ho, hi =>
      cases ho
      have l10 : L 10 = true := hdep ⟨10, .data⟩ (by simp) rfl
      refine Ord.wpOp_of rfl rfl (Ord.wp_value (v := .tuple #[cv c', .int .i64 er]) (w' := x) (o_mv _ rfl (e10 l10).1) ?_)
      exact ⟨(Ord.size_put _ 24 _).trans g1, g2, (Ord.eval_put_other _ 24 0 _ (by decide)).trans k0, (Ord.eval_put_other _ 24 2 _ (by decide)).trans k2, (Ord.eval_put_other _ 24 3 _ (by decide)).trans k3, (Ord.eval_put_other _ 24 4 _ (by decide)).trans k4, (Ord.eval_put_other _ 24 5 _ (by decide)).trans k5, fun h => (Ord.eval_put_other _ 24 25 _ (by decide)).trans (f0 (by simpa [Ord.upd] using h)), fun h => (Ord.eval_put_other _ 24 26 _ (by decide)).trans (f1 (by simpa [Ord.upd] using h)), fun h => (Ord.eval_put_other _ 24 27 _ (by decide)).trans (f2 (by simpa [Ord.upd] using h)), fun h => (Ord.eval_put_other _ 24 28 _ (by decide)).trans (f3 (by simpa [Ord.upd] using h)), fun h => (Ord.eval_put_other _ 24 29 _ (by decide)).trans (f4 (by simpa [Ord.upd] using h)), fun h => (Ord.eval_put_other _ 24 30 _ (by decide)).trans (f5 (by simpa [Ord.upd] using h)), fun h => (Ord.eval_put_other _ 24 31 _ (by decide)).trans (f6 (by simpa [Ord.upd] using h)), fun h => (Ord.eval_put_other _ 24 32 _ (by decide)).trans (f7 (by simpa [Ord.upd] using h)), fun h => (Ord.eval_put_other _ 24 33 _ (by decide)).trans (f8 (by simpa [Ord.upd] using h)), fun h => (Ord.eval_put_other _ 24 34 _ (by decide)).trans (f9 (by simpa [Ord.upd] using h)), bx, p, c', er, fun h => by
          obtain ⟨q1, q2, q3⟩ := e14 (by simpa [Ord.upd] using h)
          exact ⟨(Ord.eval_put_other _ 24 6 _ (by decide)).trans q1, q2, by simpa [Ord.upd] using q3⟩,
        fun h => by
          obtain ⟨q1, q2, q3⟩ := e10 (by simpa [Ord.upd] using h)
          exact ⟨(Ord.eval_put_other _ 24 35 _ (by decide)).trans q1, q2, fun h' => q3 (by simpa [Ord.upd] using h')⟩,
        fun _ => Ord.eval_put_same _ _ _ (by rw [g1]; decide),
        fun h => (Ord.eval_put_other _ 24 36 _ (by decide)).trans (e12 (by simpa [Ord.upd] using h)),
        fun h => (Ord.eval_put_other _ 24 37 _ (by decide)).trans (e13 (by simpa [Ord.upd] using h)),
        fun h => (Ord.eval_put_other _ 24 7 _ (by decide)).trans (e16 (by simpa [Ord.upd] using h))⟩
    | 12, ho, hi =>
      cases ho
      have da := e11 (hdep ⟨11, .data⟩ (by simp) rfl)
      refine Ord.wpOp_of rfl rfl (Ord.wp_value (v := cv c') (w' := x) (o_ex (n := 0) _ da rfl rfl) ?_)
      exact ⟨(Ord.size_put _ 36 _).trans g1, g2, (Ord.eval_put_other _ 36 0 _ (by decide)).trans k0, (Ord.eval_put_other _ 36 2 _ (by decide)).trans k2, (Ord.eval_put_other _ 36 3 _ (by decide)).trans k3, (Ord.eval_put_other _ 36 4 _ (by decide)).trans k4, (Ord.eval_put_other _ 36 5 _ (by decide)).trans k5, fun h => (Ord.eval_put_other _ 36 25 _ (by decide)).trans (f0 (by simpa [Ord.upd] using h)), fun h => (Ord.eval_put_other _ 36 26 _ (by decide)).trans (f1 (by simpa [Ord.upd] using h)), fun h => (Ord.eval_put_other _ 36 27 _ (by decide)).trans (f2 (by simpa [Ord.upd] using h)), fun h => (Ord.eval_put_other _ 36 28 _ (by decide)).trans (f3 (by simpa [Ord.upd] using h)), fun h => (Ord.eval_put_other _ 36 29 _ (by decide)).trans (f4 (by simpa [Ord.upd] using h)), fun h => (Ord.eval_put_other _ 36 30 _ (by decide)).trans (f5 (by simpa [Ord.upd] using h)), fun h => (Ord.eval_put_other _ 36 31 _ (by decide)).trans (f6 (by simpa [Ord.upd] using h)), fun h => (Ord.eval_put_other _ 36 32 _ (by decide)).trans (f7 (by simpa [Ord.upd] using h)), fun h => (Ord.eval_put_other _ 36 33 _ (by decide)).trans (f8 (by simpa [Ord.upd] using h)), fun h => (Ord.eval_put_other _ 36 34 _ (by decide)).trans (f9 (by simpa [Ord.upd] using h)), bx, p, c', er, fun h => by
          obtain ⟨q1, q2, q3⟩ := e14 (by simpa [Ord.upd] using h)
          exact ⟨(Ord.eval_put_other _ 36 6 _ (by decide)).trans q1, q2, by simpa [Ord.upd] using q3⟩,
        fun h => by
          obtain ⟨q1, q2, q3⟩ := e10 (by simpa [Ord.upd] using h)
          exact ⟨(Ord.eval_put_other _ 36 35 _ (by decide)).trans q1, q2, fun h' => q3 (by simpa [Ord.upd] using h')⟩,
        fun h => (Ord.eval_put_other _ 36 24 _ (by decide)).trans (e11 (by simpa [Ord.upd] using h)),
        fun _ => Ord.eval_put_same _ _ _ (by rw [g1]; decide),
        fun h => (Ord.eval_put_other _ 36 37 _ (by decide)).trans (e13 (by simpa [Ord.upd] using h)),
        fun h => (Ord.eval_put_other _ 36 7 _ (by decide)).trans (e16 (by simpa [Ord.upd] using h))⟩
    | 13, ho, hi =>
      cases ho
      have da := e11 (hdep ⟨11, .data⟩ (by simp) rfl)
      refine Ord.wpOp_of rfl rfl (Ord.wp_value (v := .int .i64 er) (w' := x) (o_ex (n := 1) _ da rfl rfl) ?_)
      exact ⟨(Ord.size_put _ 37 _).trans g1, g2, (Ord.eval_put_other _ 37 0 _ (by decide)).trans k0, (Ord.eval_put_other _ 37 2 _ (by decide)).trans k2, (Ord.eval_put_other _ 37 3 _ (by decide)).trans k3, (Ord.eval_put_other _ 37 4 _ (by decide)).trans k4, (Ord.eval_put_other _ 37 5 _ (by decide)).trans k5, fun h => (Ord.eval_put_other _ 37 25 _ (by decide)).trans (f0 (by simpa [Ord.upd] using h)), fun h => (Ord.eval_put_other _ 37 26 _ (by decide)).trans (f1 (by simpa [Ord.upd] using h)), fun h => (Ord.eval_put_other _ 37 27 _ (by decide)).trans (f2 (by simpa [Ord.upd] using h)), fun h => (Ord.eval_put_other _ 37 28 _ (by decide)).trans (f3 (by simpa [Ord.upd] using h)), fun h => (Ord.eval_put_other _ 37 29 _ (by decide)).trans (f4 (by simpa [Ord.upd] using h)), fun h => (Ord.eval_put_other _ 37 30 _ (by decide)).trans (f5 (by simpa [Ord.upd] using h)), fun h => (Ord.eval_put_other _ 37 31 _ (by decide)).trans (f6 (by simpa [Ord.upd] using h)), fun h => (Ord.eval_put_other _ 37 32 _ (by decide)).trans (f7 (by simpa [Ord.upd] using h)), fun h => (Ord.eval_put_other _ 37 33 _ (by decide)).trans (f8 (by simpa [Ord.upd] using h)), fun h => (Ord.eval_put_other _ 37 34 _ (by decide)).trans (f9 (by simpa [Ord.upd] using h)), bx, p, c', er, fun h => by
          obtain ⟨q1, q2, q3⟩ := e14 (by simpa [Ord.upd] using h)
          exact ⟨(Ord.eval_put_other _ 37 6 _ (by decide)).trans q1, q2, by simpa [Ord.upd] using q3⟩,
        fun h => by
          obtain ⟨q1, q2, q3⟩ := e10 (by simpa [Ord.upd] using h)
          exact ⟨(Ord.eval_put_other _ 37 35 _ (by decide)).trans q1, q2, fun h' => q3 (by simpa [Ord.upd] using h')⟩,
        fun h => (Ord.eval_put_other _ 37 24 _ (by decide)).trans (e11 (by simpa [Ord.upd] using h)),
        fun h => (Ord.eval_put_other _ 37 36 _ (by decide)).trans (e12 (by simpa [Ord.upd] using h)),
        fun _ => Ord.eval_put_same _ _ _ (by rw [g1]; decide),
        fun h => (Ord.eval_put_other _ 37 7 _ (by decide)).trans (e16 (by simpa [Ord.upd] using h))⟩
    | 14, ho, hi =>
      cases ho
      have l15 : L 15 = false := by
        cases h : L 15 with
        | false => rfl
        | true => exact absurd (hcl 15 _ rfl h ⟨14, .data⟩ (by simp) rfl) (by rw [hi]; decide)
      have hbx : Below x.heap.size x (x.alloc (.cells (cc (zck 0)) 39)) := (Below.refl _ x).alloc (Nat.le_refl _) _
      have hsx := bx.size
      refine Ord.wpOp_of rfl rfl (Ord.wp_value (v := .pointer (some ⟨x.heap.size, 0, none⟩)) (w' := x.alloc (.cells (cc (zck 0)) 39)) (o_al rfl) ?_)
      exact ⟨(Ord.size_put _ 6 _).trans g1, g2, (Ord.eval_put_other _ 6 0 _ (by decide)).trans k0, (Ord.eval_put_other _ 6 2 _ (by decide)).trans k2, (Ord.eval_put_other _ 6 3 _ (by decide)).trans k3, (Ord.eval_put_other _ 6 4 _ (by decide)).trans k4, (Ord.eval_put_other _ 6 5 _ (by decide)).trans k5, fun h => (Ord.eval_put_other _ 6 25 _ (by decide)).trans (f0 (by simpa [Ord.upd] using h)), fun h => (Ord.eval_put_other _ 6 26 _ (by decide)).trans (f1 (by simpa [Ord.upd] using h)), fun h => (Ord.eval_put_other _ 6 27 _ (by decide)).trans (f2 (by simpa [Ord.upd] using h)), fun h => (Ord.eval_put_other _ 6 28 _ (by decide)).trans (f3 (by simpa [Ord.upd] using h)), fun h => (Ord.eval_put_other _ 6 29 _ (by decide)).trans (f4 (by simpa [Ord.upd] using h)), fun h => (Ord.eval_put_other _ 6 30 _ (by decide)).trans (f5 (by simpa [Ord.upd] using h)), fun h => (Ord.eval_put_other _ 6 31 _ (by decide)).trans (f6 (by simpa [Ord.upd] using h)), fun h => (Ord.eval_put_other _ 6 32 _ (by decide)).trans (f7 (by simpa [Ord.upd] using h)), fun h => (Ord.eval_put_other _ 6 33 _ (by decide)).trans (f8 (by simpa [Ord.upd] using h)), fun h => (Ord.eval_put_other _ 6 34 _ (by decide)).trans (f9 (by simpa [Ord.upd] using h)), bx.trans (hbx.mono hsx), x.heap.size, c', er, fun _ => ⟨Ord.eval_put_same _ _ _ (by rw [g1]; decide), hsx, by simp only [Ord.upd, l15]; exact Bx.new x (zck 0)⟩, fun h => by
          obtain ⟨q1, ⟨y, q2, q2'⟩, q3⟩ := e10 (by simpa [Ord.upd] using h)
          refine ⟨(Ord.eval_put_other _ 6 35 _ (by decide)).trans q1, ⟨y, q2, fun e => ⟨(q2' e).1, (q2' e).2.later hbx⟩⟩, fun _ he => ?_⟩
          exact avC_of (q2' he).2 (fun bb u o _ hc e => by cases e; exact absurd (cell_lt hc) (Nat.lt_irrefl _)), fun h => (Ord.eval_put_other _ 6 24 _ (by decide)).trans (e11 (by simpa [Ord.upd] using h)), fun h => (Ord.eval_put_other _ 6 36 _ (by decide)).trans (e12 (by simpa [Ord.upd] using h)), fun h => (Ord.eval_put_other _ 6 37 _ (by decide)).trans (e13 (by simpa [Ord.upd] using h)), fun h => (Ord.eval_put_other _ 6 7 _ (by decide)).trans (e16 (by simpa [Ord.upd] using h))⟩
    | 15, ho, hi =>
      cases ho
      have l14 : L 14 = true := hdep ⟨14, .data⟩ (by simp) rfl
      have l12 : L 12 = true := hdep ⟨12, .data⟩ (by simp) rfl
      have l11 : L 11 = true := hcl 12 _ rfl l12 ⟨11, .data⟩ (by simp) rfl
      have l10 : L 10 = true := hcl 11 _ rfl l11 ⟨10, .data⟩ (by simp) rfl
      obtain ⟨q1, q2, q3⟩ := e14 l14
      rw [hi] at q3
      obtain ⟨r1, ⟨y, r2, r2'⟩, r3⟩ := e10 l10
      have hg : x.grownBy (stoW x p c') (some p) := by
        have hb := stoW_below c' (Below.refl p x) (Nat.le_refl _)
        exact ⟨hb.os, hb.tape, hb.output, hb.size, fun j _ hj => other_setCells p j (by simpa using hj) _ _ _⟩
      refine Ord.wpOp_of rfl rfl ?_
      unfold Oper.wp
      rw [o_sto _ _ q1 (e12 l12) rfl (sto_run q3 c')]
      exact ⟨g1, g2, k0, k2, k3, k4, k5, fun h => f0 (by simpa [Ord.upd] using h), fun h => f1 (by simpa [Ord.upd] using h), fun h => f2 (by simpa [Ord.upd] using h), fun h => f3 (by simpa [Ord.upd] using h), fun h => f4 (by simpa [Ord.upd] using h), fun h => f5 (by simpa [Ord.upd] using h), fun h => f6 (by simpa [Ord.upd] using h), fun h => f7 (by simpa [Ord.upd] using h), fun h => f8 (by simpa [Ord.upd] using h), fun h => f9 (by simpa [Ord.upd] using h), bx.grown hg bx.size (fun j hj => by cases hj; exact q2), p, c', er, fun _ => ⟨q1, q2, by simp only [Ord.upd]; exact stoW_bx q3 c'⟩, fun _ => ⟨r1, ⟨y, r2, fun e => ⟨(r2' e).1, lsts_gr (r2' e).2 (r3 l14 e) hg⟩⟩, fun _ => r3 l14⟩, fun h => e11 (by simpa [Ord.upd] using h), fun h => e12 (by simpa [Ord.upd] using h), fun h => e13 (by simpa [Ord.upd] using h), fun h => e16 (by simpa [Ord.upd] using h)⟩
    | 16, ho, hi =>
      cases ho
      have da := e13 (hdep ⟨13, .data⟩ (by simp) rfl)
      refine Ord.wpOp_of rfl rfl (Ord.wp_value (v := .int .i64 er) (w' := x) (o_as _ rfl da) ?_)
      exact ⟨(Ord.size_put _ 7 _).trans g1, g2, (Ord.eval_put_other _ 7 0 _ (by decide)).trans k0, (Ord.eval_put_other _ 7 2 _ (by decide)).trans k2, (Ord.eval_put_other _ 7 3 _ (by decide)).trans k3, (Ord.eval_put_other _ 7 4 _ (by decide)).trans k4, (Ord.eval_put_other _ 7 5 _ (by decide)).trans k5, fun h => (Ord.eval_put_other _ 7 25 _ (by decide)).trans (f0 (by simpa [Ord.upd] using h)), fun h => (Ord.eval_put_other _ 7 26 _ (by decide)).trans (f1 (by simpa [Ord.upd] using h)), fun h => (Ord.eval_put_other _ 7 27 _ (by decide)).trans (f2 (by simpa [Ord.upd] using h)), fun h => (Ord.eval_put_other _ 7 28 _ (by decide)).trans (f3 (by simpa [Ord.upd] using h)), fun h => (Ord.eval_put_other _ 7 29 _ (by decide)).trans (f4 (by simpa [Ord.upd] using h)), fun h => (Ord.eval_put_other _ 7 30 _ (by decide)).trans (f5 (by simpa [Ord.upd] using h)), fun h => (Ord.eval_put_other _ 7 31 _ (by decide)).trans (f6 (by simpa [Ord.upd] using h)), fun h => (Ord.eval_put_other _ 7 32 _ (by decide)).trans (f7 (by simpa [Ord.upd] using h)), fun h => (Ord.eval_put_other _ 7 33 _ (by decide)).trans (f8 (by simpa [Ord.upd] using h)), fun h => (Ord.eval_put_other _ 7 34 _ (by decide)).trans (f9 (by simpa [Ord.upd] using h)), bx, p, c', er, fun h => by
          obtain ⟨q1, q2, q3⟩ := e14 (by simpa [Ord.upd] using h)
          exact ⟨(Ord.eval_put_other _ 7 6 _ (by decide)).trans q1, q2, by simpa [Ord.upd] using q3⟩,
        fun h => by
          obtain ⟨q1, q2, q3⟩ := e10 (by simpa [Ord.upd] using h)
          exact ⟨(Ord.eval_put_other _ 7 35 _ (by decide)).trans q1, q2, fun h' => q3 (by simpa [Ord.upd] using h')⟩,
        fun h => (Ord.eval_put_other _ 7 24 _ (by decide)).trans (e11 (by simpa [Ord.upd] using h)),
        fun h => (Ord.eval_put_other _ 7 36 _ (by decide)).trans (e12 (by simpa [Ord.upd] using h)),
        fun h => (Ord.eval_put_other _ 7 37 _ (by decide)).trans (e13 (by simpa [Ord.upd] using h)),
        fun _ => Ord.eval_put_same _ _ _ (by rw [g1]; decide)⟩
  case refine_2 =>
    intro L L' ac x hL ⟨g1, g2, k0, k2, k3, k4, k5, f0, f1, f2, f3, f4, f5, f6, f7, f8, f9, bx, p, c', er, e14, e10, e11, e12, e13, e16⟩
    rw [hL 0 (by decide)] at f0
    rw [hL 1 (by decide)] at f1
    rw [hL 2 (by decide)] at f2
    rw [hL 3 (by decide)] at f3
    rw [hL 4 (by decide)] at f4
    rw [hL 5 (by decide)] at f5
    rw [hL 6 (by decide)] at f6
    rw [hL 7 (by decide)] at f7
    rw [hL 8 (by decide)] at f8
    rw [hL 9 (by decide)] at f9
    rw [hL 14 (by decide), hL 15 (by decide)] at e14
    rw [hL 10 (by decide), hL 14 (by decide)] at e10
    rw [hL 11 (by decide)] at e11
    rw [hL 12 (by decide)] at e12
    rw [hL 13 (by decide)] at e13
    rw [hL 16 (by decide)] at e16
    exact ⟨g1, g2, k0, k2, k3, k4, k5, f0, f1, f2, f3, f4, f5, f6, f7, f8, f9, bx, p, c', er, e14, e10, e11, e12, e13, e16⟩
  case refine_4 => exact ⟨rfl, rfl, rfl, rfl, rfl, rfl, rfl, (fun h => by cases h), (fun h => by cases h), (fun h => by cases h), (fun h => by cases h), (fun h => by cases h), (fun h => by cases h), (fun h => by cases h), (fun h => by cases h), (fun h => by cases h), (fun h => by cases h), Par.below_drewN (Below.refl _ _) 1, 0, zck 0, 0, (fun h => by cases h), (fun h => by cases h), (fun h => by cases h), (fun h => by cases h), (fun h => by cases h), (fun h => by cases h)⟩
  case refine_3 =>
    rename_i hKK
    intro ac x ⟨g1, g2, k0, k2, k3, k4, k5, f0, f1, f2, f3, f4, f5, f6, f7, f8, f9, bx, p, c', er, e14, e10, e11, e12, e13, e16⟩
    obtain ⟨p6, hp, hbp⟩ := e14 rfl
    obtain ⟨q10, ⟨y, hF, hok⟩, q14⟩ := e10 rfl
    clear q10 q14
    have p7 := e16 rfl
    rw [if_pos rfl] at hbp
    obtain ⟨x0, x1, x2, x3, x4, x5, x6, x7, x8, x9, x10, x11, x12, x13, x14, x15, x16, x17, x18, x19, x20, x21, x22, x23, x24, x25, x26, x27, x28, x29, x30, x31, x32, x33, x34, x35, x36, x37, x38, x39, x40, x41, x42, x43, x44, x45, x46, x47, x48, x49, rfl⟩ := frame50 ac g1 g2
    obtain rfl : x0 = .slice (some ⟨b, off, none⟩) len cap := k0
    obtain rfl : x2 = .pointer (some ⟨w.heap.size, 0, none⟩) := k2
    obtain rfl : x3 = .int .i64 0 := k3
    obtain rfl : x4 = .int .i64 0 := k4
    obtain rfl : x5 = .int .i64 (n : Int) := k5
    obtain rfl : x6 = .pointer (some ⟨p, 0, none⟩) := p6
    obtain rfl : x7 = .int .i64 er := p7
    refine hKK _ _ ?_
    have hxx := HX.out.later bx
    have hbw : Below w.heap.size w x := HB.out.trans (bx.mono HB.out.size)
    clear g1 g2 f0 f1 f2 f3 f4 f5 f6 f7 f8 f9 e10 e11 e12 e13 e14 e16 RD c0 c1 GE
    have HDF := hidden (show Fil (zs.getD 0 0) (body zs) (zch (zs.getD 0 0) (flg (zs.getD 0 0) (zs.getD 1 0))) er y by rw [hk, hf, hB]; exact hF)
    clear hF hk hf hB hBe HRB HNA HA4 hA4
    by_cases he : er = 0
    case neg =>
      have hne := bne_t he
      obtain ⟨t1, t2, t3⟩ := BAD.out x hxx hbw
      have T2 := hidden t2
      have F := hidden (FIN.out _ er y he (.inr ⟨HCUT.out, HDF.out, fun h => absurd h he⟩) t3)
      clear t2 t3 BAD FIN he hok hbp hxx hbw bx
      go_wp2
      exact bodyPost_ret (v := .tuple #[cv (zck 0), .int .i64 ((0 : Nat) : Int), .int .i64 er]) (cell_res3 Try.results10 T2.out _ rfl rfl rfl) rfl ⟨zck 0, 0, er, rfl, F.out⟩
    subst he
    obtain ⟨hv, hl⟩ := hok rfl
    have l6 := hbp.ld
    have k2 := sto_run hxx c'
    have hWs : W.heap.size = w.heap.size + 1 ∨ w.heap.size < W.heap.size := .inr HX.out.lt
    have hT : Tch w.heap.size w.heap.size x (stoW x w.heap.size c') := by
      have hb := stoW_below c' (Below.refl w.heap.size x) (Nat.le_refl _)
      exact ⟨hb.os, hb.tape, hb.output, hb.size, fun j hj hB _ => other_setCells w.heap.size j hB _ _ _⟩
    have hWlt := HX.out.lt
    have T2 := hidden (stoW_bx hxx c')
    have T3 := hidden (stoW_below c' hbw (Nat.le_refl _))
    have T4 := hidden ((hl.tch hWlt hWlt hT).mono (Nat.le_of_lt hWlt))
    have HV := hidden hv
    obtain ⟨F, hF⟩ : ∃ F : Nat, Par.fill4 n = F := ⟨_, rfl⟩
    have hF2 : ((n : Int) + 3) / 4 * 4 = (F : Int) := by rw [← hF]; unfold Par.fill4; omega
    have hdv : ((n : Int) + 3).tdiv 4 = ((n : Int) + 3) / 4 := Int.tdiv_eq_ediv_of_nonneg (by omega)
    have hFb : F ≤ n + 3 := by rw [← hF]; exact (Par.fill4_le n).2
    have HD := hidden (show ∀ m : Nat, m = min F len → Dec zs 0 y m from fun m hm => .inr ⟨HCUT.out, HDF.out, fun _ => by rw [HN.out, hm, ← hF, hzl]; rfl⟩)
    have HNM := hidden (show ∀ m : Nat, m = min F len → Nums c' from fun m hm => VOk.nums (by rw [HV.out]; exact (read_ok zs HBY.out y m (HD.out m hm)).2.1))
    clear hF hl hv hok hbp hxx hbw bx hT hWs hWlt BAD FIN HDF
    by_cases hlt : len < F
    · have e1 : min F len = len := by omega
      go_wp2
      exact bodyPost_ret (v := .tuple #[cv c', .int .i64 (len : Int), .int .i64 0]) (cell_res3 Try.results10 T2.out _ rfl rfl rfl) rfl ⟨c', len, 0, rfl, ⟨y, HD.out len e1.symm, fun _ => HV.out⟩, fun h => absurd rfl h, ⟨HNM.out len e1.symm, T4.out⟩, T3.out⟩
    · have e1 : min F len = F := by omega
      go_wp2
      exact bodyPost_ret (v := .tuple #[cv c', .int .i64 (F : Int), .int .i64 0]) (cell_res3 Try.results10 T2.out _ rfl rfl rfl) rfl ⟨c', F, 0, rfl, ⟨y, HD.out F e1.symm, fun _ => HV.out⟩, fun h => absurd rfl h, ⟨HNM.out F e1.symm, T4.out⟩, T3.out⟩
end Go.Proofs.Ytifdkpifambhaab.Chu
