/-
  For every number and every text the law ParamCauses returns true: the causes that package param makes of them are the document's (P5.4). Conditions: as the statement has them.
-/
import Derived.Test.YtallpnjjeikamaaRows
import Derived.WalkKit
import Derived.ProofKit
import Derived.OpenShut
import Derived.ShutString
import Derived.ChangeOld
import Derived.Below
import Derived.SizedLaws
import Derived.Deep.DeepHandedRow
import Derived.LaidLaws
import Derived.ChangeMaps5
import Derived.Test.YtallpnjjeikamaaParI
import Derived.Test.YtallpnjjeikamaaParArgs
namespace Go.Proofs.Ytallpnjjeikamaa.paramCauses
open Go.ChangeShapes Go.WideShapes Go.ChangeAt Go.RowKit
open Go.ChangeMaps (open_string shut_string)
set_option linter.unusedVariables false

theorem own : ownKnob Try.prog.godebug = none := by kernel_rfl
theorem laidOut : laidOutB Try.prog = true := by kernel_rfl

theorem uncons {α : Type} {l : List α} {n : Nat} (h : l.length = n + 1) : ∃ x r, l = x :: r ∧ r.length = n := by
  cases l with
  | nil => cases h
  | cons x r => exact ⟨x, r, rfl, by simpa using h⟩
theorem frame50 (a : Act) (h : a.tmps.size = 50) (hd : a.defers = []) : ∃ x0 x1 x2 x3 x4 x5 x6 x7 x8 x9 x10 x11 x12 x13 x14 x15 x16 x17 x18 x19 x20 x21 x22 x23 x24 x25 x26 x27 x28 x29 x30 x31 x32 x33 x34 x35 x36 x37 x38 x39 x40 x41 x42 x43 x44 x45 x46 x47 x48 x49, a = ⟨#[x0, x1, x2, x3, x4, x5, x6, x7, x8, x9, x10, x11, x12, x13, x14, x15, x16, x17, x18, x19, x20, x21, x22, x23, x24, x25, x26, x27, x28, x29, x30, x31, x32, x33, x34, x35, x36, x37, x38, x39, x40, x41, x42, x43, x44, x45, x46, x47, x48, x49], []⟩ := by
  obtain ⟨⟨l⟩, df⟩ := a
  simp only at hd
  subst hd
  simp only [List.size_toArray] at h
  obtain ⟨x0, l0, rfl, h0⟩ := uncons h
  obtain ⟨x1, l1, rfl, h1⟩ := uncons h0
  obtain ⟨x2, l2, rfl, h2⟩ := uncons h1
  obtain ⟨x3, l3, rfl, h3⟩ := uncons h2
  obtain ⟨x4, l4, rfl, h4⟩ := uncons h3
  obtain ⟨x5, l5, rfl, h5⟩ := uncons h4
  obtain ⟨x6, l6, rfl, h6⟩ := uncons h5
  obtain ⟨x7, l7, rfl, h7⟩ := uncons h6
  obtain ⟨x8, l8, rfl, h8⟩ := uncons h7
  obtain ⟨x9, l9, rfl, h9⟩ := uncons h8
  obtain ⟨x10, l10, rfl, h10⟩ := uncons h9
  obtain ⟨x11, l11, rfl, h11⟩ := uncons h10
  obtain ⟨x12, l12, rfl, h12⟩ := uncons h11
  obtain ⟨x13, l13, rfl, h13⟩ := uncons h12
  obtain ⟨x14, l14, rfl, h14⟩ := uncons h13
  obtain ⟨x15, l15, rfl, h15⟩ := uncons h14
  obtain ⟨x16, l16, rfl, h16⟩ := uncons h15
  obtain ⟨x17, l17, rfl, h17⟩ := uncons h16
  obtain ⟨x18, l18, rfl, h18⟩ := uncons h17
  obtain ⟨x19, l19, rfl, h19⟩ := uncons h18
  obtain ⟨x20, l20, rfl, h20⟩ := uncons h19
  obtain ⟨x21, l21, rfl, h21⟩ := uncons h20
  obtain ⟨x22, l22, rfl, h22⟩ := uncons h21
  obtain ⟨x23, l23, rfl, h23⟩ := uncons h22
  obtain ⟨x24, l24, rfl, h24⟩ := uncons h23
  obtain ⟨x25, l25, rfl, h25⟩ := uncons h24
  obtain ⟨x26, l26, rfl, h26⟩ := uncons h25
  obtain ⟨x27, l27, rfl, h27⟩ := uncons h26
  obtain ⟨x28, l28, rfl, h28⟩ := uncons h27
  obtain ⟨x29, l29, rfl, h29⟩ := uncons h28
  obtain ⟨x30, l30, rfl, h30⟩ := uncons h29
  obtain ⟨x31, l31, rfl, h31⟩ := uncons h30
  obtain ⟨x32, l32, rfl, h32⟩ := uncons h31
  obtain ⟨x33, l33, rfl, h33⟩ := uncons h32
  obtain ⟨x34, l34, rfl, h34⟩ := uncons h33
  obtain ⟨x35, l35, rfl, h35⟩ := uncons h34
  obtain ⟨x36, l36, rfl, h36⟩ := uncons h35
  obtain ⟨x37, l37, rfl, h37⟩ := uncons h36
  obtain ⟨x38, l38, rfl, h38⟩ := uncons h37
  obtain ⟨x39, l39, rfl, h39⟩ := uncons h38
  obtain ⟨x40, l40, rfl, h40⟩ := uncons h39
  obtain ⟨x41, l41, rfl, h41⟩ := uncons h40
  obtain ⟨x42, l42, rfl, h42⟩ := uncons h41
  obtain ⟨x43, l43, rfl, h43⟩ := uncons h42
  obtain ⟨x44, l44, rfl, h44⟩ := uncons h43
  obtain ⟨x45, l45, rfl, h45⟩ := uncons h44
  obtain ⟨x46, l46, rfl, h46⟩ := uncons h45
  obtain ⟨x47, l47, rfl, h47⟩ := uncons h46
  obtain ⟨x48, l48, rfl, h48⟩ := uncons h47
  obtain ⟨x49, l49, rfl, h49⟩ := uncons h48
  obtain rfl := List.eq_nil_of_length_eq_zero h49
  exact ⟨_, _, _, _, _, _, _, _, _, _, _, _, _, _, _, _, _, _, _, _, _, _, _, _, _, _, _, _, _, _, _, _, _, _, _, _, _, _, _, _, _, _, _, _, _, _, _, _, _, _, rfl⟩

theorem walk (a0 : Int) (a1 : ByteArray) (w : World) (w0 : (Lit.int .u32 a0).wf = true) (w1 : a1.size ≤ maxLen) (s1 : a1.size ≤ 140737488351232) :
    Calls Try.prog 6 #[.int .u32 a0, .string a1] w fun e w' => e = .returned (.bool true) ∧ Below w.heap.size w w' := by
  have hn : 0 ≤ a0 ∧ a0 < 4294967296 := by
    simp [Lit.wf, IntKind.min, IntKind.max, IntKind.signed, IntKind.bits] at w0
    omega
  have hm : 0 ≤ a0 % 65536 ∧ a0 % 65536 < 65536 := by omega
  have HN := Par.hidden hn
  have HM := Par.hidden hm
  have hxw : ∀ x : Int, IntKind.u16.wrap x = x % 65536 := fun _ => rfl
  have U := Par.hidden (Par.user a1 s1 w)
  clear hn hm
  go_enter Try.func6, Try.ntmps6
  go_wp2_with fail
  refine Calls.mono U.out ?_
  rintro e w2 ⟨p, c, rfl, ho, hc, b2⟩
  have HO := Par.hidden (ho.mono (Nat.zero_le _))
  have HC := Par.hidden hc
  have HB2 := Par.hidden b2
  obtain ⟨t, a, len, cap, zs⟩ := p
  unfold Par.pv
  clear U ho hc b2
  have hbA : Below w2.heap.size w2 (w2.alloc (.cells #[.int .u16 t, .slice a len cap] 45)) := (Below.refl _ _).alloc (Nat.le_refl _) _
  have HBA := Par.hidden (HB2.out.trans (hbA.mono HB2.out.size))
  have RU := Par.hidden (Par.rUser a1 s1 (w2.alloc (.cells #[.int .u16 t, .slice a len cap] 45)))
  have HOA := Par.hidden (HO.out.later hbA)
  obtain ⟨bx0, bx1⟩ := Par.box_new w2 t a len cap 45
  have HX0 := Par.hidden bx0
  have HX1 := Par.hidden bx1
  clear hbA HO bx0 bx1
  go_wp2_with fail
  refine Calls.mono RU.out ?_
  rintro e w4 ⟨q, d, rfl, hq, hd, b4⟩
  obtain ⟨hcd, HV⟩ : c = d ∧ Hid (Par.val q = Par.val (t, a, len, cap, zs)) := by
    rcases HC.out with ⟨h1, h2, h3⟩ | ⟨h1, h2, h3⟩ <;> rcases hd with ⟨g1, g2, g3⟩ | ⟨g1, g2, g3⟩
    · exact ⟨by rw [h2, g2], Par.hidden (by rw [h3, g3])⟩
    · omega
    · omega
    · exact ⟨by rw [h2, g2], Par.hidden (by rw [h3, g3])⟩
  subst hcd
  obtain ⟨t2, q2, qlen, qcap, qs⟩ := q
  have hbB : Below w4.heap.size w4 (w4.alloc (.cells #[.int .u16 t2, .slice q2 qlen qcap] 45)) := (Below.refl _ _).alloc (Nat.le_refl _) _
  have HB4 := Par.hidden (HBA.out.trans (b4.mono HBA.out.size))
  have HB5 := Par.hidden (HB4.out.trans (hbB.mono HB4.out.size))
  have HXO := Par.hidden ((HOA.out.later b4).later hbB)
  have HYO := Par.hidden ((hq.mono (Nat.zero_le _)).later hbB)
  have HA0 := Par.hidden ((hbB.cell (Par.cell_lt ((b4.cell (Par.cell_lt HX0.out)).trans HX0.out))).trans ((b4.cell (Par.cell_lt HX0.out)).trans HX0.out))
  have HA1 := Par.hidden ((hbB.cell (Par.cell_lt ((b4.cell (Par.cell_lt HX1.out)).trans HX1.out))).trans ((b4.cell (Par.cell_lt HX1.out)).trans HX1.out))
  obtain ⟨by0, by1⟩ := Par.box_new w4 t2 q2 qlen qcap 45
  have HY0 := Par.hidden by0
  have HY1 := Par.hidden by1
  have hn := HN.out
  have hm := HM.out
  unfold Par.pv
  clear RU hq hd b4 hbB by0 by1 HX0 HX1 HC
  generalize hX : Par.val (t, a, len, cap, zs) = X at *
  have HXV := Par.hidden hX
  clear hX
  go_wp2_with fail
  generalize w2.heap.size = gA at *
  generalize w4.heap.size = gB at *
  generalize hW5 : w4.alloc (.cells #[.int .u16 t2, .slice q2 qlen qcap] 45) = W5 at *
  clear hW5
  refine Ord.wp_region_slots (by kernel_rfl) 50 [(0, .int .u32 a0), (5, .pointer (some ⟨gA, 0, none⟩)), (6, .int .i64 c), (7, .pointer (some ⟨gB, 0, none⟩)), (8, .int .i64 c)] [21, 22, 23, 24, 25, 26, 27, 28, 29, 9] (Par.Es10 a0 X) W5.drew (by kernel_rfl) (by kernel_rfl) (by kernel_rfl) rfl (Par.stays10 a0 X) ?_ ?_ ?_
  case refine_3 => exact ⟨rfl, rfl, (fun p hp => by simp only [List.mem_cons, List.not_mem_nil, or_false] at hp; rcases hp with rfl | rfl | rfl | rfl | rfl <;> rfl), Below.refl _ _⟩
  case refine_1 =>
    intro i o a w' ho hG hdep
    obtain ⟨g1, g2, g3, g4⟩ := hG
    have bw : Below W5.heap.size W5 w' := ⟨g4.os, g4.tape, g4.output, g4.size, g4.block⟩
    match i, ho with
    | 0, ho =>
      cases ho
      exact Ord.by_value rfl rfl (Par.load45 _ rfl (g3 (5, .pointer (some ⟨gA, 0, none⟩)) (by simp)) ((bw.cell (Par.cell_lt HA0.out)).trans HA0.out) ((bw.cell (Par.cell_lt HA1.out)).trans HA1.out)) (Below.refl _ _) ⟨_, rfl, HXO.out.later bw, HXV.out⟩
    | 1, ho =>
      cases ho
      exact Ord.by_value rfl rfl (v := a.eval (.tmp 0)) rfl (Below.refl _ _) (g3 (0, .int .u32 a0) (by simp))
    | 2, ho =>
      cases ho
      have da : a.eval (.tmp 22) = .int .u32 a0 := hdep ⟨1, .data⟩ (by simp) rfl
      refine Ord.by_call rfl rfl (Par.call1 22 (by decide) _ da rfl) ((Par.stale a0 hn.1 hn.2 w').mono ?_)
      rintro e w3 ⟨p, rfl, h1, h2, h3⟩
      exact ⟨_, rfl, h3, p, rfl, h1.mono (Nat.zero_le _), h2⟩
    | 3, ho =>
      cases ho
      exact Ord.by_value rfl rfl (v := a.eval (.tmp 0)) rfl (Below.refl _ _) (g3 (0, .int .u32 a0) (by simp))
    | 4, ho =>
      cases ho
      have da : a.eval (.tmp 24) = .int .u32 a0 := hdep ⟨3, .data⟩ (by simp) rfl
      exact Ord.by_value rfl rfl (Par.conv16 _ rfl da) (Below.refl _ _) rfl
    | 5, ho =>
      cases ho
      have da : a.eval (.tmp 25) = .int .u16 (a0 % 65536) := hdep ⟨4, .data⟩ (by simp) rfl
      refine Ord.by_call rfl rfl (Par.call1 23 (by decide) _ da rfl) ((Par.stream (a0 % 65536) hm.1 hm.2 w').mono ?_)
      rintro e w3 ⟨p, rfl, h1, h2, h3⟩
      exact ⟨_, rfl, h3, p, rfl, h1.mono (Nat.zero_le _), h2⟩
    | 6, ho =>
      cases ho
      exact Ord.by_value rfl rfl (v := a.eval (.tmp 0)) rfl (Below.refl _ _) (g3 (0, .int .u32 a0) (by simp))
    | 7, ho =>
      cases ho
      have da : a.eval (.tmp 27) = .int .u32 a0 := hdep ⟨6, .data⟩ (by simp) rfl
      refine Ord.by_call rfl rfl (Par.call1 24 (by decide) _ da rfl) ((Par.noData a0 hn.1 hn.2 w').mono ?_)
      rintro e w3 ⟨p, rfl, h1, h2, h3⟩
      exact ⟨_, rfl, h3, p, rfl, h1.mono (Nat.zero_le _), h2⟩
    | 8, ho =>
      cases ho
      obtain ⟨p0, e0, o0, v0⟩ : Par.Says X (a.eval (.tmp 21)) w' := hdep ⟨0, .data⟩ (by simp) rfl
      obtain ⟨p1, e1, o1, v1⟩ : Par.Says (3, Par.four a0) (a.eval (.tmp 23)) w' := hdep ⟨2, .data⟩ (by simp) rfl
      obtain ⟨p2, e2, o2, v2⟩ : Par.Says (1, [a0 % 65536 / 256, a0 % 65536 % 256] ++ [0, 0]) (a.eval (.tmp 26)) w' := hdep ⟨5, .data⟩ (by simp) rfl
      obtain ⟨p3, e3, o3, v3⟩ : Par.Says (9, Par.four a0) (a.eval (.tmp 28)) w' := hdep ⟨7, .data⟩ (by simp) rfl
      refine Ord.by_value rfl rfl (Par.build4 _ _ _ _ rfl e0 e1 e2 e3) ((Below.refl _ _).alloc (Nat.le_refl _) _) ⟨_, _, rfl, Par.four_prms w' p0 p1 p2 p3 o0 o1 o2 o3, ?_⟩
      show [Par.val p0, Par.val p1, Par.val p2, Par.val p3] = _
      rw [v0, v1, v2, v3]
    | 9, ho =>
      cases ho
      have da : Par.Lists 4 [X, (3, Par.four a0), (1, [a0 % 65536 / 256, a0 % 65536 % 256] ++ [0, 0]), (9, Par.four a0)] (a.eval (.tmp 29)) w' := hdep ⟨8, .data⟩ (by simp) rfl
      exact Ord.by_value rfl rfl (v := a.eval (.tmp 29)) rfl (Below.refl _ _) da
  intro a w6 hG hF
  obtain ⟨g1, g2, g3, g4⟩ := hG
  have bw : Below W5.heap.size W5 w6 := ⟨g4.os, g4.tape, g4.output, g4.size, g4.block⟩
  have hl : Par.Lists 4 [X, (3, Par.four a0), (1, [a0 % 65536 / 256, a0 % 65536 % 256] ++ [0, 0]), (9, Par.four a0)] (a.eval (.tmp 9)) w6 := hF 9 (by decide)
  have k0 := g3 (0, .int .u32 a0) (by simp)
  have k5 := g3 (5, .pointer (some ⟨gA, 0, none⟩)) (by simp)
  have k6 := g3 (6, .int .i64 c) (by simp)
  have k7 := g3 (7, .pointer (some ⟨gB, 0, none⟩)) (by simp)
  have k8 := g3 (8, .int .i64 c) (by simp)
  clear hF g3 g4
  obtain ⟨x0, x1, x2, x3, x4, x5, x6, x7, x8, x9, x10, x11, x12, x13, x14, x15, x16, x17, x18, x19, x20, x21, x22, x23, x24, x25, x26, x27, x28, x29, x30, x31, x32, x33, x34, x35, x36, x37, x38, x39, x40, x41, x42, x43, x44, x45, x46, x47, x48, x49, rfl⟩ := frame50 a g1 g2
  obtain rfl : x0 = .int .u32 a0 := k0
  obtain rfl : x5 = .pointer (some ⟨gA, 0, none⟩) := k5
  obtain rfl : x6 = .int .i64 c := k6
  obtain rfl : x7 = .pointer (some ⟨gB, 0, none⟩) := k7
  obtain rfl : x8 = .int .i64 c := k8
  obtain ⟨lb6, lp6, hx6, hL6, hV6⟩ := hl
  obtain rfl : x9 = .slice (some ⟨lb6, 0, none⟩) 4 4 := hx6
  clear g1 g2
  rename_i hKK
  refine hKK _ w6 ?_
  clear hKK
  have HB6 := Par.hidden (HB5.out.trans (bw.mono HB5.out.size))
  have HZ0 := Par.hidden ((bw.cell (Par.cell_lt HY0.out)).trans HY0.out)
  have HZ1 := Par.hidden ((bw.cell (Par.cell_lt HY1.out)).trans HY1.out)
  have HZO := Par.hidden (HYO.out.later bw)
  have HZV := Par.hidden HV.out
  have HL6 := Par.hidden hL6
  have HV6 := Par.hidden hV6
  clear bw hL6 hV6 HY0 HY1 HYO HXO HA0 HA1
  go_wp2_with fail
  refine Ord.wp_region_slots (by kernel_rfl) 50 [(0, .int .u32 a0), (6, .int .i64 c), (7, .pointer (some ⟨gB, 0, none⟩)), (8, .int .i64 c), (9, .slice (some ⟨lb6, 0, none⟩) 4 4)] [30, 31, 32, 33, 34, 35, 36, 37, 38, 10] (Par.Es10 a0 X) w6.drew (by kernel_rfl) (by kernel_rfl) (by kernel_rfl) rfl (Par.stays10 a0 X) ?_ ?_ ?_
  case refine_3 => exact ⟨rfl, rfl, (fun p hp => by simp only [List.mem_cons, List.not_mem_nil, or_false] at hp; rcases hp with rfl | rfl | rfl | rfl | rfl <;> rfl), Below.refl _ _⟩
  case refine_1 =>
    intro i o a w' ho hG hdep
    obtain ⟨g1, g2, g3, g4⟩ := hG
    have bw : Below w6.heap.size w6 w' := ⟨g4.os, g4.tape, g4.output, g4.size, g4.block⟩
    match i, ho with
    | 0, ho =>
      cases ho
      exact Ord.by_value rfl rfl (Par.load45 _ rfl (g3 (7, .pointer (some ⟨gB, 0, none⟩)) (by simp)) ((bw.cell (Par.cell_lt HZ0.out)).trans HZ0.out) ((bw.cell (Par.cell_lt HZ1.out)).trans HZ1.out)) (Below.refl _ _) ⟨_, rfl, HZO.out.later bw, HZV.out⟩
    | 1, ho =>
      cases ho
      exact Ord.by_value rfl rfl (v := a.eval (.tmp 0)) rfl (Below.refl _ _) (g3 (0, .int .u32 a0) (by simp))
    | 2, ho =>
      cases ho
      have da : a.eval (.tmp 31) = .int .u32 a0 := hdep ⟨1, .data⟩ (by simp) rfl
      refine Ord.by_call rfl rfl (Par.call1 25 (by decide) _ da rfl) ((Par.rStale a0 hn.1 hn.2 w').mono ?_)
      rintro e w3 ⟨p, rfl, h1, h2, h3⟩
      exact ⟨_, rfl, h3, p, rfl, h1.mono (Nat.zero_le _), h2⟩
    | 3, ho =>
      cases ho
      exact Ord.by_value rfl rfl (v := a.eval (.tmp 0)) rfl (Below.refl _ _) (g3 (0, .int .u32 a0) (by simp))
    | 4, ho =>
      cases ho
      have da : a.eval (.tmp 33) = .int .u32 a0 := hdep ⟨3, .data⟩ (by simp) rfl
      exact Ord.by_value rfl rfl (Par.conv16 _ rfl da) (Below.refl _ _) rfl
    | 5, ho =>
      cases ho
      have da : a.eval (.tmp 34) = .int .u16 (a0 % 65536) := hdep ⟨4, .data⟩ (by simp) rfl
      refine Ord.by_call rfl rfl (Par.call1 26 (by decide) _ da rfl) ((Par.rStream (a0 % 65536) hm.1 hm.2 w').mono ?_)
      rintro e w3 ⟨p, rfl, h1, h2, h3⟩
      exact ⟨_, rfl, h3, p, rfl, h1.mono (Nat.zero_le _), h2⟩
    | 6, ho =>
      cases ho
      exact Ord.by_value rfl rfl (v := a.eval (.tmp 0)) rfl (Below.refl _ _) (g3 (0, .int .u32 a0) (by simp))
    | 7, ho =>
      cases ho
      have da : a.eval (.tmp 36) = .int .u32 a0 := hdep ⟨6, .data⟩ (by simp) rfl
      refine Ord.by_call rfl rfl (Par.call1 27 (by decide) _ da rfl) ((Par.rNoData a0 hn.1 hn.2 w').mono ?_)
      rintro e w3 ⟨p, rfl, h1, h2, h3⟩
      exact ⟨_, rfl, h3, p, rfl, h1.mono (Nat.zero_le _), h2⟩
    | 8, ho =>
      cases ho
      obtain ⟨p0, e0, o0, v0⟩ : Par.Says X (a.eval (.tmp 30)) w' := hdep ⟨0, .data⟩ (by simp) rfl
      obtain ⟨p1, e1, o1, v1⟩ : Par.Says (3, Par.four a0) (a.eval (.tmp 32)) w' := hdep ⟨2, .data⟩ (by simp) rfl
      obtain ⟨p2, e2, o2, v2⟩ : Par.Says (1, [a0 % 65536 / 256, a0 % 65536 % 256] ++ [0, 0]) (a.eval (.tmp 35)) w' := hdep ⟨5, .data⟩ (by simp) rfl
      obtain ⟨p3, e3, o3, v3⟩ : Par.Says (9, Par.four a0) (a.eval (.tmp 37)) w' := hdep ⟨7, .data⟩ (by simp) rfl
      refine Ord.by_value rfl rfl (Par.build4 _ _ _ _ rfl e0 e1 e2 e3) ((Below.refl _ _).alloc (Nat.le_refl _) _) ⟨_, _, rfl, Par.four_prms w' p0 p1 p2 p3 o0 o1 o2 o3, ?_⟩
      show [Par.val p0, Par.val p1, Par.val p2, Par.val p3] = _
      rw [v0, v1, v2, v3]
    | 9, ho =>
      cases ho
      have da : Par.Lists 4 [X, (3, Par.four a0), (1, [a0 % 65536 / 256, a0 % 65536 % 256] ++ [0, 0]), (9, Par.four a0)] (a.eval (.tmp 38)) w' := hdep ⟨8, .data⟩ (by simp) rfl
      exact Ord.by_value rfl rfl (v := a.eval (.tmp 38)) rfl (Below.refl _ _) da
  intro a w7 hG hF
  obtain ⟨g1, g2, g3, g4⟩ := hG
  have bw : Below w6.heap.size w6 w7 := ⟨g4.os, g4.tape, g4.output, g4.size, g4.block⟩
  have hl : Par.Lists 4 [X, (3, Par.four a0), (1, [a0 % 65536 / 256, a0 % 65536 % 256] ++ [0, 0]), (9, Par.four a0)] (a.eval (.tmp 10)) w7 := hF 9 (by decide)
  have k0 := g3 (0, .int .u32 a0) (by simp)
  have k6 := g3 (6, .int .i64 c) (by simp)
  have k7 := g3 (7, .pointer (some ⟨gB, 0, none⟩)) (by simp)
  have k8 := g3 (8, .int .i64 c) (by simp)
  have k9 := g3 (9, .slice (some ⟨lb6, 0, none⟩) 4 4) (by simp)
  clear hF g3 g4
  obtain ⟨x0, x1, x2, x3, x4, x5, x6, x7, x8, x9, x10, x11, x12, x13, x14, x15, x16, x17, x18, x19, x20, x21, x22, x23, x24, x25, x26, x27, x28, x29, x30, x31, x32, x33, x34, x35, x36, x37, x38, x39, x40, x41, x42, x43, x44, x45, x46, x47, x48, x49, rfl⟩ := frame50 a g1 g2
  obtain rfl : x0 = .int .u32 a0 := k0
  obtain rfl : x6 = .int .i64 c := k6
  obtain rfl : x7 = .pointer (some ⟨gB, 0, none⟩) := k7
  obtain rfl : x8 = .int .i64 c := k8
  obtain rfl : x9 = .slice (some ⟨lb6, 0, none⟩) 4 4 := k9
  obtain ⟨lb7, lp7, hx7, hL7, hV7⟩ := hl
  obtain rfl : x10 = .slice (some ⟨lb7, 0, none⟩) 4 4 := hx7
  clear g1 g2
  rename_i hKK
  refine hKK _ w7 ?_
  clear hKK
  have HB7 := Par.hidden (HB6.out.trans (bw.mono HB6.out.size))
  have S := Par.hidden (Par.rSame 0 0 w7 _ _ 4 4 4 4 lp6 lp7 (HL6.out.later bw) hL7)
  have HEQ := Par.hidden (HV6.out.trans hV7.symm)
  clear bw hL7 hV7 HL6
  go_wp2_with fail
  refine Calls.mono S.out ?_
  rintro e w8 ⟨tt, rfl, h1, b8⟩
  obtain rfl : tt = true := h1.2 HEQ.out
  have HB8 := Par.hidden (HB7.out.trans (b8.mono HB7.out.size))
  clear h1 b8 S
  go_wp2_with fail
  refine Calls.mono (Par.alive w8) ?_
  rintro e w9 ⟨rfl, b9⟩
  go_wp2
  go_ret
  exact ⟨rfl, HB8.out.trans (b9.mono HB8.out.size)⟩

theorem contract (H : Type) (enc : TypeId × Value → H) (W : World) (base : Nat) (args : Array Value) (ds gs : List (DataW H)) (before : List MemPlace)
    (hval : ∀ (j : Nat) t v, Try.f6.params[j]? = some t → args[j]? = some v → Value.okWide Try.prog W .any base t v)
    (hW : DataW.Whole enc Try.prog Try.f6.params.toList Rows.paramCausesSpec.vars false W args.toList ds gs before)
    (hsz0 : (DataW.weightsEach Try.prog (Try.f6.params.toList ++ Rows.paramCausesSpec.plain.varTypes Try.prog) (ds ++ gs)).all (· ≤ reachBytes) = true) :
    Calls Try.prog 6 args W fun e W' => ∃ v, e = .returned v ∧ Rows.paramCausesSpec.post enc Try.prog Try.f6 false true false false W args v W' := by
  have hW' := hW
  obtain ⟨p, q, hA0, hV, rfl, hfz, hnd⟩ := hW
  have hA : DataW.TrodAll enc Try.prog W 0 (fun _ => true) true Try.f6.params.toList args.toList ds p := hA0
  have hsz := hsz0
  rw [Try.params6] at hA hval hsz
  obtain ⟨v0, vs0, d0, ds0, p0, q0, hargs, rfl, rfl, h0, r0⟩ := trodAll_cons hA
  obtain ⟨v1, vs1, d1, ds1, p1, q1, rfl, rfl, rfl, h1, r1⟩ := trodAll_cons r0
  obtain ⟨rfl, rfl, rfl⟩ := trodAll_nil r1
  obtain rfl : args = #[v0, v1] := by cases args; simp_all
  obtain ⟨rfl, rfl⟩ := trodVars_none hV
  obtain ⟨a0, rfl, rfl, rfl, w0⟩ := open_int Try.underlying43 (hval 0 43 v0 rfl rfl) h0
  obtain ⟨a1, rfl, rfl, rfl, w1⟩ := open_string Try.underlying9 (hval 1 9 v1 rfl rfl) h1
  have s1 : a1.size ≤ 140737488351232 := by
    have := sized_string hsz (j := 1) (t := 9) rfl rfl
    exact this
  clear hA0 hsz0 hsz
  refine (walk a0 a1 W w0 w1 s1).mono fun e W' ⟨he, bel⟩ => ?_
  subst he
  exact ⟨_, rfl, _, _, _, [], _, [], hW', trodAll_mk1 (shut_bool Try.underlying4 _), (trodAll_cons_mk (shut_int Try.underlying43 w0) (trodAll_cons_mk (shut_string Try.underlying9 w1) trodAll_mk0)), rfl, bel.frame _, fun h => by cases h⟩

noncomputable def laidWorld (os : Os) : World :=
  World.holding Try.prog os ⟨#[], #[], []⟩
theorem laid_met (os : Os) : laidMet Try.prog Rows.paramCausesRow.laid ((laidWorld os).forCall (fun _ _ => 0) ⟨#[], #[.int .u32 0, .string ByteArray.empty], []⟩).memory :=
  laidMet_of_run' 8 (by kernel_rfl) (by kernel_rfl)
theorem reads (os : Os) {H : Type} (enc : TypeId × Value → H) : ∃ places, DataW.whole enc Try.prog ((laidWorld os).forCall (fun _ _ => 0) ⟨#[], #[.int .u32 0, .string ByteArray.empty], []⟩).memory Try.f6.params.toList Rows.paramCausesSpec.vars false #[Value.int .u32 0, Value.string ByteArray.empty].toList 8 = some ([.lit (.int .u32 0), .lit (.string [])], [], places) :=
  ⟨[], by kernel_rfl⟩

set_option maxRecDepth 100000 in
theorem lifted (os : Os) (started : os.Started) (H : Type) (enc : TypeId × Value → H) (F : Stop.Interp) :
    ReturnsInHanded {} Try.checked os 6 .any ((OpenSpec.ofChange Rows.paramCausesSpec).preRow enc Try.prog Try.f6 Rows.paramCausesRow.domain false Rows.paramCausesRow.laid) (((OpenSpec.ofChange Rows.paramCausesSpec).at F).post enc Try.prog Try.f6 false true false false) := by
  obtain ⟨places, hx⟩ := reads os enc
  refine returnsInHanded_of_row (C := Try.checked) (s := OpenSpec.ofChange Rows.paramCausesSpec) own started (by kernel_rfl) Try.func6
    (witness_row_at (enc := enc) (C := Try.checked) false (laidWorld os) #[.int .u32 0, .string ByteArray.empty] rfl (by kernel_rfl) (by kernel_rfl) (by kernel_rfl)
      (OpenSpec.preRow_of_cond 8 hx (by kernel_rfl) (fun k hk => by cases hk) (by kernel_rfl) (laid_met os))) ?_
  intro W base args ds gs before hval hW _ hcond hsz hL _ _
  exact contract H enc W base args ds gs before hval hW hsz

theorem said : Rows.ParamCausesSaid :=
  OpenClaim.holds_of_cond 6 Try.f6 rfl rfl rfl rfl rfl rfl rfl ⟨rfl, rfl, rfl, rfl, rfl⟩ rfl rfl rfl rfl rfl (by kernel_rfl) Try.func6 (by kernel_rfl)
    (of_decide_eq_true (by kernel_rfl)) (by unfold Func.isWrapper; first | (rw [if_pos (by decide +kernel)]; kernel_rfl) | (rw [if_neg (by decide +kernel)]; exact ⟨rfl, rfl⟩))
    (fun os started H enc _ F => by rw [OpenClaim.pre_eq_preRow]; exact lifted os started H enc F)

/-- THE STATEMENT -/
theorem proved : Rows.ParamCausesSaid := said
#print axioms proved
end Go.Proofs.Ytallpnjjeikamaa.paramCauses
