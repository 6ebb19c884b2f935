/-
  What ChunkEncodes says of every list of chunks is true: package chunk tells which chunks may be, how many bytes each has, and which, as the document says. Conditions: the chunks and all that they hold lie in memory, as whatever is handed in does.
-/
import Derived.Test.YtifdkpifambhaaaRows
import Derived.WalkKit
import Derived.ProofKit
import Derived.OpenShut
import Derived.ShutString
import Derived.ChangeOld
import Derived.Below
import Derived.SizedLaws
import Derived.Deep.DeepHandedRow
import Derived.LaidLaws
import Derived.ChangeMaps5
import Derived.Test.YtifdkpifambhaaaChEh
import Derived.Test.YtifdkpifambhaaaChArgs
namespace Go.Proofs.Ytifdkpifambhaaa.chunkEncodes
open Go.ChangeShapes Go.WideShapes Go.ChangeAt Go.RowKit
open Go.ChangeMaps (open_string shut_string)
set_option linter.unusedVariables false

theorem own : ownKnob Try.prog.godebug = none := by kernel_rfl
theorem laidOut : laidOutB Try.prog = true := by kernel_rfl

open Par (hidden)
attribute [local go_sem ↓] Chu.execOp_ld Chu.execOp_bx Chu.execOp_st
theorem encR_ok {vs : List Chu.Ch} (h : Chu.EncR vs 0) : (∀ u ∈ vs, Chu.chk u = 0) ∧ Chu.tot vs ≤ 65536 := by
  rcases h with ⟨k, v, _, _, hne, he⟩ | ⟨_, _, he⟩ | ⟨h1, h2, _⟩
  · exact absurd he.symm hne
  · cases he
  · exact ⟨h1, h2⟩
theorem enc_one {vs : List Chu.Ch} {e d : Int} (h : Chu.EncR vs e) (g : Chu.EncR vs d) : e = d := by
  have key : ∀ (k : Nat) (v : Chu.Ch), vs[k]? = some v → Chu.chk v ≠ 0 → ¬ ∀ u ∈ vs, Chu.chk u = 0 := fun k v hv hne h => hne (h v (List.mem_of_getElem? hv))
  have low : ∀ (k j : Nat) (v u : Chu.Ch), vs[k]? = some v → vs[j]? = some u → Chu.chk v ≠ 0 → (∀ x ∈ vs.take j, Chu.chk x = 0) → ¬ k < j := by
    intro k j v u hv hu hne hall hlt
    exact hne (hall v (List.mem_of_getElem? (i := k) (by rw [List.getElem?_take, if_pos hlt]; exact hv)))
  rcases h with ⟨k, v, hv, ha, hne, rfl⟩ | ⟨ha, ht, rfl⟩ | ⟨ha, ht, rfl⟩ <;> rcases g with ⟨j, u, hu, hb, hnu, rfl⟩ | ⟨hb, hs, rfl⟩ | ⟨hb, hs, rfl⟩
  · have h1 := low k j v u hv hu hne hb
    have h2 := low j k u v hu hv hnu ha
    obtain rfl : k = j := by omega
    rw [hv] at hu
    cases hu
    rfl
  · exact absurd hb (key k v hv hne)
  · exact absurd hb (key k v hv hne)
  · exact absurd ha (key j u hu hnu)
  · rfl
  · omega
  · exact absurd ha (key j u hu hnu)
  · omega
  · rfl
section
variable {a : Act} {o : Oper} {w : World}
theorem e_check {u0 : Value} (x0 : Operand) (h0 : a.eval x0 = u0) (ho : o.op = .call { callee := .value (.func 12), args := #[x0], argTypes := #[37] }) : (execOp a.eval o).run Try.prog w = .ok (.enter 12 #[u0]) w := by
  unfold execOp
  rw [ho]
  go_simp
  exact by cases x0 <;> simpa [Act.eval] using h0
theorem e_rcheck {u0 : Value} (x0 : Operand) (h0 : a.eval x0 = u0) (ho : o.op = .call { callee := .value (.func 13), args := #[x0], argTypes := #[37] }) : (execOp a.eval o).run Try.prog w = .ok (.enter 13 #[u0]) w := by
  unfold execOp
  rw [ho]
  go_simp
  exact by cases x0 <;> simpa [Act.eval] using h0
theorem e_size {u0 : Value} (x0 : Operand) (h0 : a.eval x0 = u0) (ho : o.op = .call { callee := .value (.func 14), args := #[x0], argTypes := #[37] }) : (execOp a.eval o).run Try.prog w = .ok (.enter 14 #[u0]) w := by
  unfold execOp
  rw [ho]
  go_simp
  exact by cases x0 <;> simpa [Act.eval] using h0
theorem e_rsize {u0 : Value} (x0 : Operand) (h0 : a.eval x0 = u0) (ho : o.op = .call { callee := .value (.func 15), args := #[x0], argTypes := #[37] }) : (execOp a.eval o).run Try.prog w = .ok (.enter 15 #[u0]) w := by
  unfold execOp
  rw [ho]
  go_simp
  exact by cases x0 <;> simpa [Act.eval] using h0
theorem e_ldx {p : Value} {c : Chu.Ck} (x : Operand) (hu : a.eval x = p) (ho : o.op = .load 37 x) (hb : (Chu.ld p).run Try.prog w = .ok (Chu.cv c) w) : (execOp a.eval o).run Try.prog w = .ok (.value (Chu.cv c)) w := by
  obtain ⟨d, op, ty, ps, af, gd⟩ := o
  simp only at ho
  subst ho
  rw [Chu.execOp_ld, hu]
  exact Ord.run_v hb
theorem o_neE {p : Int} (x y : Operand) (ho : o.op = .binOp .neq 24 x y 24) (hx : a.eval x = .int .i64 p) (hy : a.eval y = .int .i64 p) : (execOp a.eval o).run Try.prog w = .ok (.value (.bool false)) w := by
  unfold execOp
  rw [ho]
  simp only [hx, hy]
  go_simp
theorem o_ne3 {p : Int} (x y : Operand) (ho : o.op = .binOp .neq 3 x y 3) (hx : a.eval x = .int .i64 p) (hy : a.eval y = .int .i64 p) : (execOp a.eval o).run Try.prog w = .ok (.value (.bool false)) w := by
  unfold execOp
  rw [ho]
  simp only [hx, hy]
  go_simp
theorem o_pk (x y : Operand) (ho : o.op = .pick x (.const (.bool true)) y) (hx : a.eval x = .bool false) (hy : a.eval y = .bool false) : (execOp a.eval o).run Try.prog w = .ok (.value (.bool false)) w := by
  unfold execOp
  rw [ho]
  simp [hx, hy, asBool]
end
set_option maxRecDepth 20000 in
set_option maxHeartbeats 2000000 in

theorem walk (a0 : Option Addr) (len0 cap0 : Nat) (z0 : List Chu.Ck) (w : World) (w0 : Chu.Cks 0 w a0 len0 z0) (s0 : ∀ c ∈ z0, c.bl ≤ 140737488351232) :
    Calls Try.prog 3 #[.slice a0 len0 cap0] w fun e w' => e = .returned (.bool true) ∧ Below w.heap.size w w' := by
  have EN := hidden (Chu.encode 0 w a0 len0 cap0 z0 w0)
  have hn0 := w0.1
  have hn1 := w0.2.1
  have HVO := hidden (show ∀ v ∈ z0.map Chu.val, Chu.VOk v from fun v hv => by
    obtain ⟨c, hc, rfl⟩ := List.mem_map.1 hv
    exact (w0.2.2.1 c hc).vok)
  have W0 := hidden w0
  have S0 := hidden s0
  clear w0 s0
  go_enter Try.func3, Try.ntmps3
  go_wp2_with fail
  refine Calls.mono EN.out ?_
  rintro e w1 ⟨v, er, rfl, hE, hnil, h0, b1⟩
  have B1 := hidden b1
  have HE := hidden hE
  have RE := hidden (Chu.rEncode 0 w1 a0 len0 cap0 z0 (W0.out.later b1) S0.out)
  obtain ⟨va, vl, vc, rfl, hv⟩ : ∃ va vl vc, v = .slice va vl vc ∧ ∀ w2, Below w1.heap.size w1 w2 → (convert 23 9 (.slice va vl vc)).run Try.prog w2 = .ok (.string (strOfNums (if er = 0 then Chu.encA (z0.map Chu.val) else []))) w2 := by
    by_cases hz : er = 0
    · subst hz
      obtain ⟨hok, htot⟩ := encR_ok hE
      obtain ⟨g, cap, rfl, hcap⟩ := h0 rfl
      refine ⟨_, _, _, rfl, fun w2 hb => ?_⟩
      rw [if_pos rfl]
      have hr := (hcap.row (Chu.encA_bytes HVO.out hok)).later hb
      rw [Chu.encA_len hok] at hr
      exact Par.conv_row _ w2 _ _ cap _ hr
    · obtain rfl := hnil hz
      refine ⟨_, _, _, rfl, fun w2 hb => ?_⟩
      rw [if_neg hz]
      exact Par.conv_row 0 w2 none 0 0 [] ⟨rfl, (fun n hn => by cases hn), by decide, .inl rfl⟩
  have HV := hidden hv
  clear EN b1 hE hnil h0 hv
  go_wp2_with fail
  refine Calls.mono RE.out ?_
  rintro e w2 ⟨u, d, rfl, hd, hnil, h0, b2⟩
  obtain rfl := enc_one HE.out hd
  have B2 := hidden (B1.out.trans (b2.mono B1.out.size))
  have hv := HV.out w2 b2
  obtain ⟨ua, ul, uc, rfl, hu⟩ : ∃ va vl vc, u = .slice va vl vc ∧ (convert 23 9 (.slice va vl vc)).run Try.prog w2 = .ok (.string (strOfNums (if er = 0 then Chu.encA (z0.map Chu.val) else []))) w2 := by
    by_cases hz : er = 0
    · subst hz
      obtain ⟨hok, htot⟩ := encR_ok hd
      obtain ⟨g, cap, rfl, hr, _⟩ := Par.row_own (h0 rfl) (Chu.encA_bytes HVO.out hok) (by rw [Chu.encA_len hok]; omega)
      refine ⟨_, _, _, rfl, ?_⟩
      rw [if_pos rfl]
      exact Par.conv_row _ w2 _ _ cap _ hr
    · obtain rfl := hnil hz
      refine ⟨_, _, _, rfl, ?_⟩
      rw [if_neg hz]
      exact Par.conv_row 0 w2 none 0 0 [] ⟨rfl, (fun n hn => by cases hn), by decide, .inl rfl⟩
  generalize strOfNums (if er = 0 then Chu.encA (z0.map Chu.val) else []) = str at *
  clear HV hnil h0 hd b2 RE HE
  go_wp2_with fail
  refine Calls.mono (Chu.awake w2) ?_
  rintro e w3 ⟨rfl, b3⟩
  have B3 := hidden (B2.out.trans (b3.mono B2.out.size))
  clear b3 hv hu
  go_wp2_with fail
  go_loopw [7] (fun j wr => ∃ k : Nat, k ≤ len0 ∧ j = .int .i64 (k : Int) ∧ Below w3.heap.size w3 wr) (fun j _ => len0 - (intOf j).toNat)
  case atStart => exact ⟨0, Nat.zero_le _, rfl, Below.refl _ _⟩
  case round =>
    obtain ⟨k, hk, rfl, hbl⟩ := hrel
    rcases Nat.lt_or_ge k len0 with hlt | hge
    · have hB := B3.out.trans (hbl.mono B3.out.size)
      obtain ⟨b, off, c, ea, hck, hld, hchk⟩ := (W0.out.later hB).get hlt
      subst ea
      have hbm := S0.out c (List.mem_of_getElem? hck)
      have HLD := hidden (show ∀ x, Below wr.heap.size wr x → (Chu.ld (.pointer (some ⟨b, off + k * 15, none⟩))).run Try.prog x = .ok (Chu.cv c) x from fun x hx => by
        obtain ⟨b0, o0, c0, e0, hp0, h0, _⟩ := ((W0.out.later hB).later hx).get hlt
        cases e0
        rw [hck] at hp0
        cases hp0
        exact h0)
      have CK1 := hidden (show ∀ x, Below wr.heap.size wr x → Calls Try.prog 12 #[Chu.cv c] x fun e w' => e = .returned (.int .i64 (Chu.chk (Chu.val c))) ∧ Below wr.heap.size wr w' from fun x hx => (Chu.check 0 c x (hchk.later hx)).mono (by
        rintro e w' ⟨rfl, hb⟩
        exact ⟨rfl, hx.trans (hb.mono hx.size)⟩))
      have CK2 := hidden (show ∀ x, Below wr.heap.size wr x → Calls Try.prog 13 #[Chu.cv c] x fun e w' => e = .returned (.int .i64 (Chu.chk (Chu.val c))) ∧ Below wr.heap.size wr w' from fun x hx => (Chu.rCheck 0 c x (hchk.later hx) hbm).mono (by
        rintro e w' ⟨rfl, hb⟩
        exact ⟨rfl, hx.trans (hb.mono hx.size)⟩))
      have SZ1 := hidden (show ∀ x, Below wr.heap.size wr x → Calls Try.prog 14 #[Chu.cv c] x fun e w' => e = .returned (.int .i64 (Chu.csize (Chu.val c) : Nat)) ∧ Below wr.heap.size wr w' from fun x hx => (Chu.size_ 0 c x (hchk.later hx)).mono (by
        rintro e w' ⟨rfl, hb⟩
        exact ⟨rfl, hx.trans (hb.mono hx.size)⟩))
      have SZ2 := hidden (show ∀ x, Below wr.heap.size wr x → Calls Try.prog 15 #[Chu.cv c] x fun e w' => e = .returned (.int .i64 (Chu.csize (Chu.val c) : Nat)) ∧ Below wr.heap.size wr w' from fun x hx => (Chu.rCsize 0 c x (hchk.later hx) hbm).mono (by
        rintro e w' ⟨rfl, hb⟩
        exact ⟨rfl, hx.trans (hb.mono hx.size)⟩))
      have HW0 := hidden (show Below wr.heap.size wr wr.drew from Par.below_drewN (Below.refl _ _) 1)
      have HBL := hidden hbl
      generalize Chu.chk (Chu.val c) = E at *
      generalize ((Chu.csize (Chu.val c) : Nat) : Int) = Z at *
      clear hchk hck hbm hld hB hbl
      go_wp2_with fail
      refine Ord.wp_region_det (by kernel_rfl) 62 [(some 38, .slice (some ⟨b, off, none⟩) len0 cap0), (some 39, .int .i64 (k : Int)), (some 40, .pointer (some ⟨b, off + k * 15, none⟩)), (some 41, Chu.cv c), (some 42, .int .i64 E), (some 43, .slice (some ⟨b, off, none⟩) len0 cap0), (some 44, .int .i64 (k : Int)), (some 45, .pointer (some ⟨b, off + k * 15, none⟩)), (some 46, Chu.cv c), (some 47, .int .i64 E), (some 48, .bool false), (some 49, .bool false), (some 50, .slice (some ⟨b, off, none⟩) len0 cap0), (some 51, .int .i64 (k : Int)), (some 52, .pointer (some ⟨b, off + k * 15, none⟩)), (some 53, Chu.cv c), (some 54, .int .i64 Z), (some 55, .slice (some ⟨b, off, none⟩) len0 cap0), (some 56, .int .i64 (k : Int)), (some 57, .pointer (some ⟨b, off + k * 15, none⟩)), (some 58, Chu.cv c), (some 59, .int .i64 Z), (some 60, .bool false), (some 61, .bool false)] rfl (by kernel_rfl) (by rfl) (by kernel_rfl) (fun _ x => Below wr.heap.size wr x) (fun _ _ _ _ h => h) ?_ ?_ HW0.out
      case refine_1 =>
        intro L i o ac w' ho hi hcl hdep hF hW
        obtain ⟨f1, f2, f3, f4⟩ := hF
        have f1' : ac.tmps.size = 62 := f1
        match i, ho, hi with
        | 0, ho, hi =>
          cases ho
          have da0 : ac.eval (.tmp 0) = .slice (some ⟨b, off, none⟩) len0 cap0 := f3 0 rfl
          exact Ord.det_value rfl rfl (Chu.o_mv _ rfl da0) rfl (hW)
        | 1, ho, hi =>
          cases ho
          have da0 : ac.eval (.tmp 7) = .int .i64 (k : Int) := f3 7 rfl
          exact Ord.det_value rfl rfl (Chu.o_mv _ rfl da0) rfl (hW)
        | 2, ho, hi =>
          cases ho
          have da0 : ac.eval (.tmp 38) = .slice (some ⟨b, off, none⟩) len0 cap0 := f4 0 38 _ rfl (hdep ⟨0, .data⟩ (by simp) rfl)
          have da1 : ac.eval (.tmp 39) = .int .i64 (k : Int) := f4 1 39 _ rfl (hdep ⟨1, .data⟩ (by simp) rfl)
          exact Ord.det_value rfl rfl (Chu.o_ixC _ _ da0 da1 hlt rfl) rfl (hW)
        | 3, ho, hi =>
          cases ho
          have da0 : ac.eval (.tmp 40) = .pointer (some ⟨b, off + k * 15, none⟩) := f4 2 40 _ rfl (hdep ⟨2, .data⟩ (by simp) rfl)
          exact Ord.det_value rfl rfl (e_ldx _ da0 rfl (HLD.out _ hW)) rfl (hW)
        | 4, ho, hi =>
          cases ho
          have da0 : ac.eval (.tmp 41) = Chu.cv c := f4 3 41 _ rfl (hdep ⟨3, .data⟩ (by simp) rfl)
          exact Ord.det_call rfl rfl (e_check _ da0 rfl) (CK1.out _ hW)
        | 5, ho, hi =>
          cases ho
          have da0 : ac.eval (.tmp 0) = .slice (some ⟨b, off, none⟩) len0 cap0 := f3 0 rfl
          exact Ord.det_value rfl rfl (Chu.o_mv _ rfl da0) rfl (hW)
        | 6, ho, hi =>
          cases ho
          have da0 : ac.eval (.tmp 7) = .int .i64 (k : Int) := f3 7 rfl
          exact Ord.det_value rfl rfl (Chu.o_mv _ rfl da0) rfl (hW)
        | 7, ho, hi =>
          cases ho
          have da0 : ac.eval (.tmp 43) = .slice (some ⟨b, off, none⟩) len0 cap0 := f4 5 43 _ rfl (hdep ⟨5, .data⟩ (by simp) rfl)
          have da1 : ac.eval (.tmp 44) = .int .i64 (k : Int) := f4 6 44 _ rfl (hdep ⟨6, .data⟩ (by simp) rfl)
          exact Ord.det_value rfl rfl (Chu.o_ixC _ _ da0 da1 hlt rfl) rfl (hW)
        | 8, ho, hi =>
          cases ho
          have da0 : ac.eval (.tmp 45) = .pointer (some ⟨b, off + k * 15, none⟩) := f4 7 45 _ rfl (hdep ⟨7, .data⟩ (by simp) rfl)
          exact Ord.det_value rfl rfl (e_ldx _ da0 rfl (HLD.out _ hW)) rfl (hW)
        | 9, ho, hi =>
          cases ho
          have da0 : ac.eval (.tmp 46) = Chu.cv c := f4 8 46 _ rfl (hdep ⟨8, .data⟩ (by simp) rfl)
          exact Ord.det_call rfl rfl (e_rcheck _ da0 rfl) (CK2.out _ hW)
        | 10, ho, hi =>
          cases ho
          have da0 : ac.eval (.tmp 42) = .int .i64 E := f4 4 42 _ rfl (hdep ⟨4, .data⟩ (by simp) rfl)
          have da1 : ac.eval (.tmp 47) = .int .i64 E := f4 9 47 _ rfl (hdep ⟨9, .data⟩ (by simp) rfl)
          exact Ord.det_value rfl rfl (o_neE _ _ rfl da0 da1) rfl (hW)
        | 11, ho, hi =>
          cases ho
          have da0 : ac.eval (.tmp 48) = .bool false := f4 10 48 _ rfl (hdep ⟨10, .data⟩ (by simp) rfl)
          exact Ord.det_value rfl rfl (Chu.o_mv _ rfl da0) rfl (hW)
        | 12, ho, hi =>
          cases ho
          have dg : ac.eval (.tmp 49) = .bool false := f4 11 49 _ rfl (hdep ⟨11, .guard⟩ (by simp) rfl)
          have da0 : ac.eval (.tmp 0) = .slice (some ⟨b, off, none⟩) len0 cap0 := f3 0 rfl
          exact Ord.det_value rfl (Ord.wanted_of dg (by rw [f1']; decide) rfl rfl) (Chu.o_mv _ rfl da0) rfl (hW)
        | 13, ho, hi =>
          cases ho
          have dg : ac.eval (.tmp 49) = .bool false := f4 11 49 _ rfl (hdep ⟨11, .guard⟩ (by simp) rfl)
          have da0 : ac.eval (.tmp 7) = .int .i64 (k : Int) := f3 7 rfl
          exact Ord.det_value rfl (Ord.wanted_of dg (by rw [f1']; decide) rfl rfl) (Chu.o_mv _ rfl da0) rfl (hW)
        | 14, ho, hi =>
          cases ho
          have dg : ac.eval (.tmp 49) = .bool false := f4 11 49 _ rfl (hdep ⟨11, .guard⟩ (by simp) rfl)
          have da0 : ac.eval (.tmp 50) = .slice (some ⟨b, off, none⟩) len0 cap0 := f4 12 50 _ rfl (hdep ⟨12, .data⟩ (by simp) rfl)
          have da1 : ac.eval (.tmp 51) = .int .i64 (k : Int) := f4 13 51 _ rfl (hdep ⟨13, .data⟩ (by simp) rfl)
          exact Ord.det_value rfl (Ord.wanted_of dg (by rw [f1']; decide) rfl rfl) (Chu.o_ixC _ _ da0 da1 hlt rfl) rfl (hW)
        | 15, ho, hi =>
          cases ho
          have dg : ac.eval (.tmp 49) = .bool false := f4 11 49 _ rfl (hdep ⟨11, .guard⟩ (by simp) rfl)
          have da0 : ac.eval (.tmp 52) = .pointer (some ⟨b, off + k * 15, none⟩) := f4 14 52 _ rfl (hdep ⟨14, .data⟩ (by simp) rfl)
          exact Ord.det_value rfl (Ord.wanted_of dg (by rw [f1']; decide) rfl rfl) (e_ldx _ da0 rfl (HLD.out _ hW)) rfl (hW)
        | 16, ho, hi =>
          cases ho
          have dg : ac.eval (.tmp 49) = .bool false := f4 11 49 _ rfl (hdep ⟨11, .guard⟩ (by simp) rfl)
          have da0 : ac.eval (.tmp 53) = Chu.cv c := f4 15 53 _ rfl (hdep ⟨15, .data⟩ (by simp) rfl)
          exact Ord.det_call rfl (Ord.wanted_of dg (by rw [f1']; decide) rfl rfl) (e_size _ da0 rfl) (SZ1.out _ hW)
        | 17, ho, hi =>
          cases ho
          have dg : ac.eval (.tmp 49) = .bool false := f4 11 49 _ rfl (hdep ⟨11, .guard⟩ (by simp) rfl)
          have da0 : ac.eval (.tmp 0) = .slice (some ⟨b, off, none⟩) len0 cap0 := f3 0 rfl
          exact Ord.det_value rfl (Ord.wanted_of dg (by rw [f1']; decide) rfl rfl) (Chu.o_mv _ rfl da0) rfl (hW)
        | 18, ho, hi =>
          cases ho
          have dg : ac.eval (.tmp 49) = .bool false := f4 11 49 _ rfl (hdep ⟨11, .guard⟩ (by simp) rfl)
          have da0 : ac.eval (.tmp 7) = .int .i64 (k : Int) := f3 7 rfl
          exact Ord.det_value rfl (Ord.wanted_of dg (by rw [f1']; decide) rfl rfl) (Chu.o_mv _ rfl da0) rfl (hW)
        | 19, ho, hi =>
          cases ho
          have dg : ac.eval (.tmp 49) = .bool false := f4 11 49 _ rfl (hdep ⟨11, .guard⟩ (by simp) rfl)
          have da0 : ac.eval (.tmp 55) = .slice (some ⟨b, off, none⟩) len0 cap0 := f4 17 55 _ rfl (hdep ⟨17, .data⟩ (by simp) rfl)
          have da1 : ac.eval (.tmp 56) = .int .i64 (k : Int) := f4 18 56 _ rfl (hdep ⟨18, .data⟩ (by simp) rfl)
          exact Ord.det_value rfl (Ord.wanted_of dg (by rw [f1']; decide) rfl rfl) (Chu.o_ixC _ _ da0 da1 hlt rfl) rfl (hW)
        | 20, ho, hi =>
          cases ho
          have dg : ac.eval (.tmp 49) = .bool false := f4 11 49 _ rfl (hdep ⟨11, .guard⟩ (by simp) rfl)
          have da0 : ac.eval (.tmp 57) = .pointer (some ⟨b, off + k * 15, none⟩) := f4 19 57 _ rfl (hdep ⟨19, .data⟩ (by simp) rfl)
          exact Ord.det_value rfl (Ord.wanted_of dg (by rw [f1']; decide) rfl rfl) (e_ldx _ da0 rfl (HLD.out _ hW)) rfl (hW)
        | 21, ho, hi =>
          cases ho
          have dg : ac.eval (.tmp 49) = .bool false := f4 11 49 _ rfl (hdep ⟨11, .guard⟩ (by simp) rfl)
          have da0 : ac.eval (.tmp 58) = Chu.cv c := f4 20 58 _ rfl (hdep ⟨20, .data⟩ (by simp) rfl)
          exact Ord.det_call rfl (Ord.wanted_of dg (by rw [f1']; decide) rfl rfl) (e_rsize _ da0 rfl) (SZ2.out _ hW)
        | 22, ho, hi =>
          cases ho
          have dg : ac.eval (.tmp 49) = .bool false := f4 11 49 _ rfl (hdep ⟨11, .guard⟩ (by simp) rfl)
          have da0 : ac.eval (.tmp 54) = .int .i64 Z := f4 16 54 _ rfl (hdep ⟨16, .data⟩ (by simp) rfl)
          have da1 : ac.eval (.tmp 59) = .int .i64 Z := f4 21 59 _ rfl (hdep ⟨21, .data⟩ (by simp) rfl)
          exact Ord.det_value rfl (Ord.wanted_of dg (by rw [f1']; decide) rfl rfl) (o_ne3 _ _ rfl da0 da1) rfl (hW)
        | 23, ho, hi =>
          cases ho
          have da0 : ac.eval (.tmp 49) = .bool false := f4 11 49 _ rfl (hdep ⟨11, .data⟩ (by simp) rfl)
          have da1 : ac.eval (.tmp 60) = .bool false := f4 22 60 _ rfl (hdep ⟨22, .data⟩ (by simp) rfl)
          exact Ord.det_value rfl rfl (o_pk _ _ rfl da0 da1) rfl (hW)
      case refine_2 =>
        intro w' hW
        have HB4 := hidden (HBL.out.trans (hW.mono HBL.out.size))
        clear hW
        simp only [Ord.puts, Ord.prs, List.filterMap_cons, List.filterMap_nil, Option.map_some, List.foldl_cons, List.foldl_nil]
        go_simp
        go_wp2
        go_roundw
        case rel => exact ⟨k + 1, by omega, by go_num, HB4.out⟩
        case measure => simp [intOf]; omega
    · go_wp2
      go_ret
      exact ⟨rfl, B3.out.trans (hbl.mono B3.out.size)⟩

set_option maxRecDepth 100000 in
theorem contract (H : Type) (enc : TypeId × Value → H) (W : World) (base : Nat) (args : Array Value) (ds gs : List (DataW H)) (before : List MemPlace)
    (hval : ∀ (j : Nat) t v, Try.f3.params[j]? = some t → args[j]? = some v → Value.okWide Try.prog W .any base t v)
    (hW : DataW.Whole enc Try.prog Try.f3.params.toList Rows.chunkEncodesSpec.vars false W args.toList ds gs before)
    (hsz0 : (DataW.weightsEach Try.prog (Try.f3.params.toList ++ Rows.chunkEncodesSpec.plain.varTypes Try.prog) (ds ++ gs)).all (· ≤ reachBytes) = true) :
    Calls Try.prog 3 args W fun e W' => ∃ v, e = .returned v ∧ Rows.chunkEncodesSpec.post enc Try.prog Try.f3 false true false false W args v W' := by
  have hW' := hW
  obtain ⟨p, q, hA0, hV, rfl, hfz, hnd⟩ := hW
  have hA : DataW.TrodAll enc Try.prog W 0 (fun _ => true) true Try.f3.params.toList args.toList ds p := hA0
  have hsz := hsz0
  rw [Try.params3] at hA hval hsz
  obtain ⟨v0, vs0, d0, ds0, p0, q0, hargs, rfl, rfl, h0, r0⟩ := trodAll_cons hA
  obtain ⟨rfl, rfl, rfl⟩ := trodAll_nil r0
  obtain rfl : args = #[v0] := by cases args; simp_all
  obtain ⟨rfl, rfl⟩ := trodVars_none hV
  obtain ⟨a0, len0, cap0, rfl⟩ := okWide_slice Try.underlying22 (hval 0 22 v0 rfl rfl)
  have k0 := h0
  have lt0 : ∀ x ∈ p0, x.block < W.heap.size := by obtain ⟨m, hm⟩ := k0; exact DataW.trod_lt m _ _ _ hm
  have sz0 : (d0.weights Try.prog 22).all (· ≤ reachBytes) = true := List.all_eq_true.2 fun m hm => List.all_eq_true.1 hsz m (DataW.weights_mem_each (j := 0) rfl rfl m hm)
  obtain ⟨z0, w0, s0⟩ : ∃ l, Chu.Cks 0 W a0 len0 l ∧ ∀ c ∈ l, c.bl ≤ 140737488351232 := by
    obtain ⟨fuel, hf⟩ := h0
    exact Chu.chunks_arg' hf sz0
  clear hA0 hsz0 hsz
  refine (walk a0 len0 cap0 z0 W w0 s0).mono fun e W' ⟨he, bel⟩ => ?_
  subst he
  exact ⟨_, rfl, _, _, _, [], _, [], hW', trodAll_mk1 (shut_bool Try.underlying4 _), (trodAll_cons_mk (Below.trod laidOut (by kernel_rfl) (of_decide_eq_true (by kernel_rfl)) k0 bel lt0) trodAll_mk0), rfl, bel.frame _, fun h => by cases h⟩

noncomputable def laidWorld (os : Os) : World :=
  World.holding Try.prog os ⟨#[], #[], []⟩
set_option maxRecDepth 100000 in
theorem laid_met (os : Os) : laidMet Try.prog Rows.chunkEncodesRow.laid ((laidWorld os).forCall (fun _ _ => 0) ⟨#[], #[.slice none 0 0], []⟩).memory :=
  laidMet_of_run' 8 (by kernel_rfl) (by kernel_rfl)
set_option maxRecDepth 100000 in
theorem reads (os : Os) {H : Type} (enc : TypeId × Value → H) : ∃ places, DataW.whole enc Try.prog ((laidWorld os).forCall (fun _ _ => 0) ⟨#[], #[.slice none 0 0], []⟩).memory Try.f3.params.toList Rows.chunkEncodesSpec.vars false #[Value.slice none 0 0].toList 8 = some ([.nil], [], places) :=
  ⟨[], by kernel_rfl⟩

set_option maxRecDepth 100000 in
theorem lifted (os : Os) (started : os.Started) (H : Type) (enc : TypeId × Value → H) (F : Stop.Interp) :
    ReturnsInHanded {} Try.checked os 3 .any ((OpenSpec.ofChange Rows.chunkEncodesSpec).preRow enc Try.prog Try.f3 Rows.chunkEncodesRow.domain false Rows.chunkEncodesRow.laid) (((OpenSpec.ofChange Rows.chunkEncodesSpec).at F).post enc Try.prog Try.f3 false true false false) := by
  obtain ⟨places, hx⟩ := reads os enc
  refine returnsInHanded_of_row (C := Try.checked) (s := OpenSpec.ofChange Rows.chunkEncodesSpec) own started (by kernel_rfl) Try.func3
    (witness_row_at (enc := enc) (C := Try.checked) false (laidWorld os) #[.slice none 0 0] rfl (by kernel_rfl) (by kernel_rfl) (by kernel_rfl)
      (OpenSpec.preRow_of_cond 8 hx (by kernel_rfl) (fun k hk => by cases hk) (by kernel_rfl) (laid_met os))) ?_
  intro W base args ds gs before hval hW _ hcond hsz hL _ _
  exact contract H enc W base args ds gs before hval hW hsz

theorem said : Rows.ChunkEncodesSaid :=
  OpenClaim.holds_of_cond 3 Try.f3 rfl rfl rfl rfl rfl rfl rfl ⟨rfl, rfl, rfl, rfl, rfl⟩ rfl rfl rfl rfl rfl (by kernel_rfl) Try.func3 (by kernel_rfl)
    (of_decide_eq_true (by kernel_rfl)) (by unfold Func.isWrapper; first | (rw [if_pos (by decide +kernel)]; kernel_rfl) | (rw [if_neg (by decide +kernel)]; exact ⟨rfl, rfl⟩))
    (fun os started H enc _ F => by rw [OpenClaim.pre_eq_preRow]; exact lifted os started H enc F)

/-- THE STATEMENT -/
theorem proved : Rows.ChunkEncodesSaid := said
#print axioms proved
end Go.Proofs.Ytifdkpifambhaaa.chunkEncodes
