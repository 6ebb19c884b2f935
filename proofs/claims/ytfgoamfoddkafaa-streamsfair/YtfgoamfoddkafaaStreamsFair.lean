/-
  Between two messages of a stream that are begun one behind the other, each other stream that has one all the time has one begun, for every number of messages of eight streams and every size of pieces.
  Conditions: none.
-/
import Derived.Test.YtfgoamfoddkafaaRows
import Derived.WalkKit
import Derived.ProofKit
import Derived.OpenShut
import Derived.ShutString
import Derived.ChangeOld
import Derived.Below
import Derived.SizedLaws
import Derived.Deep.DeepHandedRow
import Derived.LaidLaws
import Derived.ChangeMaps5
import Derived.Test.YtfgoamfoddkafaaSqN
import Derived.Test.YtfgoamfoddkafaaSqArgs
namespace Go.Proofs.Ytfgoamfoddkafaa.streamsFair
open Go.ChangeShapes Go.WideShapes Go.ChangeAt Go.RowKit
open Go.ChangeMaps (open_string shut_string)
set_option linter.unusedVariables false

theorem own : ownKnob Try.prog.godebug = none := by kernel_rfl
theorem laidOut : laidOutB Try.prog = true := by kernel_rfl

open Ba (hidden Has cell_lt)
open Sq
theorem made8 (z : Value) : madeCells #[z] (8 * 1) = r8 (fun _ => z) := by
  apply Array.ext_getElem?
  intro j
  rcases Nat.lt_or_ge j 8 with h | h
  · rw [made_at _ (by omega), r8_at _ h]
    simp [Nat.mod_one]
  · rw [Array.getElem?_eq_none (by unfold madeCells; simp; omega), Array.getElem?_eq_none (by unfold r8; simpa using h)]
theorem make8 {t e : TypeId} {z : Value} {bytes : Nat} (ht : Try.prog.underlying t = some (.slice e)) (hinfo : (Try.prog.info? e).map (fun i => (i.zero, i.size, i.bytes)) = some (some z, 1, bytes)) (hz : z.cells = #[z]) (hb : bytes * 8 ≤ 281474976710656) :
    ∃ mk : World → World, (∀ w : World, (Instr.makeSlice t (.int .i64 8) (.int .i64 8)).run Try.prog w = .ok (.slice (some ⟨w.heap.size, 0, none⟩) 8 8) (mk w)) ∧ (∀ w : World, Has (mk w) w.heap.size (r8 fun _ => z) e) ∧ (∀ w : World, Below w.heap.size w (mk w)) ∧ ∀ w : World, (mk w).heap.size = w.heap.size + 1 := by
  obtain ⟨mk, h1, h2, h3, h4⟩ := make_wide (P := Try.prog) ht hinfo 8 hb (by decide)
  refine ⟨mk, h1, fun w => ?_, h3, h4⟩
  have := h2 w
  rw [hz, made8] at this
  exact this
theorem info3 : (Try.prog.info? 3).map (fun i => (i.zero, i.size, i.bytes)) = some (some (.int .i64 0), 1, 8) := by kernel_rfl
theorem info50 : (Try.prog.info? 50).map (fun i => (i.zero, i.size, i.bytes)) = some (some (.slice none 0 0), 1, 24) := by kernel_rfl
theorem info4 : (Try.prog.info? 4).map (fun i => (i.zero, i.size, i.bytes)) = some (some (.bool false), 1, 1) := by kernel_rfl
theorem equalIn_nil (w : World) (d : Nat) (a : Option Addr) (l c : Nat) : (Op.equalIn (d + 1) 50 (.slice a l c) (.slice none 0 0)).run Try.prog w = .ok a.isNone w := by
  cases a <;> simp [Op.equalIn, run_underlying Try.underlying50]
theorem equal_nil (w : World) (a : Option Addr) (l c : Nat) : (Op.equal 50 (.slice a l c) (.slice none 0 0)).run Try.prog w = .ok a.isNone w := equalIn_nil w 9999 a l c
theorem neq_nil (w : World) (a : Option Addr) (l c : Nat) : (binOp .neq 50 (.slice a l c) (.slice none 0 0)).run Try.prog w = .ok (.bool (!a.isNone)) w := by
  simp [binOp, equal_nil w a l c]
/-- the law's queue and its numbers -/
theorem Sys.turn1 {D F : Nat → Prop} {w0 w : World} {t b : Nat} {S : St} {cs : Array Value} (h : Sq.Sys D w0 w t S F [(b, cs, 3)]) (i : Nat) (u : Value) : Sq.Sys D w0 (w.setCell ⟨b, i, none⟩ u) t S F [(b, cs.setIfInBounds i u, 3)] := by
  have hb := h.hs _ (.head _)
  have hm : Mod (fun k => k = b) w (w.setCell ⟨b, i, none⟩ u) := Mod.setCell (F := fun k => k = b) w (p := ⟨b, i, none⟩) rfl _
  refine ⟨h.cd.other (ty := 3) hb.2.1 (by decide) (by decide) (by decide) (by decide) hm, h.fb, h.bl.setCell (p := ⟨b, i, none⟩) hb.1 _, fun x hx => ?_⟩
  rw [List.mem_singleton] at hx
  subst hx
  exact ⟨hb.1, hb.2.1.set i u, hb.2.2⟩
structure P1 (S : St) (lf : Nat → Int) (m : Nat) : Prop where
  n : S.n = 8
  l : S.lim = 1073741824
  b : S.bgn = false
  a : S.last = 7
  k : S.tk = 0
  w : S.wt ≤ 3 * m
  c : ∀ o, o < 8 → lf o = cntB (S.R o)
  u : ∀ o, o < 8 → lf o ≤ m
theorem P1.push {S : St} {lf : Nat → Int} {m : Nat} (h : P1 S lf m) (hm : m ≤ 160) (hw : 0 ≤ S.wt) {s : Nat} (hs : s < 8) : pushE S (s : Int) [1, 2, 3] = 0 ∧ P1 (pushS S s 1 false [1, 2, 3]) (up lf s (lf s + 1)) (m + 1) := by
  refine ⟨?_, h.n, h.l, h.b, h.a, h.k, ?_, fun o ho => ?_, fun o ho => ?_⟩
  · unfold pushE
    have e1 := h.n
    have e2 := h.l
    have e3 := h.k
    have e4 := h.w
    rw [if_neg (by omega), if_neg (by decide), if_neg (by rw [e2, e3]; simp only [List.length_cons, List.length_nil]; omega)]
  · show S.wt + 3 ≤ _
    have := h.w
    omega
  · rw [cntB_push]
    have := h.c o ho
    by_cases e : o = s
    · subst e; rw [up_same, if_pos rfl]; omega
    · rw [up_ne _ _ e, if_neg e]; omega
  · have := h.u o ho
    by_cases e : o = s
    · subst e; rw [up_same]; omega
    · rw [up_ne _ _ e]; omega
/-- between two pieces -/
structure P3 (S : St) (lf : Nat → Int) (sv : Nat → Option (Nat × (Nat → Bool))) : Prop where
  n : S.n = 8
  c : ∀ o, o < 8 → lf o = cntB (S.R o)
  u : ∀ o, o < 8 → lf o ≤ 160
  f : FairP S.last lf sv
theorem tak_none {S : St} {n : Int} (hg : Sq.Good S) (hn : 1 ≤ n) (h : tak S n = none) : nxt S = none := by
  cases hx : nxt S with
  | none => rfl
  | some i =>
    obtain ⟨h1, h2⟩ := nxt_some hg.n1 hx
    cases hR : S.R i with
    | nil => exact absurd hR h2
    | cons r rs => rw [tak_of hn hx hR] at h; cases h
theorem FairP_congr {L : Nat} {lf : Nat → Int} {s1 s2 : Nat → Option (Nat × (Nat → Bool))} (h : ∀ j, j < 8 → s1 j = s2 j) (hf : FairP L lf s2) : FairP L lf s1 := fun s o b f hs ho hne hp hsv => hf s o b f hs ho hne hp (by rw [← h s hs]; exact hsv)
/-- the marks so far -/
def svK (sv : Nat → Option (Nat × (Nat → Bool))) (s o : Nat) : Nat → Option (Nat × (Nat → Bool)) := fun i => if i < o then (sv i).map fun p => (p.1, up p.2 s true) else sv i
theorem svK_zero (sv : Nat → Option (Nat × (Nat → Bool))) (s : Nat) : svK sv s 0 = sv := by
  funext i
  unfold svK
  rw [if_neg (by omega)]
theorem svK_at (sv : Nat → Option (Nat × (Nat → Bool))) (s o : Nat) : svK sv s o o = sv o := by
  unfold svK
  rw [if_neg (by omega)]
theorem svK_none {sv : Nat → Option (Nat × (Nat → Bool))} {s o : Nat} (h : sv o = none) : svK sv s (o + 1) = svK sv s o := by
  funext i
  unfold svK
  by_cases e : i = o
  · subst e; rw [if_pos (by omega), if_neg (by omega), h]; rfl
  · by_cases e2 : i < o
    · rw [if_pos (by omega), if_pos e2]
    · rw [if_neg (by omega), if_neg e2]
theorem svK_some {sv : Nat → Option (Nat × (Nat → Bool))} {s o b : Nat} {f : Nat → Bool} (h : sv o = some (b, f)) : svK sv s (o + 1) = up (svK sv s o) o (some (b, up f s true)) := by
  funext i
  by_cases e : i = o
  · subst e
    rw [up_same]
    unfold svK
    rw [if_pos (by omega), h]
    rfl
  · rw [up_ne _ _ e]
    unfold svK
    by_cases e2 : i < o
    · rw [if_pos (by omega), if_pos e2]
    · rw [if_neg (by omega), if_neg e2]
theorem svK_blocks {sv : Nat → Option (Nat × (Nat → Bool))} {s o i b : Nat} {f : Nat → Bool} (h : svK sv s o i = some (b, f)) : ∃ f', sv i = some (b, f') := by
  unfold svK at h
  split at h
  · rw [Option.map_eq_some_iff] at h
    obtain ⟨⟨b', f'⟩, h1, h2⟩ := h
    simp only [Prod.mk.injEq] at h2
    exact ⟨f', by rw [← h2.1]; exact h1⟩
  · exact ⟨f, h⟩
def wtOf (w : World) (t : Nat) : Nat := match w.cell? ⟨t, 4, none⟩ with
  | some (.int _ n) => n.toNat
  | _ => 0
theorem wtOf_eq {D F : Nat → Prop} {w : World} {t : Nat} {S : St} (h : Cd D w t S F) : wtOf w t = S.wt.toNat := by
  obtain ⟨hg, b, vs, P, hN, hF⟩ := h
  have : w.cell? ⟨t, 4, none⟩ = some (.int .i64 S.wt) := hN.q.cell 4 rfl
  unfold wtOf
  rw [this]
set_option maxRecDepth 20000 in
set_option maxHeartbeats 4000000 in

theorem walk (a0 : Option Addr) (len0 cap0 : Nat) (z0 : List Int) (a1 : Int) (w : World) (w0 : Sq.Row w a0 len0 z0) (s0 : len0 ≤ cap0 ∧ cap0 ≤ 140737488351232 ∧ (a0 = none → len0 = 0 ∧ cap0 = 0)) (w1 : (Lit.int .u8 a1).wf = true) :
    Calls Try.prog 5 #[.slice a0 len0 cap0, .int .u8 a1] w fun e w' => e = .returned (.bool true) ∧ Below w.heap.size w w' := by
  obtain ⟨mk3, m31, m32, m33, m34⟩ := make8 Try.underlying39 info3 rfl (by decide)
  obtain ⟨mk49, m41, m42, m43, m44⟩ := make8 Try.underlying49 info50 rfl (by decide)
  obtain ⟨mk50, m51, m52, m53, m54⟩ := make8 Try.underlying50 info4 rfl (by decide)
  have M3 := hidden (And.intro m32 (And.intro m33 m34))
  have M4 := hidden (And.intro m42 (And.intro m43 m44))
  have M5 := hidden (And.intro m52 (And.intro m53 m54))
  clear m32 m33 m34 m42 m43 m44 m52 m53 m54
  have N := hidden (new (fun _ => True) 8 1073741824 (by decide) (by decide) (by decide) (by decide) w)
  have HR0 := hidden w0
  have ha1 := u8_bounds w1
  clear w0 w1 s0
  go_enter Try.func5, Try.ntmps5
  go_wp2_with fail
  refine Calls.mono N.out ?_
  rintro e v1 ⟨t, rfl, ⟨F1, hc1, hF1⟩, hB1⟩
  have H1 : Hid (Sq.Sys (fun _ => True) w v1 t (newS 8 1073741824) F1 []) := Sys.start hc1 hF1 hB1
  clear hc1 hF1 hB1 N
  go_wp2_with fail
  refine Calls.mono (awake v1) ?_
  rintro e v2 ⟨rfl, hb2⟩
  have H2 := hidden (H1.out.later hb2)
  clear hb2 H1
  go_wp2_with fail
  obtain ⟨v3, hv3⟩ : ∃ v3, v3 = mk3 v2 := ⟨_, rfl⟩
  obtain ⟨bl, hbl⟩ : ∃ bl, bl = v2.heap.size := ⟨_, rfl⟩
  have H3 : Hid (Sq.Sys (fun _ => True) w v3 t (newS 8 1073741824) F1 [(bl, r8 (fun i => .int .i64 ((fun _ => 0) i)), 3)]) := by
    rw [hv3, hbl]
    have h3 := H2.out.later (M3.out.2.1 v2)
    refine ⟨h3.cd, h3.fb, h3.bl, fun x hx => ?_⟩
    rw [List.mem_singleton] at hx
    subst hx
    exact ⟨H2.out.bl.size, M3.out.1 v2, fun hf => by have := H2.out.cd.lt hf; simp only at this; omega⟩
  rw [← hv3, ← hbl]
  clear hv3 hbl H2
  go_loopw [8] (fun d wr => ∃ (s : Nat) (S : St) (F : Nat → Prop) (lf : Nat → Int), d = .int .i64 (s : Int) ∧ s ≤ 8 ∧ Hid (Sq.Sys (fun _ => True) w wr t S F [(bl, r8 (fun i => .int .i64 (lf i)), 3)] ∧ P1 S lf (20 * s))) (fun d wr => 8 - (intOf d).toNat)
  case atStart => exact ⟨0, newS 8 1073741824, F1, fun _ => 0, rfl, by omega, ⟨H3.out, rfl, rfl, rfl, rfl, rfl, by decide, fun o ho => rfl, fun o ho => by simp⟩⟩
  case round =>
  obtain ⟨s, S, F, lf, rfl, hs, HI⟩ := hrel
  by_cases hs8 : s = 8
  · subst hs8
    obtain ⟨wq, hwq⟩ : ∃ x, x = wr := ⟨_, rfl⟩
    subst hwq
    go_wp2_with fail
    obtain ⟨v4, hv4⟩ : ∃ v4, v4 = mk49 wq := ⟨_, rfl⟩
    obtain ⟨bs, hbs⟩ : ∃ bs, bs = wq.heap.size := ⟨_, rfl⟩
    have H4 : Hid (Fw w v4 t bl bs S F lf (fun _ => none)) := by
      rw [hv4, hbs]
      have h1 := HI.out.1
      have hB := M4.out.2.1 wq
      have hb := h1.hs _ (.head _)
      exact ⟨h1.cd.later hB, h1.fb, h1.bl.trans (hB.mono h1.bl.size), hb.1, h1.bl.size, hb.2.1.later hB, M4.out.1 wq, (fun i b f _ h => by cases h), (fun i j b f g _ _ h => by cases h)⟩
    rw [← hv4, ← hbs]
    clear hv4 hbs
    obtain ⟨nn, hnn⟩ : ∃ nn, nn = 1 + a1 % 4 := ⟨_, rfl⟩
    have hn1 : 1 ≤ nn ∧ nn ≤ 4 := by omega
    have HNN := hidden hnn
    clear hnn
    go_loopw [11] (fun d wr => ∃ (S : St) (F : Nat → Prop) (lf : Nat → Int) (sv : Nat → Option (Nat × (Nat → Bool))), Hid (Fw w wr t bl bs S F lf sv ∧ P3 S lf sv)) (fun d wr => wtOf wr t)
    case atStart =>
      have q := HI.out.2
      exact ⟨S, F, lf, fun _ => none, ⟨H4.out, q.n, q.c, fun o ho => by have := q.u o ho; omega, fun s o b f _ _ _ _ h => by cases h⟩⟩
    case round =>
    obtain ⟨S, F, lf, sv, HJ⟩ := hrel
    have TK := hidden (takX HJ.out.1.cd nn)
    go_wp2_with fail
    rw [← HNN.out]
    refine Calls.mono TK.out ?_
    rintro e w5 hT
    rcases hT with ⟨ht1, rfl, hb5⟩ | ⟨i, r, rs, _, hx, hR, _, x, rfl, hmx, ⟨F5, hc5, hF5⟩, hm5⟩
    · have hnx := tak_none HJ.out.1.cd.1 hn1.1 ht1
      unfold zPv
      obtain ⟨w6, hw6⟩ : ∃ w6, w6 = w5.alloc (.cells #[.int .u16 0, .int .u16 0, .int .u32 0, .bool false, .slice none 0 0, .bool false, .bool false] 44) := ⟨_, rfl⟩
      have hF6 : Fw w w6 t bl bs S F lf sv := by rw [hw6]; exact (HJ.out.1.later hb5).later ((Below.refl _ w5).alloc (Nat.le_refl _) _)
      have hz : ∀ o, o < 8 → w6.cell? ⟨bl, o, none⟩ = some (.int .i64 0) := fun o ho => by
        have := hF6.hl.cell o (r8_at _ ho)
        rw [HJ.out.2.c o ho, nxt_none hnx (by rw [HJ.out.2.n]; exact ho)] at this
        exact this
      have HZ := hidden hz
      have HF6 := hidden hF6
      have HW6 := hidden hw6
      clear hz hF6 hw6 hnx ht1 hb5 TK
      go_wp2_with fail
      rw [← HW6.out]
      go_loopw [16] (fun d wx => ∃ (o : Nat), d = .int .i64 (o : Int) ∧ o ≤ 8 ∧ Hid (w6 = wx)) (fun d wx => 8 - (intOf d).toNat)
      case atStart => exact ⟨0, rfl, by omega, rfl⟩
      case round =>
      obtain ⟨o, rfl, ho, HW⟩ := hrel
      have hww := HW.out
      subst hww
      rcases Nat.lt_or_ge o 8 with hol | hog
      · have hlt : (o : Int) < 8 := by omega
        have c1 := HZ.out o hol
        have hw3 : IntKind.i64.wrap ((o : Int) + 1) = (o : Int) + 1 := by rw [IntKind.wrap_i64]; omega
        go_wp2
        go_roundw
        case rel => exact ⟨o + 1, by simp, by omega, by exact trivial⟩
        case measure => simp only [intOf]; omega
      · obtain rfl : o = 8 := by omega
        go_wp2
        go_ret
        exact ⟨rfl, HF6.out.bw⟩
    · have hg := HJ.out.1.cd.1
      have h8 := HJ.out.2.n
      obtain ⟨hi8, _⟩ := nxt_some hg.n1 hx
      rw [h8] at hi8
      have hok : OkR i r := hg.ok i r (by omega) (by rw [hR]; exact List.mem_cons_self ..)
      have hF5' : Fw w w5 t bl bs (takeS S i r rs nn) F5 lf sv := HJ.out.1.step hm5 hc5 (fun k hk => .inl (hF5 k hk))
      obtain ⟨xa, xc, hxe, _⟩ := hmx.row
      have hms : (takeS S i r rs nn).wt.toNat < S.wt.toNat := by
        show (S.wt - (r.d.take nn.toNat).length).toNat < S.wt.toNat
        have h1 := (hg.take hx hR hn1.1).w1
        change 0 ≤ S.wt - (r.d.take nn.toNat).length at h1
        have : 0 < (r.d.take nn.toNat).length := by rw [List.length_take]; have := hok.2.2.2.2.2.2.1; omega
        omega
      have hst : (cut r (S.sn i) nn).st = (i : Int) := hok.1
      have hbg : (cut r (S.sn i) nn).bg = r.bg := rfl
      generalize hcl : (cut r (S.sn i) nn).d.length = xl at hxe
      subst hxe
      generalize cut r (S.sn i) nn = cc at hst hbg
      obtain ⟨cst, csn, cpr, cun, cdd, cbg, cen⟩ := cc
      simp only at hst hbg
      subst hst
      unfold pcv
      obtain ⟨w6, hw6⟩ : ∃ w6, w6 = w5.alloc (.cells #[.int .u16 (i : Int), .int .u16 csn, .int .u32 cpr, .bool cun, .slice xa xl xc, .bool cbg, .bool cen] 44) := ⟨_, rfl⟩
      have hF6 : Fw w w6 t bl bs (takeS S i r rs nn) F5 lf sv := by rw [hw6]; exact hF5'.later ((Below.refl _ w5).alloc (Nat.le_refl _) _)
      have hbx : Has w6 w5.heap.size #[.int .u16 (i : Int), .int .u16 csn, .int .u32 cpr, .bool cun, .slice xa xl xc, .bool cbg, .bool cen] 44 := by rw [hw6]; exact Has.new _ _ _
      have x0 := hbx.cell 0 rfl
      have x5 := hbx.cell 5 rfl
      have HW6 := hidden hw6
      have HF6 := hidden hF6
      have HMS := hidden hms
      have HX := hidden hx
      have HR := hidden hR
      have hwi : IntKind.i64.wrap (i : Int) = (i : Int) := by rw [IntKind.wrap_i64]; omega
      have hni : ¬ ((7 : Int) < (i : Int)) := by omega
      clear hcl hmx hc5 hF5 hm5 hF5' hw6 hF6 hbx hms hok hx hR h8 TK
      cases hb : r.bg with
      | false =>
        rw [hb] at hbg
        subst hbg
        have HG := hidden hg
        clear hg
        go_upto_region 17 with fail
        rw [← HW6.out]
        go_wp2
        go_roundw
        case rel =>
          have hlast : i = S.last := by
            have := (HG.out.hd i r (by have := HJ.out.2.n; omega) (by rw [HR.out]; rfl)).1 hb
            exact this.2.symm
          refine ⟨takeS S i r rs nn, F5, lf, sv, ⟨HF6.out, HJ.out.2.n, fun o ho => ?_, HJ.out.2.u, ?_⟩⟩
          · have := cntB_take HG.out (n := nn) HR.out o
            rw [if_neg (fun h => by rw [hb] at h; exact Bool.noConfusion h.2), Nat.add_zero] at this
            rw [this]
            exact HJ.out.2.c o ho
          · show FairP i lf sv
            rw [hlast]
            exact HJ.out.2.f
        case measure =>
          rw [wtOf_eq HF6.out.cd, wtOf_eq HJ.out.1.cd]
          exact HMS.out
      | true =>
        rw [hb] at hbg
        subst hbg
        have hnb : S.bgn = false := by
          cases hbb : S.bgn with
          | false => rfl
          | true =>
            have h1 := hg.nxt_bgn hbb
            rw [HX.out] at h1
            cases h1
            have := (hg.hd S.last r (by have := HJ.out.2.n; omega) (by rw [HR.out]; rfl)).2 ⟨hbb, rfl⟩
            rw [hb] at this
            cases this
        have HNB := hidden hnb
        have HG := hidden hg
        clear hnb hg
        have hsi := HF6.out.hs.cell i (r8_at _ hi8)
        have hnil := fun w => neq_nil w
        go_upto_region 17 with fail
        rw [← HW6.out]
        go_wp2_with fail
        go_loopw [14] (fun d wx => ∃ (o : Nat), d = .int .i64 (o : Int) ∧ o ≤ 8 ∧ Hid (w6 = wx)) (fun d wx => 8 - (intOf d).toNat)
        case atStart => exact ⟨0, rfl, by omega, rfl⟩
        case round =>
        obtain ⟨o, rfl, ho, HW⟩ := hrel
        have hww := HW.out
        subst hww
        rcases Nat.lt_or_ge o 8 with hol | hog
        · have hlt : (o : Int) < 8 := by omega
          cases hsv : sv i with
          | none =>
            rw [hsv] at hsi
            simp only [sl8] at hsi
            go_wp2_with fail
            go_loopw [15] (fun d wx => ∃ (o : Nat), d = .int .i64 (o : Int) ∧ o ≤ 8 ∧ Hid (Fw w wx t bl bs (takeS S i r rs nn) F5 lf (svK sv i o))) (fun d wx => 8 - (intOf d).toNat)
            case atStart => exact ⟨0, rfl, by omega, by rw [svK_zero]; exact HF6.out⟩
            case round =>
            obtain ⟨o, rfl, ho, HK⟩ := hrel
            rcases Nat.lt_or_ge o 8 with hol | hog
            · have hlt : (o : Int) < 8 := by omega
              have hw3 : IntKind.i64.wrap ((o : Int) + 1) = (o : Int) + 1 := by rw [IntKind.wrap_i64]; omega
              have c1 := HK.out.hs.cell o (r8_at _ hol)
              rw [svK_at] at c1
              cases hso : sv o with
              | none =>
                rw [hso] at c1
                simp only [sl8] at c1
                go_wp2
                go_roundw
                case rel => exact ⟨o + 1, by simp, by omega, by rw [svK_none hso]; exact HK.out⟩
                case measure => simp only [intOf]; omega
              | some pq =>
                obtain ⟨bq, fq⟩ := pq
                rw [hso] at c1
                simp only [sl8] at c1
                obtain ⟨_, hq⟩ := HK.out.hi o bq fq hol (by rw [svK_at]; exact hso)
                have c2 := hq.cell i (r8_at _ hi8)
                have f2 := hq.frozen i
                clear hq
                go_wp2
                go_roundw
                case rel => exact ⟨o + 1, by simp, by omega, by rw [svK_some hso]; exact HK.out.mark hol hi8 (by rw [svK_at]; exact hso)⟩
                case measure => simp only [intOf]; omega
            · obtain rfl : o = 8 := by omega
              have h7 := HK.out.later (M5.out.2.1 wr)
              have c1 := h7.hs.cell i (r8_at _ hi8)
              have f1 := h7.hs.frozen i
              have c2 := h7.hl.cell i (r8_at _ hi8)
              have f2 := h7.hl.frozen i
              have hne : bl ≠ bs := fun e => by subst e; exact h7.hl.ne h7.hs (by decide) rfl
              have hne' : bs ≠ bl := fun e => hne e.symm
              have hul := HJ.out.2.u i hi8
              have hcl := HJ.out.2.c i hi8
              have hwl : IntKind.i64.wrap (lf i - 1) = lf i - 1 := by rw [IntKind.wrap_i64]; omega
              have h8 := h7.fresh (s := i) (bn := wr.heap.size) hi8 HK.out.bw.size (M5.out.1 wr) (fun j b f hj hs e => by
                subst e
                have := (HK.out.hi j _ f hj hs).2.lt
                omega)
              have H9 := hidden (h8.setL hi8 (lf i - 1))
              clear h7 h8 hul hcl
              go_wp2
              go_roundw
              case rel =>
                refine ⟨takeS S i r rs nn, F5, up lf i (lf i - 1), _, ⟨H9.out, HJ.out.2.n, fun o ho => ?_, fun o ho => ?_, ?_⟩⟩
                · have h1 := cntB_take HG.out (n := nn) HR.out o
                  have h2 := HJ.out.2.c o ho
                  by_cases e : o = i
                  · subst e
                    rw [if_pos ⟨rfl, hb⟩] at h1
                    rw [up_same]
                    omega
                  · rw [if_neg (fun h => e h.1)] at h1
                    rw [up_ne _ _ e]
                    omega
                · have h2 := HJ.out.2.u o ho
                  by_cases e : o = i
                  · subst e; rw [up_same]; omega
                  · rw [up_ne _ _ e]; exact h2
                · refine FairP_congr (fun j hj => ?_) (fair_next HJ.out.2.n (by have := HG.out.lt; have := HJ.out.2.n; omega) HNB.out hi8 HX.out HJ.out.2.c HJ.out.2.f wr.heap.size)
                  unfold svN
                  by_cases e : j = i
                  · rw [e, up_same, up_same]
                  · rw [up_ne _ _ e, up_ne _ _ e]
                    unfold svK
                    rw [if_pos hj]
              case measure =>
                rw [wtOf_eq H9.out.cd, wtOf_eq HJ.out.1.cd]
                exact HMS.out
          | some pq =>
            obtain ⟨bq, fq⟩ := pq
            rw [hsv] at hsi
            simp only [sl8] at hsi
            have c2 := HF6.out.hl.cell o (r8_at _ hol)
            have c3 := (HF6.out.hi i bq fq hi8 hsv).2.cell o (r8_at _ hol)
            have hw3 : IntKind.i64.wrap ((o : Int) + 1) = (o : Int) + 1 := by rw [IntKind.wrap_i64]; omega
            by_cases hoi : o = i
            · subst hoi
              go_wp2
              go_roundw
              case rel => exact ⟨o + 1, by simp, by omega, by exact trivial⟩
              case measure => simp only [intOf]; omega
            · have hoi' : ¬ ((o : Int) = (i : Int)) := by omega
              by_cases hp : 0 < lf o
              · have hfo : fq o = true := fair_check HJ.out.2.n (by have := HG.out.lt; have := HJ.out.2.n; omega) HNB.out HX.out HJ.out.2.c HJ.out.2.f hi8 hsv hol hoi hp
                rw [hfo] at c3
                go_wp2
                go_roundw
                case rel => exact ⟨o + 1, by simp, by omega, by exact trivial⟩
                case measure => simp only [intOf]; omega
              · go_wp2
                go_roundw
                case rel => exact ⟨o + 1, by simp, by omega, by exact trivial⟩
                case measure => simp only [intOf]; omega
        · obtain rfl : o = 8 := by omega
          go_wp2_with fail
          go_loopw [15] (fun d wx => ∃ (o : Nat), d = .int .i64 (o : Int) ∧ o ≤ 8 ∧ Hid (Fw w wx t bl bs (takeS S i r rs nn) F5 lf (svK sv i o))) (fun d wx => 8 - (intOf d).toNat)
          case atStart => exact ⟨0, rfl, by omega, by rw [svK_zero]; exact HF6.out⟩
          case round =>
          obtain ⟨o, rfl, ho, HK⟩ := hrel
          rcases Nat.lt_or_ge o 8 with hol | hog
          · have hlt : (o : Int) < 8 := by omega
            have hw3 : IntKind.i64.wrap ((o : Int) + 1) = (o : Int) + 1 := by rw [IntKind.wrap_i64]; omega
            have c1 := HK.out.hs.cell o (r8_at _ hol)
            rw [svK_at] at c1
            cases hso : sv o with
            | none =>
              rw [hso] at c1
              simp only [sl8] at c1
              go_wp2
              go_roundw
              case rel => exact ⟨o + 1, by simp, by omega, by rw [svK_none hso]; exact HK.out⟩
              case measure => simp only [intOf]; omega
            | some pq =>
              obtain ⟨bq, fq⟩ := pq
              rw [hso] at c1
              simp only [sl8] at c1
              obtain ⟨_, hq⟩ := HK.out.hi o bq fq hol (by rw [svK_at]; exact hso)
              have c2 := hq.cell i (r8_at _ hi8)
              have f2 := hq.frozen i
              clear hq
              go_wp2
              go_roundw
              case rel => exact ⟨o + 1, by simp, by omega, by rw [svK_some hso]; exact HK.out.mark hol hi8 (by rw [svK_at]; exact hso)⟩
              case measure => simp only [intOf]; omega
          · obtain rfl : o = 8 := by omega
            have h7 := HK.out.later (M5.out.2.1 wr)
            have c1 := h7.hs.cell i (r8_at _ hi8)
            have f1 := h7.hs.frozen i
            have c2 := h7.hl.cell i (r8_at _ hi8)
            have f2 := h7.hl.frozen i
            have hne : bl ≠ bs := fun e => by subst e; exact h7.hl.ne h7.hs (by decide) rfl
            have hne' : bs ≠ bl := fun e => hne e.symm
            have hul := HJ.out.2.u i hi8
            have hcl := HJ.out.2.c i hi8
            have hwl : IntKind.i64.wrap (lf i - 1) = lf i - 1 := by rw [IntKind.wrap_i64]; omega
            have h8 := h7.fresh (s := i) (bn := wr.heap.size) hi8 HK.out.bw.size (M5.out.1 wr) (fun j b f hj hs e => by
              subst e
              have := (HK.out.hi j _ f hj hs).2.lt
              omega)
            have H9 := hidden (h8.setL hi8 (lf i - 1))
            clear h7 h8 hul hcl
            go_wp2
            go_roundw
            case rel =>
              refine ⟨takeS S i r rs nn, F5, up lf i (lf i - 1), _, ⟨H9.out, HJ.out.2.n, fun o ho => ?_, fun o ho => ?_, ?_⟩⟩
              · have h1 := cntB_take HG.out (n := nn) HR.out o
                have h2 := HJ.out.2.c o ho
                by_cases e : o = i
                · subst e
                  rw [if_pos ⟨rfl, hb⟩] at h1
                  rw [up_same]
                  omega
                · rw [if_neg (fun h => e h.1)] at h1
                  rw [up_ne _ _ e]
                  omega
              · have h2 := HJ.out.2.u o ho
                by_cases e : o = i
                · subst e; rw [up_same]; omega
                · rw [up_ne _ _ e]; exact h2
              · refine FairP_congr (fun j hj => ?_) (fair_next HJ.out.2.n (by have := HG.out.lt; have := HJ.out.2.n; omega) HNB.out hi8 HX.out HJ.out.2.c HJ.out.2.f wr.heap.size)
                unfold svN
                by_cases e : j = i
                · rw [e, up_same, up_same]
                · rw [up_ne _ _ e, up_ne _ _ e]
                  unfold svK
                  rw [if_pos hj]
            case measure =>
              rw [wtOf_eq H9.out.cd, wtOf_eq HJ.out.1.cd]
              exact HMS.out
  · by_cases hsl : s < len0
    · have hs7 : s < 8 := by omega
      have hlt1 : (s : Int) < 8 := by omega
      have hlt2 : (s : Int) < (len0 : Int) := by omega
      obtain ⟨wo, hwo⟩ : ∃ x, x = wr := ⟨_, rfl⟩
      subst hwo
      obtain ⟨db, doff, hda, hdc⟩ := HR0.out.2.2.2.resolve_left (by omega)
      subst hda
      have hbyte := HR0.out.2.1 (z0.getD s 0) (by rw [List.getD_eq_getElem?_getD, List.getElem?_eq_getElem (by have := HR0.out.1; omega)]; exact List.getElem_mem ..)
      have c0 := hdc s hsl
      generalize z0.getD s 0 = zz at *
      obtain ⟨cc, hcc⟩ : ∃ cc, zz.tmod 20 = cc := ⟨_, rfl⟩
      have hc20 : 0 ≤ cc ∧ cc < 20 := by
        rw [← hcc, Int.tmod_eq_emod_of_nonneg (by omega)]
        omega
      have hwz : IntKind.i64.wrap zz = zz := by rw [IntKind.wrap_i64]; omega
      have hws : IntKind.i64.wrap ((s : Int) + 1) = (s : Int) + 1 := by rw [IntKind.wrap_i64]; omega
      have hw16 : IntKind.u16.wrap (s : Int) = (s : Int) := by show (s : Int) % 65536 = s; omega
      have HC0 := hidden c0
      clear hdc c0
      go_wp2_with fail
      go_loopw [9] (fun d wx => ∃ (i : Nat) (S : St) (F : Nat → Prop) (lf : Nat → Int), d = .int .i64 (i : Int) ∧ (i : Int) ≤ cc ∧ Hid (Sq.Sys (fun _ => True) w wx t S F [(bl, r8 (fun i => .int .i64 (lf i)), 3)] ∧ P1 S lf (20 * s + i))) (fun d wx => 20 - (intOf d).toNat)
      case atStart => exact ⟨0, S, F, lf, rfl, by omega, HI.out⟩
      case round =>
      obtain ⟨i, S2, F2, lf2, rfl, hi, HI2⟩ := hrel
      have c1 := (HI2.out.1.bl.cell (p := ⟨db, doff + s, none⟩) (cell_lt HC0.out)).trans HC0.out
      by_cases hic : (i : Int) < cc
      · have h2 := HI2.out.1.alloc (cs [1, 2, 3]).toArray 5
        obtain ⟨q1, q2⟩ := HI2.out.2.push (by omega) HI2.out.1.cd.1.w1 hs7
        have PU := pushK (cap := 3) h2.cd (s := (s : Int)) (pr := 1) (by omega) (by decide) false (row_lit wr [1, 2, 3] (by intro n hn; simp at hn; omega) (by decide)) (fun _ _ => trivial) q1
        rw [Int.toNat_natCast] at PU
        have HPU := hidden PU
        have H2 := hidden h2
        have HQ2 := hidden q2
        have hul := HI2.out.2.u s hs7
        have hcl := HI2.out.2.c s hs7
        have hwl : IntKind.i64.wrap (lf2 s + 1) = lf2 s + 1 := by rw [IntKind.wrap_i64]; omega
        have hwi : IntKind.i64.wrap ((i : Int) + 1) = (i : Int) + 1 := by rw [IntKind.wrap_i64]; omega
        clear PU h2 q1 q2 hul hcl
        go_wp2_with fail
        refine Calls.mono HPU.out ?_
        rintro e w5 ⟨rfl, ⟨F5, hc5, hF5⟩, hm5⟩
        have h5 := H2.out.step hm5 hc5 hF5
        have h5' : Sq.Sys (fun _ => True) w w5 t (pushS S2 s 1 false [1, 2, 3]) F5 [(bl, r8 (fun i => .int .i64 (lf2 i)), 3)] := ⟨h5.cd, h5.fb, h5.bl, fun x hx => h5.hs x (List.mem_cons_of_mem _ hx)⟩
        have y1 := (h5'.has (.head _)).cell s (r8_at _ hs7)
        have y2 := (h5'.has (.head _)).frozen s
        have H5 := hidden h5'
        clear h5 h5' hc5 hF5 hm5
        go_wp2
        go_roundw
        case rel =>
          refine ⟨i + 1, _, F5, up lf2 s (lf2 s + 1), by simp, by omega, ⟨?_, HQ2.out⟩⟩
          have := Sys.turn1 H5.out s (.int .i64 (lf2 s + 1))
          rw [r8_set _ hs7] at this
          have e : (up (fun i => Value.int .i64 (lf2 i)) s (.int .i64 (lf2 s + 1))) = fun i => .int .i64 (up lf2 s (lf2 s + 1) i) := by
            funext j
            unfold up
            split <;> rfl
          rw [e] at this
          exact this
        case measure => simp only [intOf]; omega
      · go_wp2
        go_roundw
        case rel =>
          have q := HI2.out.2
          exact ⟨s + 1, S2, F2, lf2, by simp, by omega, ⟨HI2.out.1, q.n, q.l, q.b, q.a, q.k, by have := q.w; omega, q.c, fun o ho => by have := q.u o ho; omega⟩⟩
        case measure => simp only [intOf]; omega
    · have hlt1 : (s : Int) < 8 := by omega
      have hlt2 : ¬ ((s : Int) < (len0 : Int)) := by omega
      obtain ⟨wq, hwq⟩ : ∃ x, x = wr := ⟨_, rfl⟩
      subst hwq
      go_wp2_with fail
      obtain ⟨v4, hv4⟩ : ∃ v4, v4 = mk49 wq := ⟨_, rfl⟩
      obtain ⟨bs, hbs⟩ : ∃ bs, bs = wq.heap.size := ⟨_, rfl⟩
      have H4 : Hid (Fw w v4 t bl bs S F lf (fun _ => none)) := by
        rw [hv4, hbs]
        have h1 := HI.out.1
        have hB := M4.out.2.1 wq
        have hb := h1.hs _ (.head _)
        exact ⟨h1.cd.later hB, h1.fb, h1.bl.trans (hB.mono h1.bl.size), hb.1, h1.bl.size, hb.2.1.later hB, M4.out.1 wq, (fun i b f _ h => by cases h), (fun i j b f g _ _ h => by cases h)⟩
      rw [← hv4, ← hbs]
      clear hv4 hbs
      obtain ⟨nn, hnn⟩ : ∃ nn, nn = 1 + a1 % 4 := ⟨_, rfl⟩
      have hn1 : 1 ≤ nn ∧ nn ≤ 4 := by omega
      have HNN := hidden hnn
      clear hnn
      go_loopw [11] (fun d wr => ∃ (S : St) (F : Nat → Prop) (lf : Nat → Int) (sv : Nat → Option (Nat × (Nat → Bool))), Hid (Fw w wr t bl bs S F lf sv ∧ P3 S lf sv)) (fun d wr => wtOf wr t)
      case atStart =>
        have q := HI.out.2
        exact ⟨S, F, lf, fun _ => none, ⟨H4.out, q.n, q.c, fun o ho => by have := q.u o ho; omega, fun s o b f _ _ _ _ h => by cases h⟩⟩
      case round =>
      obtain ⟨S, F, lf, sv, HJ⟩ := hrel
      have TK := hidden (takX HJ.out.1.cd nn)
      go_wp2_with fail
      rw [← HNN.out]
      refine Calls.mono TK.out ?_
      rintro e w5 hT
      rcases hT with ⟨ht1, rfl, hb5⟩ | ⟨i, r, rs, _, hx, hR, _, x, rfl, hmx, ⟨F5, hc5, hF5⟩, hm5⟩
      · have hnx := tak_none HJ.out.1.cd.1 hn1.1 ht1
        unfold zPv
        obtain ⟨w6, hw6⟩ : ∃ w6, w6 = w5.alloc (.cells #[.int .u16 0, .int .u16 0, .int .u32 0, .bool false, .slice none 0 0, .bool false, .bool false] 44) := ⟨_, rfl⟩
        have hF6 : Fw w w6 t bl bs S F lf sv := by rw [hw6]; exact (HJ.out.1.later hb5).later ((Below.refl _ w5).alloc (Nat.le_refl _) _)
        have hz : ∀ o, o < 8 → w6.cell? ⟨bl, o, none⟩ = some (.int .i64 0) := fun o ho => by
          have := hF6.hl.cell o (r8_at _ ho)
          rw [HJ.out.2.c o ho, nxt_none hnx (by rw [HJ.out.2.n]; exact ho)] at this
          exact this
        have HZ := hidden hz
        have HF6 := hidden hF6
        have HW6 := hidden hw6
        clear hz hF6 hw6 hnx ht1 hb5 TK
        go_wp2_with fail
        rw [← HW6.out]
        go_loopw [16] (fun d wx => ∃ (o : Nat), d = .int .i64 (o : Int) ∧ o ≤ 8 ∧ Hid (w6 = wx)) (fun d wx => 8 - (intOf d).toNat)
        case atStart => exact ⟨0, rfl, by omega, rfl⟩
        case round =>
        obtain ⟨o, rfl, ho, HW⟩ := hrel
        have hww := HW.out
        subst hww
        rcases Nat.lt_or_ge o 8 with hol | hog
        · have hlt : (o : Int) < 8 := by omega
          have c1 := HZ.out o hol
          have hw3 : IntKind.i64.wrap ((o : Int) + 1) = (o : Int) + 1 := by rw [IntKind.wrap_i64]; omega
          go_wp2
          go_roundw
          case rel => exact ⟨o + 1, by simp, by omega, by exact trivial⟩
          case measure => simp only [intOf]; omega
        · obtain rfl : o = 8 := by omega
          go_wp2
          go_ret
          exact ⟨rfl, HF6.out.bw⟩
      · have hg := HJ.out.1.cd.1
        have h8 := HJ.out.2.n
        obtain ⟨hi8, _⟩ := nxt_some hg.n1 hx
        rw [h8] at hi8
        have hok : OkR i r := hg.ok i r (by omega) (by rw [hR]; exact List.mem_cons_self ..)
        have hF5' : Fw w w5 t bl bs (takeS S i r rs nn) F5 lf sv := HJ.out.1.step hm5 hc5 (fun k hk => .inl (hF5 k hk))
        obtain ⟨xa, xc, hxe, _⟩ := hmx.row
        have hms : (takeS S i r rs nn).wt.toNat < S.wt.toNat := by
          show (S.wt - (r.d.take nn.toNat).length).toNat < S.wt.toNat
          have h1 := (hg.take hx hR hn1.1).w1
          change 0 ≤ S.wt - (r.d.take nn.toNat).length at h1
          have : 0 < (r.d.take nn.toNat).length := by rw [List.length_take]; have := hok.2.2.2.2.2.2.1; omega
          omega
        have hst : (cut r (S.sn i) nn).st = (i : Int) := hok.1
        have hbg : (cut r (S.sn i) nn).bg = r.bg := rfl
        generalize hcl : (cut r (S.sn i) nn).d.length = xl at hxe
        subst hxe
        generalize cut r (S.sn i) nn = cc at hst hbg
        obtain ⟨cst, csn, cpr, cun, cdd, cbg, cen⟩ := cc
        simp only at hst hbg
        subst hst
        unfold pcv
        obtain ⟨w6, hw6⟩ : ∃ w6, w6 = w5.alloc (.cells #[.int .u16 (i : Int), .int .u16 csn, .int .u32 cpr, .bool cun, .slice xa xl xc, .bool cbg, .bool cen] 44) := ⟨_, rfl⟩
        have hF6 : Fw w w6 t bl bs (takeS S i r rs nn) F5 lf sv := by rw [hw6]; exact hF5'.later ((Below.refl _ w5).alloc (Nat.le_refl _) _)
        have hbx : Has w6 w5.heap.size #[.int .u16 (i : Int), .int .u16 csn, .int .u32 cpr, .bool cun, .slice xa xl xc, .bool cbg, .bool cen] 44 := by rw [hw6]; exact Has.new _ _ _
        have x0 := hbx.cell 0 rfl
        have x5 := hbx.cell 5 rfl
        have HW6 := hidden hw6
        have HF6 := hidden hF6
        have HMS := hidden hms
        have HX := hidden hx
        have HR := hidden hR
        have hwi : IntKind.i64.wrap (i : Int) = (i : Int) := by rw [IntKind.wrap_i64]; omega
        have hni : ¬ ((7 : Int) < (i : Int)) := by omega
        clear hcl hmx hc5 hF5 hm5 hF5' hw6 hF6 hbx hms hok hx hR h8 TK
        cases hb : r.bg with
        | false =>
          rw [hb] at hbg
          subst hbg
          have HG := hidden hg
          clear hg
          go_upto_region 17 with fail
          rw [← HW6.out]
          go_wp2
          go_roundw
          case rel =>
            have hlast : i = S.last := by
              have := (HG.out.hd i r (by have := HJ.out.2.n; omega) (by rw [HR.out]; rfl)).1 hb
              exact this.2.symm
            refine ⟨takeS S i r rs nn, F5, lf, sv, ⟨HF6.out, HJ.out.2.n, fun o ho => ?_, HJ.out.2.u, ?_⟩⟩
            · have := cntB_take HG.out (n := nn) HR.out o
              rw [if_neg (fun h => by rw [hb] at h; exact Bool.noConfusion h.2), Nat.add_zero] at this
              rw [this]
              exact HJ.out.2.c o ho
            · show FairP i lf sv
              rw [hlast]
              exact HJ.out.2.f
          case measure =>
            rw [wtOf_eq HF6.out.cd, wtOf_eq HJ.out.1.cd]
            exact HMS.out
        | true =>
          rw [hb] at hbg
          subst hbg
          have hnb : S.bgn = false := by
            cases hbb : S.bgn with
            | false => rfl
            | true =>
              have h1 := hg.nxt_bgn hbb
              rw [HX.out] at h1
              cases h1
              have := (hg.hd S.last r (by have := HJ.out.2.n; omega) (by rw [HR.out]; rfl)).2 ⟨hbb, rfl⟩
              rw [hb] at this
              cases this
          have HNB := hidden hnb
          have HG := hidden hg
          clear hnb hg
          have hsi := HF6.out.hs.cell i (r8_at _ hi8)
          have hnil := fun w => neq_nil w
          go_upto_region 17 with fail
          rw [← HW6.out]
          go_wp2_with fail
          go_loopw [14] (fun d wx => ∃ (o : Nat), d = .int .i64 (o : Int) ∧ o ≤ 8 ∧ Hid (w6 = wx)) (fun d wx => 8 - (intOf d).toNat)
          case atStart => exact ⟨0, rfl, by omega, rfl⟩
          case round =>
          obtain ⟨o, rfl, ho, HW⟩ := hrel
          have hww := HW.out
          subst hww
          rcases Nat.lt_or_ge o 8 with hol | hog
          · have hlt : (o : Int) < 8 := by omega
            cases hsv : sv i with
            | none =>
              rw [hsv] at hsi
              simp only [sl8] at hsi
              go_wp2_with fail
              go_loopw [15] (fun d wx => ∃ (o : Nat), d = .int .i64 (o : Int) ∧ o ≤ 8 ∧ Hid (Fw w wx t bl bs (takeS S i r rs nn) F5 lf (svK sv i o))) (fun d wx => 8 - (intOf d).toNat)
              case atStart => exact ⟨0, rfl, by omega, by rw [svK_zero]; exact HF6.out⟩
              case round =>
              obtain ⟨o, rfl, ho, HK⟩ := hrel
              rcases Nat.lt_or_ge o 8 with hol | hog
              · have hlt : (o : Int) < 8 := by omega
                have hw3 : IntKind.i64.wrap ((o : Int) + 1) = (o : Int) + 1 := by rw [IntKind.wrap_i64]; omega
                have c1 := HK.out.hs.cell o (r8_at _ hol)
                rw [svK_at] at c1
                cases hso : sv o with
                | none =>
                  rw [hso] at c1
                  simp only [sl8] at c1
                  go_wp2
                  go_roundw
                  case rel => exact ⟨o + 1, by simp, by omega, by rw [svK_none hso]; exact HK.out⟩
                  case measure => simp only [intOf]; omega
                | some pq =>
                  obtain ⟨bq, fq⟩ := pq
                  rw [hso] at c1
                  simp only [sl8] at c1
                  obtain ⟨_, hq⟩ := HK.out.hi o bq fq hol (by rw [svK_at]; exact hso)
                  have c2 := hq.cell i (r8_at _ hi8)
                  have f2 := hq.frozen i
                  clear hq
                  go_wp2
                  go_roundw
                  case rel => exact ⟨o + 1, by simp, by omega, by rw [svK_some hso]; exact HK.out.mark hol hi8 (by rw [svK_at]; exact hso)⟩
                  case measure => simp only [intOf]; omega
              · obtain rfl : o = 8 := by omega
                have h7 := HK.out.later (M5.out.2.1 wr)
                have c1 := h7.hs.cell i (r8_at _ hi8)
                have f1 := h7.hs.frozen i
                have c2 := h7.hl.cell i (r8_at _ hi8)
                have f2 := h7.hl.frozen i
                have hne : bl ≠ bs := fun e => by subst e; exact h7.hl.ne h7.hs (by decide) rfl
                have hne' : bs ≠ bl := fun e => hne e.symm
                have hul := HJ.out.2.u i hi8
                have hcl := HJ.out.2.c i hi8
                have hwl : IntKind.i64.wrap (lf i - 1) = lf i - 1 := by rw [IntKind.wrap_i64]; omega
                have h8 := h7.fresh (s := i) (bn := wr.heap.size) hi8 HK.out.bw.size (M5.out.1 wr) (fun j b f hj hs e => by
                  subst e
                  have := (HK.out.hi j _ f hj hs).2.lt
                  omega)
                have H9 := hidden (h8.setL hi8 (lf i - 1))
                clear h7 h8 hul hcl
                go_wp2
                go_roundw
                case rel =>
                  refine ⟨takeS S i r rs nn, F5, up lf i (lf i - 1), _, ⟨H9.out, HJ.out.2.n, fun o ho => ?_, fun o ho => ?_, ?_⟩⟩
                  · have h1 := cntB_take HG.out (n := nn) HR.out o
                    have h2 := HJ.out.2.c o ho
                    by_cases e : o = i
                    · subst e
                      rw [if_pos ⟨rfl, hb⟩] at h1
                      rw [up_same]
                      omega
                    · rw [if_neg (fun h => e h.1)] at h1
                      rw [up_ne _ _ e]
                      omega
                  · have h2 := HJ.out.2.u o ho
                    by_cases e : o = i
                    · subst e; rw [up_same]; omega
                    · rw [up_ne _ _ e]; exact h2
                  · refine FairP_congr (fun j hj => ?_) (fair_next HJ.out.2.n (by have := HG.out.lt; have := HJ.out.2.n; omega) HNB.out hi8 HX.out HJ.out.2.c HJ.out.2.f wr.heap.size)
                    unfold svN
                    by_cases e : j = i
                    · rw [e, up_same, up_same]
                    · rw [up_ne _ _ e, up_ne _ _ e]
                      unfold svK
                      rw [if_pos hj]
                case measure =>
                  rw [wtOf_eq H9.out.cd, wtOf_eq HJ.out.1.cd]
                  exact HMS.out
            | some pq =>
              obtain ⟨bq, fq⟩ := pq
              rw [hsv] at hsi
              simp only [sl8] at hsi
              have c2 := HF6.out.hl.cell o (r8_at _ hol)
              have c3 := (HF6.out.hi i bq fq hi8 hsv).2.cell o (r8_at _ hol)
              have hw3 : IntKind.i64.wrap ((o : Int) + 1) = (o : Int) + 1 := by rw [IntKind.wrap_i64]; omega
              by_cases hoi : o = i
              · subst hoi
                go_wp2
                go_roundw
                case rel => exact ⟨o + 1, by simp, by omega, by exact trivial⟩
                case measure => simp only [intOf]; omega
              · have hoi' : ¬ ((o : Int) = (i : Int)) := by omega
                by_cases hp : 0 < lf o
                · have hfo : fq o = true := fair_check HJ.out.2.n (by have := HG.out.lt; have := HJ.out.2.n; omega) HNB.out HX.out HJ.out.2.c HJ.out.2.f hi8 hsv hol hoi hp
                  rw [hfo] at c3
                  go_wp2
                  go_roundw
                  case rel => exact ⟨o + 1, by simp, by omega, by exact trivial⟩
                  case measure => simp only [intOf]; omega
                · go_wp2
                  go_roundw
                  case rel => exact ⟨o + 1, by simp, by omega, by exact trivial⟩
                  case measure => simp only [intOf]; omega
          · obtain rfl : o = 8 := by omega
            go_wp2_with fail
            go_loopw [15] (fun d wx => ∃ (o : Nat), d = .int .i64 (o : Int) ∧ o ≤ 8 ∧ Hid (Fw w wx t bl bs (takeS S i r rs nn) F5 lf (svK sv i o))) (fun d wx => 8 - (intOf d).toNat)
            case atStart => exact ⟨0, rfl, by omega, by rw [svK_zero]; exact HF6.out⟩
            case round =>
            obtain ⟨o, rfl, ho, HK⟩ := hrel
            rcases Nat.lt_or_ge o 8 with hol | hog
            · have hlt : (o : Int) < 8 := by omega
              have hw3 : IntKind.i64.wrap ((o : Int) + 1) = (o : Int) + 1 := by rw [IntKind.wrap_i64]; omega
              have c1 := HK.out.hs.cell o (r8_at _ hol)
              rw [svK_at] at c1
              cases hso : sv o with
              | none =>
                rw [hso] at c1
                simp only [sl8] at c1
                go_wp2
                go_roundw
                case rel => exact ⟨o + 1, by simp, by omega, by rw [svK_none hso]; exact HK.out⟩
                case measure => simp only [intOf]; omega
              | some pq =>
                obtain ⟨bq, fq⟩ := pq
                rw [hso] at c1
                simp only [sl8] at c1
                obtain ⟨_, hq⟩ := HK.out.hi o bq fq hol (by rw [svK_at]; exact hso)
                have c2 := hq.cell i (r8_at _ hi8)
                have f2 := hq.frozen i
                clear hq
                go_wp2
                go_roundw
                case rel => exact ⟨o + 1, by simp, by omega, by rw [svK_some hso]; exact HK.out.mark hol hi8 (by rw [svK_at]; exact hso)⟩
                case measure => simp only [intOf]; omega
            · obtain rfl : o = 8 := by omega
              have h7 := HK.out.later (M5.out.2.1 wr)
              have c1 := h7.hs.cell i (r8_at _ hi8)
              have f1 := h7.hs.frozen i
              have c2 := h7.hl.cell i (r8_at _ hi8)
              have f2 := h7.hl.frozen i
              have hne : bl ≠ bs := fun e => by subst e; exact h7.hl.ne h7.hs (by decide) rfl
              have hne' : bs ≠ bl := fun e => hne e.symm
              have hul := HJ.out.2.u i hi8
              have hcl := HJ.out.2.c i hi8
              have hwl : IntKind.i64.wrap (lf i - 1) = lf i - 1 := by rw [IntKind.wrap_i64]; omega
              have h8 := h7.fresh (s := i) (bn := wr.heap.size) hi8 HK.out.bw.size (M5.out.1 wr) (fun j b f hj hs e => by
                subst e
                have := (HK.out.hi j _ f hj hs).2.lt
                omega)
              have H9 := hidden (h8.setL hi8 (lf i - 1))
              clear h7 h8 hul hcl
              go_wp2
              go_roundw
              case rel =>
                refine ⟨takeS S i r rs nn, F5, up lf i (lf i - 1), _, ⟨H9.out, HJ.out.2.n, fun o ho => ?_, fun o ho => ?_, ?_⟩⟩
                · have h1 := cntB_take HG.out (n := nn) HR.out o
                  have h2 := HJ.out.2.c o ho
                  by_cases e : o = i
                  · subst e
                    rw [if_pos ⟨rfl, hb⟩] at h1
                    rw [up_same]
                    omega
                  · rw [if_neg (fun h => e h.1)] at h1
                    rw [up_ne _ _ e]
                    omega
                · have h2 := HJ.out.2.u o ho
                  by_cases e : o = i
                  · subst e; rw [up_same]; omega
                  · rw [up_ne _ _ e]; exact h2
                · refine FairP_congr (fun j hj => ?_) (fair_next HJ.out.2.n (by have := HG.out.lt; have := HJ.out.2.n; omega) HNB.out hi8 HX.out HJ.out.2.c HJ.out.2.f wr.heap.size)
                  unfold svN
                  by_cases e : j = i
                  · rw [e, up_same, up_same]
                  · rw [up_ne _ _ e, up_ne _ _ e]
                    unfold svK
                    rw [if_pos hj]
              case measure =>
                rw [wtOf_eq H9.out.cd, wtOf_eq HJ.out.1.cd]
                exact HMS.out

theorem contract (H : Type) (enc : TypeId × Value → H) (W : World) (base : Nat) (args : Array Value) (ds gs : List (DataW H)) (before : List MemPlace)
    (hval : ∀ (j : Nat) t v, Try.f5.params[j]? = some t → args[j]? = some v → Value.okWide Try.prog W .any base t v)
    (hW : DataW.Whole enc Try.prog Try.f5.params.toList Rows.streamsFairSpec.vars false W args.toList ds gs before)
    (hsz0 : (DataW.weightsEach Try.prog (Try.f5.params.toList ++ Rows.streamsFairSpec.plain.varTypes Try.prog) (ds ++ gs)).all (· ≤ reachBytes) = true) :
    Calls Try.prog 5 args W fun e W' => ∃ v, e = .returned v ∧ Rows.streamsFairSpec.post enc Try.prog Try.f5 false true false false W args v W' := by
  have hW' := hW
  obtain ⟨p, q, hA0, hV, rfl, hfz, hnd⟩ := hW
  have hA : DataW.TrodAll enc Try.prog W 0 (fun _ => true) true Try.f5.params.toList args.toList ds p := hA0
  have hsz := hsz0
  rw [Try.params5] at hA hval hsz
  obtain ⟨v0, vs0, d0, ds0, p0, q0, hargs, rfl, rfl, h0, r0⟩ := trodAll_cons hA
  obtain ⟨v1, vs1, d1, ds1, p1, q1, rfl, rfl, rfl, h1, r1⟩ := trodAll_cons r0
  obtain ⟨rfl, rfl, rfl⟩ := trodAll_nil r1
  obtain rfl : args = #[v0, v1] := by cases args; simp_all
  obtain ⟨rfl, rfl⟩ := trodVars_none hV
  obtain ⟨a0, len0, cap0, rfl⟩ := okWide_slice Try.underlying34 (hval 0 34 v0 rfl rfl)
  have k0 := h0
  have lt0 : ∀ x ∈ p0, x.block < W.heap.size := by obtain ⟨m, hm⟩ := k0; exact DataW.trod_lt m _ _ _ hm
  have sz0 : (d0.weights Try.prog 34).all (· ≤ reachBytes) = true := List.all_eq_true.2 fun m hm => List.all_eq_true.1 hsz m (DataW.weights_mem_each (j := 0) rfl rfl m hm)
  obtain ⟨z0, w0, s0⟩ : ∃ z0, Sq.Row W a0 len0 z0 ∧ len0 ≤ cap0 ∧ cap0 ≤ 140737488351232 ∧ (a0 = none → len0 = 0 ∧ cap0 = 0) := by
    obtain ⟨fuel, hf⟩ := h0
    exact Sq.row_arg hf sz0
  obtain ⟨a1, rfl, rfl, rfl, w1⟩ := open_int Try.underlying5 (hval 1 5 v1 rfl rfl) h1
  clear hA0 hsz0 hsz
  refine (walk a0 len0 cap0 z0 a1 W w0 s0 w1).mono fun e W' ⟨he, bel⟩ => ?_
  subst he
  exact ⟨_, rfl, _, _, _, [], _, [], hW', trodAll_mk1 (shut_bool Try.underlying4 _), (trodAll_cons_mk (Below.trod laidOut (by kernel_rfl) (of_decide_eq_true (by kernel_rfl)) k0 bel lt0) (trodAll_cons_mk (shut_int Try.underlying5 w1) trodAll_mk0)), rfl, bel.frame _, fun h => by cases h⟩

noncomputable def laidWorld (os : Os) : World :=
  World.holding Try.prog os ⟨#[], #[], []⟩
theorem laid_met (os : Os) : laidMet Try.prog Rows.streamsFairRow.laid ((laidWorld os).forCall (fun _ _ => 0) ⟨#[], #[.slice none 0 0, .int .u8 0], []⟩).memory :=
  laidMet_of_run' 8 (by kernel_rfl) (by kernel_rfl)
theorem reads (os : Os) {H : Type} (enc : TypeId × Value → H) : ∃ places, DataW.whole enc Try.prog ((laidWorld os).forCall (fun _ _ => 0) ⟨#[], #[.slice none 0 0, .int .u8 0], []⟩).memory Try.f5.params.toList Rows.streamsFairSpec.vars false #[Value.slice none 0 0, Value.int .u8 0].toList 8 = some ([.nil, .lit (.int .u8 0)], [], places) :=
  ⟨[], by kernel_rfl⟩

set_option maxRecDepth 100000 in
theorem lifted (os : Os) (started : os.Started) (H : Type) (enc : TypeId × Value → H) (F : Stop.Interp) :
    ReturnsInHanded {} Try.checked os 5 .any ((OpenSpec.ofChange Rows.streamsFairSpec).preRow enc Try.prog Try.f5 Rows.streamsFairRow.domain false Rows.streamsFairRow.laid) (((OpenSpec.ofChange Rows.streamsFairSpec).at F).post enc Try.prog Try.f5 false true false false) := by
  obtain ⟨places, hx⟩ := reads os enc
  refine returnsInHanded_of_row (C := Try.checked) (s := OpenSpec.ofChange Rows.streamsFairSpec) own started (by kernel_rfl) Try.func5
    (witness_row_at (enc := enc) (C := Try.checked) false (laidWorld os) #[.slice none 0 0, .int .u8 0] rfl (by kernel_rfl) (by kernel_rfl) (by kernel_rfl)
      (OpenSpec.preRow_of_cond 8 hx (by kernel_rfl) (fun k hk => by cases hk) (by kernel_rfl) (laid_met os))) ?_
  intro W base args ds gs before hval hW _ hcond hsz hL _ _
  exact contract H enc W base args ds gs before hval hW hsz

theorem said : Rows.StreamsFairSaid :=
  OpenClaim.holds_of_cond 5 Try.f5 rfl rfl rfl rfl rfl rfl rfl ⟨rfl, rfl, rfl, rfl, rfl⟩ rfl rfl rfl rfl rfl (by kernel_rfl) Try.func5 (by kernel_rfl)
    (of_decide_eq_true (by kernel_rfl)) (by unfold Func.isWrapper; first | (rw [if_pos (by decide +kernel)]; kernel_rfl) | (rw [if_neg (by decide +kernel)]; exact ⟨rfl, rfl⟩))
    (fun os started H enc _ F => by rw [OpenClaim.pre_eq_preRow]; exact lifted os started H enc F)

/-- THE STATEMENT -/
theorem proved : Rows.StreamsFairSaid := said
#print axioms proved
end Go.Proofs.Ytfgoamfoddkafaa.streamsFair
