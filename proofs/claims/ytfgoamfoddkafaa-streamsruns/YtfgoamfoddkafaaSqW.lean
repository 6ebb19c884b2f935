/-
  A piece is taken off the document's queue.
  Conditions: the queue lies in memory.
-/
import Derived.Test.YtfgoamfoddkafaaSqV
import Derived.Deep.CutRange
namespace Go.Proofs.Ytfgoamfoddkafaa.Sq
open Go.ChangeShapes Go.WideShapes Go.ChangeAt Go.RowKit
open Ba (hidden Has Only cell_lt heap_lt)
set_option linter.unusedVariables false
section
variable {base : Nat} {w w' : World} {r bs : Nat} {vL : Value} {S : St} {Q : List Ent} {rl n : Int}
theorem Rr.congr {S' : St} (h : Rr base w r bs vL S Q rl) (h1 : S'.n = S.n) (h2 : S'.lim = S.lim) (h3 : S'.tk = S.tk) (h4 : S'.sn = S.sn) : Rr base w r bs vL S' Q rl := by
  obtain ⟨a1, a2, a3, a4, a5, a6⟩ := h
  refine ⟨by rw [h1, h2, h3]; exact a1, by rw [h1, h4]; exact a2, a3, a4, a5, a6⟩
set_option maxRecDepth 20000 in
theorem rtake_none (h : Ro base w r bs vL S Q rl) (hn : n < 1 ∨ nxt S = none) : Calls Try.prog 22 #[.pointer (some ⟨r, 0, none⟩), .int .i64 n] w fun e w' => e = .returned (.tuple #[zPv, .bool false]) ∧ Below w.heap.size w w' := by
  obtain ⟨W0, hW0⟩ : ∃ W0, W0 = w.alloc (.cells #[.int .u16 0, .int .u16 0, .int .u32 0, .bool false, .slice none 0 0, .bool false, .bool false] 44) := ⟨_, rfl⟩
  have hB0 : Below w.heap.size w W0 := by rw [hW0]; exact (Below.refl _ w).alloc (Nat.le_refl _) _
  have hz0 : Has W0 w.heap.size zP 44 := by rw [hW0]; exact Has.new w _ _
  have NX := hidden (rplace (h.later hB0))
  have HW0 := hidden hW0
  have HB0 := hidden hB0
  have HZ0 := hidden hz0
  have HN := hidden hn
  clear h hW0 hB0 hz0 hn
  go_enter Try.func22, Try.ntmps22
  go_wp2_with fail
  rw [← HW0.out]
  refine Calls.mono NX.out ?_
  rintro e W1 ⟨p, rfl, hp, hB1⟩
  have h4 := HZ0.out.later hB1
  have HZ1 := hidden h4
  have HB1 := hidden (HB0.out.trans (hB1.mono HB0.out.size))
  have l0 := h4.cell 0 rfl
  have t0 := h4.frozen 0
  have l1 := h4.cell 1 rfl
  have t1 := h4.frozen 1
  have l2 := h4.cell 2 rfl
  have t2 := h4.frozen 2
  have l3 := h4.cell 3 rfl
  have t3 := h4.frozen 3
  have l4 := h4.cell 4 rfl
  have t4 := h4.frozen 4
  have l5 := h4.cell 5 rfl
  have t5 := h4.frozen 5
  have l6 := h4.cell 6 rfl
  have t6 := h4.frozen 6
  simp only [zP] at l0 l1 l2 l3 l4 l5 l6
  clear h4 hB1
  rcases hp with ⟨hx, rfl⟩ | ⟨i, A, e, B, hx, hQ, hA, he, rfl⟩
  · go_wp2
    obtain ⟨s1, s2⟩ := seven HZ1.out (.int .u16 0) (.int .u16 0) (.int .u32 0) (.bool false) (.slice none 0 0) (.bool false) (.bool false)
    refine bodyPost_ret (results_row_tmp rfl _ _ w.heap.size _ _ rfl s1 Try.underlying44 rfl (by kernel_rfl)) rfl ⟨rfl, ?_⟩
    exact HB1.out.trans (s2.below (Nat.le_trans (Nat.le_refl _) HB1.out.size) (fun k hk => Nat.le_of_eq hk.symm))
  · have hn1 : n < 1 := HN.out.resolve_right (by rw [hx]; simp)
    obtain ⟨al, hal⟩ : ∃ al, al = A.length := ⟨_, rfl⟩
    rw [← hal]
    have hge : ¬ ((al : Int) < 0) := by omega
    clear hal hQ hA he hx
    go_wp2
    obtain ⟨s1, s2⟩ := seven HZ1.out (.int .u16 0) (.int .u16 0) (.int .u32 0) (.bool false) (.slice none 0 0) (.bool false) (.bool false)
    refine bodyPost_ret (results_row_tmp rfl _ _ w.heap.size _ _ rfl s1 Try.underlying44 rfl (by kernel_rfl)) rfl ⟨rfl, ?_⟩
    exact HB1.out.trans (s2.below (Nat.le_trans (Nat.le_refl _) HB1.out.size) (fun k hk => Nat.le_of_eq hk.symm))
/-- behind a take of the document's -/
def RtO (base : Nat) (w : World) (r : Nat) (S : St) (i : Nat) (rr : Rest) (rs : List Rest) (n : Int) (e : Ending) (w' : World) : Prop :=
  ∃ x, e = .returned (.tuple #[pcv (cut rr (S.sn i) n) x, .bool true]) ∧ Mine w.heap.size w' x (cut rr (S.sn i) n).d ∧ Rf base w' r (takeS S i rr rs n) ∧ Mod (Gr base w) w w'
theorem rtake_end {x9 x10 : World} {wB i pb : Nat} {S2 : St} {rr : Rest} {rs : List Rest} {vLf xv : Value} {Qf : List Ent} {rlf : Int} {box : Array Value} {dd : List Int} (T : Tt base w x9 r bs vLf S2 Qf rlf pb box) (hs : Mod (fun k => k = w.heap.size) x9 x10) (hm : Mine wB x9 xv dd) (hB : w.heap.size ≤ wB) (hd : dd = (cut rr (S.sn i) n).d)
    (hrel : Rel (takeS S i rr rs n) Qf rlf) (hg : Good (takeS S i rr rs n)) (h1 : (takeS S i rr rs n).n = S2.n) (h2 : (takeS S i rr rs n).lim = S2.lim) (h3 : (takeS S i rr rs n).tk = S2.tk) (h4 : (takeS S i rr rs n).sn = S2.sn) :
    Mine w.heap.size x10 xv (cut rr (S.sn i) n).d ∧ Rf base x10 r (takeS S i rr rs n) ∧ Mod (Gr base w) w x10 := by
  refine ⟨?_, ⟨bs, vLf, Qf, rlf, ((T.rr.stay hs (fun k cs ty hh ht e => ?_)).congr h1 h2 h3 h4).ro hrel hg⟩, T.md.trans hs (fun k hk => .inr (Nat.le_of_eq hk.symm))⟩
  · rw [← hd]
    refine (hm.stay hs (fun k hk e => ?_)).le hB
    obtain ⟨cu, hcu, _⟩ := hm.obj hk
    subst e
    exact hcu.ne T.b0 (by decide) rfl
  · subst e
    have := has_type hh T.b0
    rcases ht with e | e | e | e <;> rw [this] at e <;> exact absurd e (by decide)
set_option maxRecDepth 200000 in
set_option maxHeartbeats 4000000 in
theorem rtake_some (h : Ro base w r bs vL S Q rl) (hbase : base ≤ w.heap.size) {i : Nat} {rr : Rest} {rs : List Rest} (hx : nxt S = some i) (hR : S.R i = rr :: rs) (hn : 1 ≤ n) : Calls Try.prog 22 #[.pointer (some ⟨r, 0, none⟩), .int .i64 n] w fun e w' => RtO base w r S i rr rs n e w' := by
  obtain ⟨W0, hW0⟩ : ∃ W0, W0 = w.alloc (.cells #[.int .u16 0, .int .u16 0, .int .u32 0, .bool false, .slice none 0 0, .bool false, .bool false] 44) := ⟨_, rfl⟩
  have hB0 : Below w.heap.size w W0 := by rw [hW0]; exact (Below.refl _ w).alloc (Nat.le_refl _) _
  have hz0 : Has W0 w.heap.size zP 44 := by rw [hW0]; exact Has.new w _ _
  have NX := hidden (rplace (h.later hB0))
  have HW0 := hidden hW0
  have HB0 := hidden hB0
  have HZ0 := hidden hz0
  have H := hidden h
  have HX := hidden hx
  have HRR := hidden hR
  have HBS := hidden hbase
  clear h hW0 hB0 hz0 hx hR hbase
  go_enter Try.func22, Try.ntmps22
  go_wp2_with fail
  rw [← HW0.out]
  refine Calls.mono NX.out ?_
  rintro e0 W1 ⟨p, rfl, hp, hB1⟩
  rcases hp with ⟨hx, rfl⟩ | ⟨i', A, e, B, hx, hQ, hA, he, rfl⟩
  · rw [HX.out] at hx; cases hx
  obtain rfl : i' = i := by rw [HX.out] at hx; cases hx; rfl
  subst hQ
  have hin := (nxt_some H.out.gd.n1 hx).1
  have hB01 := HB0.out.trans (hB1.mono HB0.out.size)
  have h1 := H.out.later hB01
  have hz1 := HZ0.out.later hB1
  have hat : (A ++ e :: B)[A.length]? = some e := by rw [List.getElem?_append_right (Nat.le_refl _)]; simp
  obtain ⟨g, cap, cur, hvL, hh, hgb, hec⟩ := h1.at hat
  obtain ⟨dg, doff, dc, hdv, hdl⟩ := (h1.by_ e (by simp)).slice
  have hbye := h1.by_ e (by simp)
  have hok := H.out.rel.k e (by simp)
  have hst : e.st = (i' : Int) := isE_st he
  obtain ⟨al, hal⟩ : ∃ al, al = A.length := ⟨_, rfl⟩
  obtain ⟨L, hL⟩ : ∃ L, L = (A ++ e :: B).length := ⟨_, rfl⟩
  obtain ⟨dl, hdl0⟩ : ∃ dl, dl = e.d.length := ⟨_, rfl⟩
  obtain ⟨an, han⟩ : ∃ an, an = e.at_ := ⟨_, rfl⟩
  rw [← hL] at hvL
  rw [← hdl0] at hdv hdl
  subst hvL
  have hall : al < L := by rw [hal, hL]; simp
  have hlt : (al : Int) < (L : Int) := by omega
  have hge : ¬ ((al : Int) < 0) := by omega
  have hn1 : ¬ n < 1 := by omega
  rw [← hal] at hat hec ⊢
  have q2 := h1.q.cell 2 rfl
  have e0' := hh.cell (al * 6) (hec 0 _ rfl)
  have e1 := hh.cell (al * 6 + 1) (hec 1 _ rfl)
  have e2 := hh.cell (al * 6 + 2) (hec 2 _ rfl)
  have e3 := hh.cell (al * 6 + 3) (hec 3 _ rfl)
  have e4 := hh.cell (al * 6 + 4) (hec 4 _ rfl)
  have e5 := hh.cell (al * 6 + 5) (hec 5 _ rfl)
  rw [hst] at e0'
  rw [hdv] at e4
  rw [← han] at e5
  have hrlt := h1.q.lt
  have hglt := hh.lt
  have hanl : an < dl := by rw [han, hdl0]; exact hok.a
  obtain ⟨bg, hbg⟩ : ∃ bg, ((an : Int) == 0) = bg := ⟨_, rfl⟩
  have hwst : IntKind.i64.wrap (i' : Int) = (i' : Int) := by rw [IntKind.wrap_i64]; have := H.out.gd.n2; omega
  obtain ⟨W2, hW2⟩ : ∃ W2, W2 = W1.alloc (.cells #[.int .u16 (i' : Int), .int .u16 e.sn, .int .u32 e.pr, .bool e.un, .slice (some ⟨dg, doff, none⟩) dl dc, .bool bg, .bool false] 44) := ⟨_, rfl⟩
  have hB2 : Below W1.heap.size W1 W2 := by rw [hW2]; exact (Below.refl _ W1).alloc (Nat.le_refl _) _
  have T2 : Hid (Tt base w W2 r bs (.slice (some ⟨g, 0, none⟩) L cap) S (A ++ e :: B) rl W1.heap.size #[.int .u16 (i' : Int), .int .u16 e.sn, .int .u32 e.pr, .bool e.un, .slice (some ⟨dg, doff, none⟩) dl dc, .bool bg, .bool false]) :=
    ⟨(h1.later hB2).raw, Mod.of_below (hB01.trans (hB2.mono hB01.size)), hz1.later hB2, by rw [hW2]; exact Has.new _ _ _, hz1.lt⟩
  have HW2 := hidden hW2
  have HAL := hidden (And.intro hal (And.intro hL (And.intro hdl0 (And.intro han hdv))))
  have HE := hidden (And.intro hst (And.intro hA he))
  have HOK := hidden hok
  have HIN := hidden hin
  have HBYE := hidden hbye
  have HDL := hidden hdl
  obtain ⟨pb, hpb⟩ : ∃ pb, pb = W1.heap.size := ⟨_, rfl⟩
  have hsB : base ≤ W1.heap.size := Nat.le_trans HBS.out hB01.size
  clear hx hA he hB01 h1 hz1 hat hh hgb hec hbye hok hst hal hL hdl0 han hdv hdl hW2 hB2 hB1 hin
  rw [hpb.symm] at T2
  have HPB := hidden hpb
  -- the message's number, and the stream's next one
  obtain ⟨s1, hs1⟩ : ∃ s1, s1 = nsn (rst e) (S.sn i') := ⟨_, rfl⟩
  obtain ⟨s2, hs2⟩ : ∃ s2, s2 = nx1 (rst e) (S.sn i') := ⟨_, rfl⟩
  have HS := hidden (And.intro hs1 hs2)
  have hbgd : bg = decide (e.at_ = 0) := by
    have h1 := HAL.out.2.2.2.1
    rw [← hbg, ← h1]
    by_cases h0 : an = 0
    · subst h0; rfl
    · rw [decide_eq_false h0]; simp; omega
  have HBG := hidden hbgd
  clear hs1 hs2 hbgd hpb
  go_upto_if 46 with fail
  rw [← HW2.out, ← HPB.out]
  go_cut [] from 12 (fun wx => Hid (Tt base w wx r bs (.slice (some ⟨g, 0, none⟩) L cap) ⟨S.n, S.lim, S.last, S.bgn, S.R, up S.sn i' s2, S.wt, S.tk⟩ (A ++ ⟨e.st, s1, e.pr, e.un, e.d, e.at_, e.v⟩ :: B) (if e.at_ = 0 then (i' : Int) else rl) pb #[.int .u16 (i' : Int), .int .u16 e.sn, .int .u32 e.pr, .bool e.un, .slice (some ⟨dg, doff, none⟩) dl dc, .bool bg, .bool false]))
  case first =>
    cases bg with
    | false =>
      have h0 : ¬ e.at_ = 0 := of_decide_eq_false HBG.out.symm
      go_wp2_with fail
      go_meet
      case rel =>
        rw [if_neg h0]
        have hb : (rst e).bg = false := HBG.out.symm
        have e1 : s1 = e.sn := by rw [HS.out.1]; unfold nsn; rw [hb]; rfl
        have e2 : s2 = S.sn i' := by rw [HS.out.2]; unfold nx1; rw [hb]; rfl
        rw [e1, e2, up_self]
        exact T2.out
    | true =>
      have h0 : e.at_ = 0 := of_decide_eq_true HBG.out.symm
      have q4 := T2.out.rr.q.cell 4 rfl
      have f4 := T2.out.rr.q.frozen 4
      have b3 := T2.out.b1.cell 3 rfl
      have hne : r ≠ pb := fun e => by
        subst e
        exact T2.out.rr.q.ne T2.out.b1 (by decide) rfl
      have hne' : pb ≠ r := fun e => hne e.symm
      have T3 := hidden (T2.out.last i')
      cases hu : e.un with
      | true =>
        rw [hu] at b3
        go_wp2_with fail
        go_meet
        case rel =>
          rw [if_pos h0]
          have hu' : (rst e).un = true := hu
          have e1 : s1 = e.sn := by rw [HS.out.1]; unfold nsn; rw [hu']; simp; rfl
          have e2 : s2 = S.sn i' := by rw [HS.out.2]; unfold nx1; rw [hu']; simp
          rw [e1, e2, up_self]
          have := T3.out
          rw [hu] at this
          exact hu ▸ this
      | false =>
        rw [hu] at b3
        go_upto_region 11 with fail
        obtain ⟨X3, hX3⟩ : ∃ X3, X3 = W2.setCell ⟨r, 4, none⟩ (.int .i64 (i' : Int)) := ⟨_, rfl⟩
        rw [← hX3] at T3 ⊢
        clear q4 f4 b3 hX3
        obtain ⟨cs3, hcs3, hsn3⟩ := T3.out.rr.hs
        obtain ⟨cur3, hcur3, hen3⟩ := T3.out.at
        rw [← HAL.out.1] at hen3
        have q2 := T3.out.rr.q.cell 2 rfl
        have q3 := T3.out.rr.q.cell 3 rfl
        have n1 := hcs3.cell i' (hsn3 i' HIN.out)
        have y1 := hcur3.cell (al * 6 + 1) (hen3 1 _ rfl)
        have z1 := hcur3.frozen (al * 6 + 1)
        have hin := HIN.out
        have hsb := H.out.gd.sn i'
        clear hcs3 hsn3 hcur3 hen3
        generalize hsq : S.sn i' = sq at *
        go_region
        go_upto_region 12 with fail
        have hb : (rst e).bg = true := HBG.out.symm
        have hu' : (rst e).un = false := hu
        have hs1 : s1 = sq := by rw [HS.out.1]; unfold nsn; rw [hb, hu']; rfl
        have hs2 : s2 = (sq + 1) % 65536 := by rw [HS.out.2]; unfold nx1; rw [hb, hu']; rfl
        have T4 : Hid (Tt base w (X3.setCell ⟨g, al * 6 + 1, none⟩ (.int .u16 sq)).drew r bs (.slice (some ⟨g, 0, none⟩) L cap) S (A ++ ⟨e.st, s1, e.pr, e.un, e.d, e.at_, e.v⟩ :: B) (i' : Int) pb #[.int .u16 (i' : Int), .int .u16 e.sn, .int .u32 e.pr, .bool e.un, .slice (some ⟨dg, doff, none⟩) dl dc, .bool true, .bool false]) := by
          have := T3.out.ent (c := 1) (u := .int .u16 sq) (e' := ⟨e.st, s1, e.pr, e.un, e.d, e.at_, e.v⟩) (by decide) (by rw [hs1]; rfl) rfl rfl
          rw [← HAL.out.1] at this
          exact this.later ⟨rfl, rfl, rfl, Nat.le_refl _, fun _ _ => rfl⟩
        obtain ⟨X4, hX4⟩ : ∃ X4, X4 = (X3.setCell ⟨g, al * 6 + 1, none⟩ (.int .u16 sq)).drew := ⟨_, rfl⟩
        rw [← hX4] at T4 ⊢
        have hwq : IntKind.u16.wrap (sq + 1) = s2 := by rw [hs2]; rfl
        have HSQ := hidden hsq
        clear q2 q3 n1 y1 z1 hX4 hs1 hs2 hb hu' hsq T3
        obtain ⟨cs4, hcs4, hsn4⟩ := T4.out.rr.hs
        have q3 := T4.out.rr.q.cell 3 rfl
        have n1 := hcs4.cell i' (hsn4 i' HIN.out)
        rw [HSQ.out] at n1
        have n2 := hcs4.frozen i'
        clear hcs4 hsn4
        go_region
        go_wp2_with fail
        go_meet
        case rel =>
          rw [if_pos h0]
          exact (T4.out.sn HIN.out s2 rfl).later ⟨rfl, rfl, rfl, Nat.le_refl _, fun _ _ => rfl⟩
  case rest =>
  clear q2 e0' e1 e2 e3 e4 e5 T2
  obtain ⟨S1, hS1⟩ : ∃ S1 : St, S1 = ⟨S.n, S.lim, S.last, S.bgn, S.R, up S.sn i' s2, S.wt, S.tk⟩ := ⟨_, rfl⟩
  obtain ⟨rl1, hrl1⟩ : ∃ rl1, rl1 = (if e.at_ = 0 then (i' : Int) else rl) := ⟨_, rfl⟩
  rw [← hS1, ← hrl1] at hcut
  have T0 := hcut
  have HS1 := hidden (And.intro hS1 hrl1)
  clear hcut hS1 hrl1
  have hdc : dl ≤ dc ∧ dl ≤ 65536 := by
    obtain ⟨_, _, c', _, hev, _, _, hle, _, _, hm, _⟩ := HBYE.out
    rw [HAL.out.2.2.2.2] at hev
    have h3 := HAL.out.2.2.1
    cases hev
    omega
  obtain ⟨zn, hzn⟩ : ∃ zn, zn = min n.toNat (dl - an) := ⟨_, rfl⟩
  have hz1 : 1 ≤ zn ∧ an + zn ≤ dl := by omega
  have hmin : min n ((dl : Int) - (an : Int)) = (zn : Int) := by omega
  have hwd : IntKind.i64.wrap ((dl : Int) - (an : Int)) = (dl : Int) - (an : Int) := by rw [IntKind.wrap_i64]; omega
  have hwz : IntKind.i64.wrap ((an : Int) + (zn : Int)) = (an : Int) + (zn : Int) := by rw [IntKind.wrap_i64]; omega
  have HZN := hidden hzn
  have hz2 := hz1.1
  have hz3 := hz1.2
  have hdc1 := hdc.1
  have hdc2 := hdc.2
  clear hzn hz1 hdc
  obtain ⟨cur0, hcur0, hen0⟩ := T0.out.at
  rw [← HAL.out.1] at hen0
  have q2 := T0.out.rr.q.cell 2 rfl
  have y1 := hcur0.cell (al * 6 + 1) (hen0 1 _ rfl)
  have y4 := hcur0.cell (al * 6 + 4) (hen0 4 _ rfl)
  simp only at y1 y4
  rw [HAL.out.2.2.2.2] at y4
  have b1 := T0.out.b1.cell 1 rfl
  have k1 := T0.out.b1.frozen 1
  clear hcur0 hen0
  have T1 := hidden (T0.out.box 1 (.int .u16 s1))
  go_upto_region 14 with fail
  obtain ⟨x1, hx1⟩ : ∃ x1, x1 = wc.setCell ⟨pb, 1, none⟩ (.int .u16 s1) := ⟨_, rfl⟩
  rw [← hx1]
  rw [← hx1] at T1
  simp only [List.setIfInBounds_toArray, List.set_cons_succ, List.set_cons_zero] at T1
  clear q2 y1 y4 b1 k1 hx1 T0
  obtain ⟨cur1, hcur1, hen1⟩ := T1.out.at
  rw [← HAL.out.1] at hen1
  have q2 := T1.out.rr.q.cell 2 rfl
  have y4 := hcur1.cell (al * 6 + 4) (hen1 4 _ rfl)
  simp only at y4
  rw [HAL.out.2.2.2.2] at y4
  have hgl := hcur1.lt
  have hrl := T1.out.rr.q.lt
  have hpl := T1.out.b1.lt
  clear hcur1 hen1
  have hbyx := T1.out.rr.by_ ⟨e.st, s1, e.pr, e.un, e.d, e.at_, e.v⟩ (by simp)
  simp only at hbyx
  rw [HAL.out.2.2.2.2, HAL.out.2.2.1] at hbyx
  have hdrop := hbyx.drop an (by have := HAL.out.2.2.1; omega)
  obtain ⟨_, _, _, hev, _, _, _, _, hrow⟩ := hdrop.row
  simp only [Value.slice.injEq, Option.some.injEq, Addr.mk.injEq, and_true] at hev
  obtain ⟨⟨rfl, rfl⟩, _, rfl⟩ := hev
  have HX10 : Hid (w.heap.size ≤ x1.heap.size) := T1.out.md.size
  have hpart := hrow.take zn (by rw [List.length_drop]; have := HAL.out.2.2.1; omega)
  have hpl2 : ((e.d.drop an).take zn).length = zn := hpart.1
  obtain ⟨gx, vx, w4, hr4, hm4, hB4, hg4, hg5⟩ := own_copy (cap := dc - an) hpart (fun h => by cases h)
  have T4 := hidden (T1.out.later hB4)
  have o4 := T4.out.b1.cell 4 rfl
  have p4 := T4.out.b1.frozen 4
  have HR4 : Hid ((Builtin.append_ #[34, 34] 34 #[.slice (some ⟨x1.heap.size, 0, none⟩) 0 0, .slice (some ⟨dg, doff + an, none⟩) (an + zn - an) (dc - an)]).run Try.prog (x1.alloc (.cells #[] 5)) = .ok (.slice (some ⟨gx, 0, none⟩) zn vx) w4) := by
    show _ = _
    rw [show an + zn - an = zn by omega]
    exact hr4
  have HM4 := hidden hm4
  have hnc : ¬ dc = an := by omega
  clear hbyx hdrop hrow hpart hr4 hm4 hB4 hg4 hg5
  go_upto_region 15 with fail
  go_upto_region 16 with (at_builtin; refine Rg.wpList_app rfl _ _ _ rfl rfl rfl HR4.out ?_; clear HR4)
  have T5 := hidden (T4.out.box 4 (.slice (some ⟨gx, 0, none⟩) zn vx))
  have HM5 : Hid (Mine x1.heap.size (w4.setCell ⟨pb, 4, none⟩ (.slice (some ⟨gx, 0, none⟩) zn vx)) (.slice (some ⟨gx, 0, none⟩) zn vx) ((e.d.drop an).take zn)) :=
    HM4.out.stay (Mod.setCell (F := fun k => k = pb) w4 (p := ⟨pb, 4, none⟩) rfl _) (fun k hk he => by
      obtain ⟨cu, hcu, _⟩ := HM4.out.obj hk
      subst he
      exact hcu.ne T4.out.b1 (by decide) rfl)
  obtain ⟨x5, hx5⟩ : ∃ x5, x5 = w4.setCell ⟨pb, 4, none⟩ (.slice (some ⟨gx, 0, none⟩) zn vx) := ⟨_, rfl⟩
  rw [← hx5] at T5 HM5 ⊢
  simp only [List.setIfInBounds_toArray, List.set_cons_succ, List.set_cons_zero] at T5
  clear q2 y4 o4 p4 hx5 HM4 T4 T1 hgl hrl hpl
  -- region 16
  obtain ⟨en, hen⟩ : ∃ en, en = decide ((((e.d.length - e.at_ : Nat) : Int)) ≤ n) := ⟨_, rfl⟩
  have hen2 : ((an : Int) + (zn : Int) == (dl : Int)) = en := by
    rw [hen, ← HAL.out.2.2.1, ← HAL.out.2.2.2.1]
    have hz := HZN.out
    by_cases hle : (((dl - an : Nat) : Int)) ≤ n
    · rw [decide_eq_true hle]; simp; omega
    · rw [decide_eq_false hle]; simp; omega
  have HEN := hidden hen
  clear hen
  obtain ⟨cur5, hcur5, hen5⟩ := T5.out.at
  rw [← HAL.out.1] at hen5
  have q2 := T5.out.rr.q.cell 2 rfl
  have y4 := hcur5.cell (al * 6 + 4) (hen5 4 _ rfl)
  simp only at y4
  rw [HAL.out.2.2.2.2] at y4
  have o6 := T5.out.b1.cell 6 rfl
  have p6 := T5.out.b1.frozen 6
  clear hcur5 hen5
  have T6 := hidden (T5.out.box 6 (.bool en))
  have HM6 : Hid (Mine x1.heap.size (x5.setCell ⟨pb, 6, none⟩ (.bool en)) (.slice (some ⟨gx, 0, none⟩) zn vx) ((e.d.drop an).take zn)) :=
    HM5.out.stay (Mod.setCell (F := fun k => k = pb) x5 (p := ⟨pb, 6, none⟩) rfl _) (fun k hk he => by
      obtain ⟨cu, hcu, _⟩ := HM5.out.obj hk
      subst he
      exact hcu.ne T5.out.b1 (by decide) rfl)
  go_upto_region 17 with fail
  obtain ⟨x6, hx6⟩ : ∃ x6, x6 = x5.setCell ⟨pb, 6, none⟩ (.bool en) := ⟨_, rfl⟩
  rw [← hx6] at T6 HM6 ⊢
  simp only [List.setIfInBounds_toArray, List.set_cons_succ, List.set_cons_zero] at T6
  clear q2 y4 o6 p6 hx6 T5 HM5
  -- region 17
  obtain ⟨cur6, hcur6, hen6⟩ := T6.out.at
  rw [← HAL.out.1] at hen6
  have q2 := T6.out.rr.q.cell 2 rfl
  have y5 := hcur6.cell (al * 6 + 5) (hen6 5 _ rfl)
  have z5 := hcur6.frozen (al * 6 + 5)
  have T7 : Hid (Tt base w (x6.setCell ⟨g, al * 6 + 5, none⟩ (.int .i64 ((an : Int) + (zn : Int)))) r bs (.slice (some ⟨g, 0, none⟩) L cap) S1 (A ++ ⟨e.st, s1, e.pr, e.un, e.d, an + zn, e.v⟩ :: B) rl1 pb #[.int .u16 (i' : Int), .int .u16 s1, .int .u32 e.pr, .bool e.un, .slice (some ⟨gx, 0, none⟩) zn vx, .bool bg, .bool en]) := by
    have := T6.out.ent (c := 5) (u := .int .i64 ((an : Int) + (zn : Int))) (e' := ⟨e.st, s1, e.pr, e.un, e.d, an + zn, e.v⟩) (by decide) (by show [_, _, _, _, _, _] = [_, _, _, _, _, Value.int .i64 ((an + zn : Nat) : Int)]; rw [Int.natCast_add]) rfl rfl
    rw [← HAL.out.1] at this
    exact this
  have HM7 : Hid (Mine x1.heap.size (x6.setCell ⟨g, al * 6 + 5, none⟩ (.int .i64 ((an : Int) + (zn : Int)))) (.slice (some ⟨gx, 0, none⟩) zn vx) ((e.d.drop an).take zn)) :=
    HM6.out.stay (Mod.setCell (F := fun k => k = g) x6 (p := ⟨g, al * 6 + 5, none⟩) rfl _) (fun k hk he => by
      obtain ⟨cu, hcu, _⟩ := HM6.out.obj hk
      subst he
      exact hcu.ne hcur6 (by decide) rfl)
  clear hcur6 hen6
  go_upto_region 18 with fail
  obtain ⟨x7, hx7⟩ : ∃ x7, x7 = x6.setCell ⟨g, al * 6 + 5, none⟩ (.int .i64 ((an : Int) + (zn : Int))) := ⟨_, rfl⟩
  rw [← hx7] at T7 HM7 ⊢
  clear q2 y5 z5 hx7 T6 HM6
  -- region 18
  have q5 := T7.out.rr.q.cell 5 rfl
  have v5 := T7.out.rr.q.frozen 5
  have hwo : IntKind.i64.wrap (S1.tk + (zn : Int)) = S1.tk + (zn : Int) := by
    rw [show S1.tk = S.tk by rw [HS1.out.1], IntKind.wrap_i64]
    have := H.out.gd.h
    have := H.out.gd.w1
    have := H.out.gd.t0
    have := H.out.gd.l2
    omega
  have T8 := hidden (T7.out.out (S1.tk + (zn : Int)) rfl)
  have HM8 : Hid (Mine x1.heap.size (x7.setCell ⟨r, 5, none⟩ (.int .i64 (S1.tk + (zn : Int)))) (.slice (some ⟨gx, 0, none⟩) zn vx) ((e.d.drop an).take zn)) :=
    HM7.out.stay (Mod.setCell (F := fun k => k = r) x7 (p := ⟨r, 5, none⟩) rfl _) (fun k hk he => by
      obtain ⟨cu, hcu, _⟩ := HM7.out.obj hk
      subst he
      exact hcu.ne T7.out.rr.q (by decide) rfl)
  go_upto_region 19 with fail
  obtain ⟨x8, hx8⟩ : ∃ x8, x8 = x7.setCell ⟨r, 5, none⟩ (.int .i64 (S1.tk + (zn : Int))) := ⟨_, rfl⟩
  rw [← hx8] at T8 HM8 ⊢
  clear q5 v5 hwo hx8 T7 HM7
  have HX1 : Hid (w.heap.size ≤ x1.heap.size) := HX10.out
  have REL : Hid (Rel (takeS S i' (rst e) ((B.filter (isE i')).map rst) n) (A ++ (restQ e (S.sn i') n ++ B)) rl1) := by
    have := H.out.rel.take H.out.gd HX.out HE.out.2.1 HE.out.2.2 hn
    rw [← HS1.out.2] at this
    exact this
  cases en with
  | false =>
    have hno : ¬ (((e.d.length - e.at_ : Nat) : Int)) ≤ n := of_decide_eq_false HEN.out.symm
    have REL2 : Hid (Rel (takeS S i' (rst e) ((B.filter (isE i')).map rst) n) (A ++ ⟨e.st, s1, e.pr, e.un, e.d, an + zn, e.v⟩ :: B) rl1) := by
      have := REL.out
      unfold restQ entN at this
      rw [if_neg hno, ← HS.out.1, ← HAL.out.2.2.1, ← HAL.out.2.2.2.1, ← HZN.out] at this
      exact this
    have HENF : Hid ((false : Bool) = decide (((e.d.length - e.at_ : Nat) : Int) ≤ n)) := HEN.out
    clear hno
    have o0 := T8.out.b1.cell 0 rfl
    have l0 := T8.out.b0.cell 0 rfl
    have t0 := T8.out.b0.frozen 0
    have o1 := T8.out.b1.cell 1 rfl
    have l1 := T8.out.b0.cell 1 rfl
    have t1 := T8.out.b0.frozen 1
    have o2 := T8.out.b1.cell 2 rfl
    have l2 := T8.out.b0.cell 2 rfl
    have t2 := T8.out.b0.frozen 2
    have o3 := T8.out.b1.cell 3 rfl
    have l3 := T8.out.b0.cell 3 rfl
    have t3 := T8.out.b0.frozen 3
    have o4 := T8.out.b1.cell 4 rfl
    have l4 := T8.out.b0.cell 4 rfl
    have t4 := T8.out.b0.frozen 4
    have o5 := T8.out.b1.cell 5 rfl
    have l5 := T8.out.b0.cell 5 rfl
    have t5 := T8.out.b0.frozen 5
    have o6 := T8.out.b1.cell 6 rfl
    have l6 := T8.out.b0.cell 6 rfl
    have t6 := T8.out.b0.frozen 6
    simp only [zP] at l0 l1 l2 l3 l4 l5 l6
    have hpw : w.heap.size ≠ pb := by have := T8.out.le; omega
    have hpw' : pb ≠ w.heap.size := fun e => hpw e.symm
    clear hmin hwd hwz hen2 hz2 hz3 hdc1 hdc2 hnc hpl2 hwst hlt hge hbg hn1 hanl hall hrlt hglt
    go_upto_region 22 with fail
    go_wp2
    obtain ⟨s1', s2'⟩ := seven T8.out.b0 (.int .u16 (i' : Int)) (.int .u16 s1) (.int .u32 e.pr) (.bool e.un) (.slice (some ⟨gx, 0, none⟩) zn vx) (.bool bg) (.bool false)
    refine bodyPost_ret (results_row_tmp rfl _ _ w.heap.size _ _ rfl s1' Try.underlying44 rfl (by kernel_rfl)) rfl ?_
    obtain ⟨rfl, rfl⟩ : rr = rst e ∧ rs = (B.filter (isE i')).map rst := by
      have h1 := HRR.out
      rw [H.out.rel.at HIN.out HE.out.2.1 HE.out.2.2] at h1
      simp only [List.cons.injEq] at h1
      exact ⟨h1.1.symm, h1.2.symm⟩
    refine ⟨.slice (some ⟨gx, 0, none⟩) zn vx, ?_, rtake_end (S := S) (i := i') (rr := rst e) (n := n) T8.out s2' HM8.out HX1.out ?_ REL2.out (H.out.gd.take HX.out (H.out.rel.at HIN.out HE.out.2.1 HE.out.2.2) hn) ?_ ?_ ?_ ?_⟩
    · have hpcv : pcv (cut (rst e) (S.sn i') n) (.slice (some ⟨gx, 0, none⟩) zn vx) = .agg #[.int .u16 (i' : Int), .int .u16 s1, .int .u32 e.pr, .bool e.un, .slice (some ⟨gx, 0, none⟩) zn vx, .bool bg, .bool false] := by
        have e1 : (cut (rst e) (S.sn i') n).en = false := by
          show decide (((e.d.drop e.at_).length : Int) ≤ n) = _
          rw [HENF.out]
          simp only [List.length_drop]
        have e2 : (cut (rst e) (S.sn i') n).st = (i' : Int) := HE.out.1
        have e3 : (cut (rst e) (S.sn i') n).sn = s1 := HS.out.1.symm
        have e4 : (cut (rst e) (S.sn i') n).bg = bg := HBG.out.symm
        unfold pcv
        rw [e1, e2, e3, e4]
        rfl
      rw [hpcv]
      rfl
    · show _ = (e.d.drop e.at_).take n.toNat
      rw [← HAL.out.2.2.2.1, HZN.out]
      by_cases hle : n.toNat ≤ dl - an
      · rw [Nat.min_eq_left hle]
      · rw [Nat.min_eq_right (by omega), List.take_of_length_le (by rw [List.length_drop, ← HAL.out.2.2.1]; omega), List.take_of_length_le (by rw [List.length_drop, ← HAL.out.2.2.1]; omega)]
    · show S.n = _
      rw [HS1.out.1]
    · show S.lim = _
      rw [HS1.out.1]
    · show S.tk + _ = S1.tk + (zn : Int)
      rw [HS1.out.1, List.length_take]
      show S.tk + ((min n.toNat (e.d.drop e.at_).length : Nat) : Int) = S.tk + (zn : Int)
      rw [List.length_drop, ← HAL.out.2.2.1, ← HAL.out.2.2.2.1, ← HZN.out]
    · show up S.sn i' _ = _
      rw [HS1.out.1, HS.out.2]
  | true =>
    have hyes : (((e.d.length - e.at_ : Nat) : Int)) ≤ n := of_decide_eq_true HEN.out.symm
    have REL2 : Hid (Rel (takeS S i' (rst e) ((B.filter (isE i')).map rst) n) (A ++ B) rl1) := by
      have := REL.out
      unfold restQ at this
      rw [if_pos hyes, List.nil_append] at this
      exact this
    have HENF : Hid ((true : Bool) = decide (((e.d.length - e.at_ : Nat) : Int) ≤ n)) := HEN.out
    have hBl : B.length = L - (al + 1) := by rw [HAL.out.2.1, HAL.out.1, List.length_append, List.length_cons]; omega
    have hcl : L ≤ cap := by
      rcases T8.out.rr.om.2 with ⟨e0, _⟩ | ⟨g', cap', cur', e0, _, _, hle, _⟩
      · cases e0
      · cases e0; rw [HAL.out.2.1]; simpa using hle
    obtain ⟨ad, hif, had⟩ : ∃ ad, (if cap = al + 1 then some (⟨g, 0, none⟩ : Addr) else some ⟨g, (al + 1) * 6, none⟩) = some ad ∧ (B ≠ [] → ad = ⟨g, (A.length + 1) * 6, none⟩) := by
      by_cases hce : cap = al + 1
      · exact ⟨_, if_pos hce, fun hne => absurd (List.eq_nil_of_length_eq_zero (by omega)) hne⟩
      · exact ⟨_, if_neg hce, fun _ => by rw [HAL.out.1]⟩
    have hlq := H.out.len
    obtain ⟨v10, w10, v11, w11, r1, r2, m11, hB10, hB11⟩ := T8.out.drop (Nat.le_trans HBS.out (Nat.le_trans T8.out.md.size (Nat.le_refl _))) (by rw [List.length_append, List.length_cons] at hlq ⊢; omega) (cap - (al + 1)) ad had
    rw [← HAL.out.1] at r1
    rw [hBl] at r2
    have R1 := hidden r1
    have R2 := hidden r2
    have T9a := hidden (T8.out.later hB11)
    have q2x := T8.out.rr.q.cell 2 rfl
    have q2 := (T8.out.later hB10).rr.q.cell 2 rfl
    have q2' := T9a.out.rr.q.cell 2 rfl
    have f2' := T9a.out.rr.q.frozen 2
    obtain ⟨v11a, v11c, hv11⟩ := Ba.own_len m11
    obtain ⟨LB, hLB⟩ : ∃ LB, LB = (A ++ B).length := ⟨_, rfl⟩
    rw [← hLB] at hv11
    subst hv11
    have hrl8 := T8.out.rr.q.lt
    have hwa : IntKind.i64.wrap ((al : Int) + 1) = (al : Int) + 1 := by rw [IntKind.wrap_i64]; have := hlq; rw [← HAL.out.2.1] at this; omega
    have T9 : Hid (Tt base w (w11.setCell ⟨r, 2, none⟩ (.slice v11a LB v11c)) r bs (.slice v11a LB v11c) ⟨S1.n, S1.lim, S1.last, S1.bgn, S1.R, S1.sn, S1.wt, S1.tk + (zn : Int)⟩ (A ++ B) rl1 pb #[.int .u16 (i' : Int), .int .u16 s1, .int .u32 e.pr, .bool e.un, .slice (some ⟨gx, 0, none⟩) zn vx, .bool bg, .bool true]) := T9a.out.row m11 (fun y hy => T9a.out.rr.by_ y (by rcases List.mem_append.1 hy with q | q <;> simp [q]))
    have HM9 : Hid (Mine x1.heap.size (w11.setCell ⟨r, 2, none⟩ (.slice v11a LB v11c)) (.slice (some ⟨gx, 0, none⟩) zn vx) ((e.d.drop an).take zn)) :=
      (HM8.out.later hB11).stay (Mod.setCell (F := fun k => k = r) w11 (p := ⟨r, 2, none⟩) rfl _) (fun k hk he => by
        obtain ⟨cu, hcu, _⟩ := (HM8.out.later hB11).obj hk
        subst he
        exact hcu.ne T9a.out.rr.q (by decide) rfl)
    have o6 := T8.out.b1.cell 6 rfl
    clear hyes hBl had hlq r1 r2 m11 hB10 hB11 hLB T9a
    clear hmin hwd hwz hen2 hz2 hz3 hdc1 hdc2 hnc hpl2 hwst hge hbg hn1 hanl hrlt hglt
    go_upto_region 21 with (at_builtin; refine Rg.wpList_app rfl _ _ _ rfl rfl rfl R1.out ?_; clear R1)
    go_upto_region 22 with (at_builtin; refine Rg.wpList_app rfl _ _ _ rfl rfl rfl R2.out ?_; clear R2)
    obtain ⟨x9, hx9⟩ : ∃ x9, x9 = w11.setCell ⟨r, 2, none⟩ (.slice v11a LB v11c) := ⟨_, rfl⟩
    rw [← hx9] at T9 HM9 ⊢
    clear q2x q2 q2' f2' hx9 o6 hif hwa hlt hall hrl8 hcl
    have o0 := T9.out.b1.cell 0 rfl
    have l0 := T9.out.b0.cell 0 rfl
    have t0 := T9.out.b0.frozen 0
    have o1 := T9.out.b1.cell 1 rfl
    have l1 := T9.out.b0.cell 1 rfl
    have t1 := T9.out.b0.frozen 1
    have o2 := T9.out.b1.cell 2 rfl
    have l2 := T9.out.b0.cell 2 rfl
    have t2 := T9.out.b0.frozen 2
    have o3 := T9.out.b1.cell 3 rfl
    have l3 := T9.out.b0.cell 3 rfl
    have t3 := T9.out.b0.frozen 3
    have o4 := T9.out.b1.cell 4 rfl
    have l4 := T9.out.b0.cell 4 rfl
    have t4 := T9.out.b0.frozen 4
    have o5 := T9.out.b1.cell 5 rfl
    have l5 := T9.out.b0.cell 5 rfl
    have t5 := T9.out.b0.frozen 5
    have o6 := T9.out.b1.cell 6 rfl
    have l6 := T9.out.b0.cell 6 rfl
    have t6 := T9.out.b0.frozen 6
    simp only [zP] at l0 l1 l2 l3 l4 l5 l6
    have hpw : w.heap.size ≠ pb := by have := T9.out.le; omega
    have hpw' : pb ≠ w.heap.size := fun e => hpw e.symm
    go_wp2
    obtain ⟨s1', s2'⟩ := seven T9.out.b0 (.int .u16 (i' : Int)) (.int .u16 s1) (.int .u32 e.pr) (.bool e.un) (.slice (some ⟨gx, 0, none⟩) zn vx) (.bool bg) (.bool true)
    refine bodyPost_ret (results_row_tmp rfl _ _ w.heap.size _ _ rfl s1' Try.underlying44 rfl (by kernel_rfl)) rfl ?_
    obtain ⟨rfl, rfl⟩ : rr = rst e ∧ rs = (B.filter (isE i')).map rst := by
      have h1 := HRR.out
      rw [H.out.rel.at HIN.out HE.out.2.1 HE.out.2.2] at h1
      simp only [List.cons.injEq] at h1
      exact ⟨h1.1.symm, h1.2.symm⟩
    refine ⟨.slice (some ⟨gx, 0, none⟩) zn vx, ?_, rtake_end (S := S) (i := i') (rr := rst e) (n := n) T9.out s2' HM9.out HX1.out ?_ REL2.out (H.out.gd.take HX.out (H.out.rel.at HIN.out HE.out.2.1 HE.out.2.2) hn) ?_ ?_ ?_ ?_⟩
    · have hpcv : pcv (cut (rst e) (S.sn i') n) (.slice (some ⟨gx, 0, none⟩) zn vx) = .agg #[.int .u16 (i' : Int), .int .u16 s1, .int .u32 e.pr, .bool e.un, .slice (some ⟨gx, 0, none⟩) zn vx, .bool bg, .bool true] := by
        have e1 : (cut (rst e) (S.sn i') n).en = true := by
          show decide (((e.d.drop e.at_).length : Int) ≤ n) = _
          rw [HENF.out]
          simp only [List.length_drop]
        have e2 : (cut (rst e) (S.sn i') n).st = (i' : Int) := HE.out.1
        have e3 : (cut (rst e) (S.sn i') n).sn = s1 := HS.out.1.symm
        have e4 : (cut (rst e) (S.sn i') n).bg = bg := HBG.out.symm
        unfold pcv
        rw [e1, e2, e3, e4]
        rfl
      rw [hpcv]
      rfl
    · show _ = (e.d.drop e.at_).take n.toNat
      rw [← HAL.out.2.2.2.1, HZN.out]
      by_cases hle : n.toNat ≤ dl - an
      · rw [Nat.min_eq_left hle]
      · rw [Nat.min_eq_right (by omega), List.take_of_length_le (by rw [List.length_drop, ← HAL.out.2.2.1]; omega), List.take_of_length_le (by rw [List.length_drop, ← HAL.out.2.2.1]; omega)]
    · show S.n = _
      rw [HS1.out.1]
    · show S.lim = _
      rw [HS1.out.1]
    · show S.tk + _ = S1.tk + (zn : Int)
      rw [HS1.out.1, List.length_take]
      show S.tk + ((min n.toNat (e.d.drop e.at_).length : Nat) : Int) = S.tk + (zn : Int)
      rw [List.length_drop, ← HAL.out.2.2.1, ← HAL.out.2.2.2.1, ← HZN.out]
    · show up S.sn i' _ = _
      rw [HS1.out.1, HS.out.2]
end
end Go.Proofs.Ytfgoamfoddkafaa.Sq
