/-
  What Decode of the document answers.
  Conditions: the numbers lie within their kinds, the cells hold them.
-/
import Derived.Test.YtmnndkhdekpecaaGreatDoorPb
import Derived.Deep.CutRange
namespace Go.Proofs.YtmnndkhdekpecaaGreatDoor.Par
open Go.ChangeShapes Go.WideShapes Go.ChangeAt Go.RowKit
set_option linter.unusedVariables false
attribute [local go_sem ↓] Go.wp_at_zero Go.wp_at_succ

section
variable {w x : World} {a1 a2 : Addr} {v1 v2 : Value}
theorem kp_drew (h : x.cell? a1 = some v1 ∧ x.cell? a2 = some v2 ∧ Below w.heap.size w x) : x.drew.cell? a1 = some v1 ∧ x.drew.cell? a2 = some v2 ∧ Below w.heap.size w x.drew := ⟨h.1, h.2.1, h.2.2.os, h.2.2.tape, h.2.2.output, h.2.2.size, h.2.2.block⟩
theorem kp_alloc (h : x.cell? a1 = some v1 ∧ x.cell? a2 = some v2 ∧ Below w.heap.size w x) (o : Obj) : (x.alloc o).cell? a1 = some v1 ∧ (x.alloc o).cell? a2 = some v2 ∧ Below w.heap.size w (x.alloc o) :=
  have hb : Below x.heap.size x (x.alloc o) := (Below.refl _ _).alloc (Nat.le_refl _) o
  ⟨keep_cell hb h.1, keep_cell hb h.2.1, h.2.2.alloc h.2.2.size o⟩
end
theorem b_new5 {w W : World} (h : Below w.heap.size w W) : Below w.heap.size w (W.alloc (.cells #[] 5)).drew :=
  have hb := h.alloc h.size (.cells #[] 5)
  ⟨hb.os, hb.tape, hb.output, hb.size, hb.block⟩
theorem b_step5 {w W w1 : World} (h : Below w.heap.size w W) (hg : (W.alloc (.cells #[] 5)).drew.grownBy w1 (some W.heap.size)) : Below w.heap.size w w1 :=
  (b_new5 h).grown hg (b_new5 h).size (fun j hj => by cases hj; exact h.size)
theorem step_new5 {ops : Array Oper} {o : Oper} {a : Act} {K : Act → World → Prop} {Q : Exit → Act → World → Prop} {E : Prop} (hgd : o.guard = none) (s x : Operand)
    (ho : o.op = .call { callee := .builtin .append, args := #[s, x], argTypes := #[27, 27] }) (W : World) (hs : a.eval s = .slice (some ⟨W.heap.size, 0, none⟩) 0 0)
    (ad : Addr) (m c : Nat) (body : List Int) (hx : a.eval x = .slice (some ad) m c) (hl : body.length = m) (hnews : ∀ j u, (cs body)[j]? = some u → (W.alloc (.cells #[] 5)).drew.cell? (ad.add j) = some u) (hm : m ≤ 140737488355328)
    (h : ∀ va vc w1, w1.ownsRow W.heap.size 5 1 (.slice va m vc) m (cs body) → (W.alloc (.cells #[] 5)).drew.grownBy w1 (some W.heap.size) → K (a.put o.dst (.slice va m vc)) w1) :
    if Region.wanted o (yielded ops a.tmps) = true then Oper.wp Tryz.prog o a (W.alloc (.cells #[] 5)).drew K Q else E := by
  obtain ⟨i0, hi, hz0, hz1, hz2⟩ := info_parts info5
  have hw : Region.wanted o (yielded ops a.tmps) = true := by simp [Region.wanted, hgd]
  rw [if_pos hw]
  refine wp_append_own _ s x 27 ho W.heap.size 5 i0 (.int .u8 0) 1 1 Tryz.underlying27 hi hz0 hz1 hz2 rfl (by decide) _ _ _ hs ((own_empty W W.heap.size (Nat.le_refl _)).drew) ad m c (cs body) hx (by rw [cs_len, hl, Nat.mul_one]) hnews (cs_one _) (by unfold maxLen; omega) (by omega) ?_ ?_
  · show W.heap.size ≤ (W.alloc _).heap.size
    simp
  · intro v' w' h1 h2 _
    rw [Nat.zero_add, List.nil_append] at h1
    obtain ⟨va, vc, rfl⟩ := form_of h1
    exact h va vc w' h1 h2
theorem Own5.later {w w' : World} {p : Prm} (h : Own5 w p) (hb : Below w.heap.size w w') : Own5 w' p := by
  rcases h with h0 | ⟨b, off, cur, fr, e, hh⟩
  · exact .inl h0
  · exact .inr ⟨b, off, cur, fr, e, (hb.block b (Array.getElem?_eq_some_iff.1 hh).1).trans hh⟩
theorem Lst.later {base : Nat} {w w' : World} {v : Value} {zs : List Int} {k : Nat} {ps : List Prm} (h : Lst base w v zs k ps) (hb : Below w.heap.size w w') : Lst base w' v zs k ps :=
  ⟨h.1.kept (row := none) ⟨hb.os, hb.tape, hb.output, hb.size, fun k hk _ => hb.block k hk⟩ (Classical.em (v.ownBlock = none)), h.2.1, fun p hp => ⟨(h.2.2 p hp).1.later hb, (h.2.2 p hp).2.later hb⟩⟩
theorem step_list {ops : Array Oper} {o : Oper} {a : Act} {K : Act → World → Prop} {Q : Exit → Act → World → Prop} {E : Prop} (hgd : o.guard = none) (s x : Operand)
    (ho : o.op = .call { callee := .builtin .append, args := #[s, x], argTypes := #[57, 57] }) (w1 : World) (va : Option Addr) (k vc : Nat) (hs : a.eval s = .slice va k vc) (xs : List Value) {base : Nat} (hown : w1.ownsRow base 114 2 (.slice va k vc) k xs) (hk : k ≤ 256)
    (T : Int) (u : Value) (hu : u.oneCell' = true) (hx : a.eval x = .slice (some ⟨w1.heap.size, 0, none⟩) 1 1) (hb : base ≤ w1.heap.size)
    (h : ∀ va' vc' w2, w2.ownsRow base 114 2 (.slice va' (k + 1) vc') (k + 1) (xs ++ [.int .u16 T, u]) → (w1.alloc (.cells #[.int .u16 T, u] 114)).grownBy w2 (Value.slice va k vc).ownBlock → K (a.put o.dst (.slice va' (k + 1) vc')) w2) :
    if Region.wanted o (yielded ops a.tmps) = true then Oper.wp Tryz.prog o a (w1.alloc (.cells #[.int .u16 T, u] 114)) K Q else E := by
  obtain ⟨i4, hi4, hy0, hy1, hy2⟩ := info_parts info45
  have hw : Region.wanted o (yielded ops a.tmps) = true := by simp [Region.wanted, hgd]
  rw [if_pos hw]
  refine wp_append_own _ s x 57 ho base 114 i4 (.agg #[.int .u16 0, .slice none 0 0]) 2 32 Tryz.underlying57 hi4 hy0 hy1 hy2 rfl (by decide) _ _ _ hs (hown.alloc _) ⟨w1.heap.size, 0, none⟩ 1 1 [.int .u16 T, u] hx rfl (cells_new w1 _ 114) ?_ (by unfold maxLen; omega) (by omega) ?_ ?_
  · intro v hv
    simp only [List.mem_cons, List.not_mem_nil, or_false] at hv
    rcases hv with rfl | rfl
    · rfl
    · exact hu
  · simp only [World.size_alloc]; omega
  · intro v' w' h1 h2 _
    obtain ⟨va', vc', rfl⟩ := form_of h1
    exact h va' vc' w' h1 h2
theorem b_list {w w1 w2 : World} {v : Value} {k : Nat} {xs : List Value} {o : Obj} (h : Below w.heap.size w w1) (hown : w1.ownsRow w.heap.size 114 2 v k xs) (hg : (w1.alloc o).grownBy w2 v.ownBlock) : Below w.heap.size w w2 :=
  have hb := h.alloc h.size o
  hb.grown hg hb.size (fun j hj => (hown.lt j hj).1)
theorem rdec_step {w w1 w2 : World} {k : Nat} {zs : List Int} {ps : List Prm} {q : Prm} {v v2 : Value} {o : Obj} (hL : Lst w.heap.size w1 v zs k ps) (q1 : One w.heap.size w1 q) (q2 : Own5 w1 q) (q3 : val q = item zs k)
    (ho2 : w2.ownsRow w.heap.size 114 2 v2 (k + 1) (ps.flatMap pc ++ pc q)) (hg2 : (w1.alloc o).grownBy w2 v.ownBlock) : Lst w.heap.size w2 v2 zs (k + 1) (ps ++ [q]) := by
  have hkind : ∀ g, v.ownBlock = some g → ∃ cur t fr, (w1.alloc o).heap[g]? = some (.cells cur t fr) ∧ t ≠ 5 := by
    intro g e
    obtain ⟨c, fz, hh⟩ := row_kind hL.1 g e
    refine ⟨c, 114, fz, ?_, by decide⟩
    rw [heap_alloc_old _ _ (hL.1.lt g e).2]
    exact hh
  have each : ∀ p : Prm, One w.heap.size w1 p → Own5 w1 p → One w.heap.size w2 p ∧ Own5 w2 p := by
    intro p h h5
    obtain ⟨x1, x2⟩ := h.grown h5 (World.grownBy_alloc w1 o none) (fun g e => by cases e)
    exact x1.grown x2 hg2 hkind
  refine ⟨?_, ?_, ?_⟩
  · rw [List.flatMap_append]
    simpa using ho2
  · rw [List.map_append, hL.2.1, items_succ]
    simp [q3]
  · intro p hp
    rcases List.mem_append.1 hp with hp | hp
    · exact each p (hL.2.2 p hp).1 (hL.2.2 p hp).2
    · obtain rfl : p = q := by simpa using hp
      exact each _ q1 q2
set_option maxHeartbeats 1000000 in
set_option maxRecDepth 20000 in
theorem rDecode (base : Nat) (w : World) (a : Option Addr) (len cap : Nat) (zs : List Int) (hr : Row base w a len zs) (hlc : len ≤ cap) (hnn : a = none → len = 0 ∧ cap = 0) :
    Calls Tryz.prog 114 #[.slice a len cap] w fun e w' => ∃ pa n pcap ps p c, e = .returned (.tuple #[.slice pa n pcap, .int .i64 ((p : Nat) : Int), .int .i64 c]) ∧ Prms w.heap.size w' pa n ps ∧ (pa = none → n = 0 ∧ pcap = 0) ∧ Out zs (ps.map val) p c ∧ Below w.heap.size w w' := by
  obtain ⟨i0, hi, hz0, hz1, hz2⟩ := info_parts info5
  obtain ⟨i4, hi4, hy0, hy1, hy2⟩ := info_parts info45
  have hzl := hr.1
  have hlim := hr.2.2.1
  have HZ := hidden hr.2.1
  go_enter Tryz.func114, Tryz.ntmps114
  go_wp2_with fail
  go_loopw [5, 6] (fun v i wr => ∃ k ps, k ≤ 256 ∧ i = .int .i64 ((pos zs k : Nat) : Int) ∧ (∀ j, j < k → good zs j) ∧ Lst w.heap.size wr v zs k ps ∧ Below w.heap.size w wr) (fun v _ _ => 257 - lenV v)
  case atStart => exact ⟨0, [], by omega, rfl, (fun j hj => by omega), ⟨World.ownsRow_nil _ _ _ _, rfl, (fun p hp => by cases hp)⟩, Below.refl _ _⟩
  case round =>
    obtain ⟨k, ps, hk, rfl, hgood, hL, hbl⟩ := hrel
    obtain ⟨va, vc, rfl⟩ := form_of hL.1
    have HGD := hidden hgood
    have HB := hidden hbl
    have HL := hidden hL
    clear hgood hbl hL
    rcases Nat.lt_or_ge (pos zs k) len with hlt | hge
    · have HOut := hidden (show ¬ good zs k → Out zs [] (pos zs k) (errOf k) from fun h => ⟨k, hk, HGD.out, .inr ⟨by omega, h, rfl, rfl, rfl⟩⟩)
      have HGk := hidden (show good zs k ↔ k < 256 ∧ pos zs k + 4 ≤ len ∧ 4 ≤ ln zs (pos zs k) ∧ pos zs k + ln zs (pos zs k) ≤ len by unfold good; rw [hzl])
      by_cases hk2 : 256 ≤ k
      · have HO := hidden (show Out zs [] (pos zs k) 3 by have h := HOut.out (fun h => by have := (HGk.out.1 h).1; omega); unfold errOf at h; rwa [if_pos hk2] at h)
        clear HOut HGk
        generalize pos zs k = P at *
        go_wp2
        go_ret3
        exact ⟨none, 0, 0, [], P, 3, rfl, Prms.nil _ _ _, (fun _ => ⟨rfl, rfl⟩), HO.out, HB.out⟩
      · have HO := hidden (show ¬ good zs k → Out zs [] (pos zs k) 50 from fun hn => by have h := HOut.out hn; unfold errOf at h; rwa [if_neg hk2] at h)
        have HPS := hidden (show pos zs (k + 1) = pos zs k + fill4 (ln zs (pos zs k)) from rfl)
        have HIT := hidden (show item zs k = (zs.getD (pos zs k) 0 * 256 + zs.getD (pos zs k + 1) 0, (zs.drop (pos zs k + 4)).take (ln zs (pos zs k) - 4)) from rfl)
        have HLN := hidden (ln_eq zs HZ.out (pos zs k))
        clear HOut
        generalize pos zs k = P at *
        by_cases h4 : P + 4 ≤ len
        · obtain ⟨b, off, rfl, _, hc⟩ := hr.2.2.2.resolve_left (by omega)
          have HR := hidden hr
          have x2 := at_bound zs HZ.out (P + 2)
          have x3 := at_bound zs HZ.out (P + 3)
          have x0 := at_bound zs HZ.out P
          have x1 := at_bound zs HZ.out (P + 1)
          have c2 := keep_cell HB.out (hc (P + 2) (by omega))
          have c3 := keep_cell HB.out (hc (P + 3) (by omega))
          have C0 := hidden (hc P (by omega))
          have C1 := hidden (hc (P + 1) (by omega))
          obtain ⟨hn1, hn2⟩ := HLN.out
          generalize ln zs P = n at *
          generalize zs.getD (P + 2) 0 = y2 at *
          generalize zs.getD (P + 3) 0 = y3 at *
          generalize zs.getD P 0 = y0 at *
          generalize zs.getD (P + 1) 0 = y1 at *
          have hn3 : y2 * 256 + y3 = (n : Int) := hn1.symm
          clear hc hr HLN hn1
          go_wp2
          go_quiet (fail)
          have HBq := hidden (below_drewN HB.out nq)
          have HLq := hidden (show Lst w.heap.size (wr.drewN nq) (.slice va k vc) zs k ps from HL.out)
          generalize wr.drewN nq = W at *
          clear HB HL c2 c3
          by_cases h5 : 4 ≤ n
          · by_cases h6 : P + n ≤ len
            · have i1 : ¬ (n : Int) < 4 := by omega
              have i2 : ¬ (len : Int) - (P : Int) < (n : Int) := by omega
              have d1 : decide ((n : Int) < 4) = false := decide_eq_false i1
              have d2 : decide ((len : Int) - (P : Int) < (n : Int)) = false := decide_eq_false i2
              have c0w := keep_cell HBq.out C0.out
              have c1w := keep_cell HBq.out C1.out
              have hw16 : ∀ x : Int, IntKind.u16.wrap x = x % 65536 := fun _ => rfl
              obtain ⟨T, hT⟩ : ∃ T, y0 * 256 + y1 = T := ⟨_, rfl⟩
              have hTT : (y0 % 65536 * 256 + y1) % 65536 = T := by omega
              have HTB : Hid (0 ≤ T ∧ T < 65536) := by unfold Hid; omega
              rw [hT] at HIT
              clear hT
              have wr1 : ∀ z : Int, -9223372036854775808 ≤ z → z ≤ 9223372036854775807 → IntKind.i64.wrap z = z := fun z h1 h2 => by rw [IntKind.wrap_i64]; omega
              obtain ⟨P1, hP1⟩ : ∃ P1, P + 1 = P1 := ⟨_, rfl⟩
              obtain ⟨P4, hP4⟩ : ∃ P4, P + 4 = P4 := ⟨_, rfl⟩
              obtain ⟨Pn, hPn⟩ : ∃ Pn, P + n = Pn := ⟨_, rfl⟩
              have q1 : IntKind.i64.wrap ((P : Int) + 1) = (P1 : Int) := by rw [wr1 _ (by omega) (by omega)]; omega
              have q4 : IntKind.i64.wrap ((P : Int) + 4) = (P4 : Int) := by rw [wr1 _ (by omega) (by omega)]; omega
              have qn : IntKind.i64.wrap ((P : Int) + (n : Int)) = (Pn : Int) := by rw [wr1 _ (by omega) (by omega)]; omega
              have j1 : (0 : Int) ≤ (P : Int) := by omega
              have j2 : (P : Int) < (len : Int) := by omega
              have j3 : (P1 : Int) < (len : Int) := by omega
              have j3' : (0 : Int) ≤ (P1 : Int) := by omega
              have j4 : (P4 : Int) ≤ (Pn : Int) := by omega
              have j5 : (Pn : Int) ≤ (cap : Int) := by omega
              have j6 : (0 : Int) ≤ (P4 : Int) := by omega
              rw [hP1] at c1w C1
              obtain ⟨o4, ho4⟩ : ∃ o4, (if cap = P4 then (some ⟨b, off, none⟩ : Option Addr) else some ⟨b, off + P4, none⟩) = some ⟨b, o4, none⟩ := by split <;> exact ⟨_, rfl⟩
              have HA4 := hidden (show cutA (some ⟨b, off, none⟩) cap P4 = some ⟨b, o4, none⟩ by rw [← ho4]; unfold cutA; show (if cap = P4 then _ else some ((⟨b, off, none⟩ : Addr).add P4)) = _; rw [add_plain])
              have hcut := cut_row (k := P4) (n := Pn) HR.out (by omega) (by omega) hlc hnn
              rw [HA4.out] at hcut
              obtain ⟨body, hbody⟩ : ∃ body, (zs.drop P4).take (Pn - P4) = body := ⟨_, rfl⟩
              rw [hbody] at hcut
              have HBL := hidden hcut.1
              have HBB := hidden hcut.2.1
              have NEWS := hidden ((hcut.later (b_new5 HBq.out)).news)
              have hmm : Pn - P4 ≤ 140737488355328 := by omega
              have HBO := hidden hbody
              clear hcut hbody HA4
              clear wr1
              go_wp2_with fail
              go_region_held3 (fun w' => w'.cell? ⟨b, off + P, none⟩ = some (.int .u8 y0) ∧ w'.cell? ⟨b, off + P1, none⟩ = some (.int .u8 y1) ∧ Below w.heap.size w w')
                (first | (exact kp_drew ⟨c0w, c1w, HBq.out⟩) | (exact kp_alloc (by assumption) _) | (exact ⟨keep_cell (by assumption) C0.out, keep_cell (by assumption) C1.out, by assumption⟩) | (trace_state; fail))
                (first
                  | ((refine step_new5 (by rfl) _ _ (by rfl) W (by rfl) ⟨b, o4, none⟩ (Pn - P4) (cap - P4) body (by rfl) HBL.out NEWS.out hmm ?_; intro va5 vc5 w1 ho1 hg1; have hB1 := b_step5 HBq.out hg1; have hL1 := HLq.out.later (b_step5 (Below.refl _ W) hg1); have hs1 := hB1.size))
                  | ((refine step_list (by rfl) _ _ (by rfl) w1 va k vc (by rfl) (ps.flatMap pc) hL1.1 (by omega) T (.slice va5 (Pn - P4) vc5) (by rfl) (by rfl) hs1 ?_; intro va6 vc6 w2 ho2 hg2; have hB2 := b_list hB1 hL1.1 hg2))
                  | ((trace_state; fail)))
              have HST := hidden (show Lst w.heap.size w2 (.slice va6 (k + 1) vc6) zs (k + 1) (ps ++ [(T, va5, Pn - P4, vc5, body)]) from by
                obtain ⟨a', c', e, hr1, r1, r2, r3⟩ := row_own ho1 HBB.out hmm
                cases e
                refine rdec_step hL1 ⟨HTB.out, hr1.mono HBq.out.size, r1, r2, r3⟩ (own5_of ho1 rfl) ?_ ho2 hg2
                show (T, body) = item zs k
                rw [HIT.out, ← HBO.out, ← hP4, show Pn - (P + 4) = n - 4 by omega])
              have HB2 := hidden hB2
              have HPP := hidden (show ((P : Int) + ((n : Int) + 3) / 4 * 4) = ((pos zs (k + 1) : Nat) : Int) by rw [HPS.out]; unfold fill4; omega)
              have HGG := hidden (show ∀ j, j < k + 1 → good zs j from fun j hj => by
                rcases Nat.lt_or_ge j k with h | h
                · exact HGD.out j h
                · obtain rfl : j = k := by omega
                  exact HGk.out.2 ⟨by omega, h4, h5, h6⟩)
              have hdv : ((n : Int) + 3).tdiv 4 = ((n : Int) + 3) / 4 := Int.tdiv_eq_ediv_of_nonneg (by omega)
              clear ho1 hg1 hB1 hL1 ho2 hg2 hB2 q1 q4 qn hTT ho4 c0w c1w
              go_wp2
              go_roundw
              case rel => exact ⟨k + 1, _, by omega, by rw [HPP.out], HGG.out, HST.out, HB2.out⟩
              case measure => simp [lenV]; omega
            · have HOO := hidden (HO.out (fun h => by have := (HGk.out.1 h).2.2.2; omega))
              have i1 : ¬ (n : Int) < 4 := by omega
              have i2 : (len : Int) - (P : Int) < (n : Int) := by omega
              clear HGk HO
              go_wp2
              go_ret3
              exact ⟨none, 0, 0, [], P, 50, rfl, Prms.nil _ _ _, (fun _ => ⟨rfl, rfl⟩), HOO.out, HBq.out⟩
          · have HOO := hidden (HO.out (fun h => by have := (HGk.out.1 h).2.2.1; omega))
            have i1 : (n : Int) < 4 := by omega
            clear HGk HO
            go_wp2
            go_ret3
            exact ⟨none, 0, 0, [], P, 50, rfl, Prms.nil _ _ _, (fun _ => ⟨rfl, rfl⟩), HOO.out, HBq.out⟩
        · have HOO := hidden (HO.out (fun h => by have := (HGk.out.1 h).2.1; omega))
          clear HGk HO
          go_wp2
          go_ret3
          exact ⟨none, 0, 0, [], P, 50, rfl, Prms.nil _ _ _, (fun _ => ⟨rfl, rfl⟩), HOO.out, HB.out⟩
    · obtain ⟨pa, pcap, e, hP, hpn⟩ := HL.out.prms hk
      cases e
      have HO := hidden (show Out zs (ps.map val) 0 0 by rw [HL.out.2.1]; exact ⟨k, hk, HGD.out, .inl ⟨by omega, rfl, rfl, rfl⟩⟩)
      have HP := hidden hP
      have HPN := hidden hpn
      clear hP hpn
      go_wp2
      go_ret3
      exact ⟨va, k, vc, ps, 0, 0, rfl, HP.out, HPN.out, HO.out, HB.out⟩
end Go.Proofs.YtmnndkhdekpecaaGreatDoor.Par
