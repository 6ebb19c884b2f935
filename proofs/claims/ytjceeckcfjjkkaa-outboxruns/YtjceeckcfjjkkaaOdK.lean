/-
  The document's box: what a report tells of a path.
  Conditions: the box lies in memory, the report's blocks can be read.
-/
import Derived.Test.YtjceeckcfjjkkaaOdJ
namespace Go.Proofs.Ytjceeckcfjjkkaa.Ob
open Go.ChangeShapes Go.WideShapes Go.ChangeAt Go.RowKit
open Ba (hidden Has cell_lt heap_lt)
set_option linter.unusedVariables false
/-- worlds while it is counted -/
structure AcK (w X : World) (c : Ck) (nl : Nat → Bool) (now p : Int) (L : List Ch) (k : Nat) : Prop where
  bl : Below w.heap.size w X
  hc : Has X w.heap.size (kcs c) 48
  hz : Has X (w.heap.size + 1) #[.int .i64 0, .bool false, .int .i64 0, .int .i64 0] 69
  ha : Has X (w.heap.size + 1 + 1) #[.int .i64 (sI (byF nl p) L k), .bool (mvA nl p L k), .int .i64 (trA nl now p L k), .int .i64 0] 69
section
variable {D F G Q : Nat → Prop} {w w' X : World} {r : Nat} {v : Value} {P : List CV} {n k : Nat} {b : Int} {c : Ck} {q : Rq} {L : List Ch} {i g o : Nat} {x y : Ch} {u : Value} {nl tl : Nat → Bool} {now p : Int}
theorem AcK.later (h : AcK w X c nl now p L k) (hB : Below X.heap.size X w') : AcK w w' c nl now p L k := ⟨h.bl.trans (hB.mono h.bl.size), h.hc.later hB, h.hz.later hB, h.ha.later hB⟩
/-- a chunk that tells nothing of the path -/
theorem AcK.skip (h : AcK w X c nl now p L k) (hx : L[k]? = some x) (hn : ¬ (opn x = true ∧ x.pa = p)) (hnl : nl k = true → opn x = true) : AcK w X c nl now p L (k + 1) ∧ hdA p L (k + 1) = hdA p L k := by
  have h0 : ¬ (nl k = true ∧ x.pa = p) := fun e => hn ⟨hnl e.1, e.2⟩
  have e1 : sI (byF nl p) L (k + 1) = sI (byF nl p) L k := by rw [sI_succ hx]; unfold byF; rw [if_neg h0]; omega
  have e2 : (opn x && decide (x.pa = p)) = false := by
    cases ho : opn x with
    | false => rfl
    | true => rw [Bool.true_and]; exact decide_eq_false (fun e => hn ⟨ho, e⟩)
  have e3 : mvA nl p L (k + 1) = mvA nl p L k := by simp only [mvA, hx]; rw [e2]; rfl
  have e4 : trA nl now p L (k + 1) = trA nl now p L k := by simp only [trA, hx]; rw [if_neg (fun e => h0 ⟨e.1, e.2.1⟩)]
  have e5 : hdA p L (k + 1) = hdA p L k := by simp only [hdA, hx]; rw [e2, Bool.or_false]
  exact ⟨⟨h.bl, h.hc, h.hz, by rw [e1, e3, e4]; exact h.ha⟩, e5⟩
set_option maxRecDepth 8000 in
set_option maxHeartbeats 4000000 in
theorem r_acked (h : Ro D w r v P n b L) (hk : Lk n L) (hR : Rp Q w c q) (hts : ∀ x ∈ L, 0 ≤ x.ts ∧ x.ts < 4294967296) (hse : ∀ x ∈ L, 0 ≤ x.se ∧ x.se ≤ 1099511627776)
    (htl : ∀ i x, L[i]? = some x → tlD q (Ser.dist 4294967296 q.tsn x.ts) = tl i) (p now : Int) (hnow : 0 ≤ now ∧ now ≤ 1099511627776) :
    Calls Try.prog 69 #[.pointer (some ⟨r, 0, none⟩), kv c, .int .i64 p, .int .i64 now] w fun e w' => e = .returned (.agg #[.int .i64 (sI (byF (nwl tl L) p) L L.length), .bool (mvA (nwl tl L) p L L.length), .int .i64 (trA (nwl tl L) now p L L.length), .int .i64 0]) ∧ Below w.heap.size w w' := by
  obtain ⟨W0, hW0⟩ : ∃ W0, W0 = ((w.alloc (.cells (kcs c) 48)).alloc (.cells #[.int .i64 0, .bool false, .int .i64 0, .int .i64 0] 69)).alloc (.cells #[.int .i64 0, .bool false, .int .i64 (-1), .int .i64 0] 69) := ⟨_, rfl⟩
  have hO0 : Ow.Own w W0 [(w.heap.size + 1 + 1, #[.int .i64 0, .bool false, .int .i64 (-1), .int .i64 0], 69), (w.heap.size + 1, #[.int .i64 0, .bool false, .int .i64 0, .int .i64 0], 69), (w.heap.size, kcs c, 48)] := by
    have := (((Ow.Own.refl w).alloc (kcs c) 48).alloc #[.int .i64 0, .bool false, .int .i64 0, .int .i64 0] 69).alloc #[.int .i64 0, .bool false, .int .i64 (-1), .int .i64 0] 69
    simp only [World.size_alloc] at this
    rw [hW0]
    exact this
  obtain ⟨nl, hnl⟩ : ∃ nl, nl = nwl tl L := ⟨_, rfl⟩
  rw [← hnl]
  have HNL := hidden hnl
  have hI0 : Hid (AcK w W0 c nl now p L 0) := ⟨hO0.below, hO0.has (List.mem_cons_of_mem _ (List.mem_cons_of_mem _ (List.mem_cons_self ..))), hO0.has (List.mem_cons_of_mem _ (List.mem_cons_self ..)), hO0.has (List.mem_cons_self ..)⟩
  have HH := hidden h
  have HR := hidden hR
  have HTS := hidden hts
  have HSE := hidden hse
  have HTL := hidden htl
  have HK := hidden hk
  have HNOW := hidden hnow
  obtain ⟨aa, ca, hv, _⟩ := h.rw_.slice
  rw [h.len] at hv
  obtain ⟨z, hz⟩ : ∃ z, z = L.length := ⟨_, rfl⟩
  have HZ := hidden hz
  rw [← hz] at hv ⊢
  have hz1 : z ≤ 1001 := by rw [hz]; exact hk.1
  have HV := hidden hv
  unfold kcs at hW0
  have HW0 := hidden hW0
  unfold kv kcs
  clear h hk hR hts hse htl hnow hv hz hW0 hO0 hnl
  go_enter Try.func69, Try.ntmps69
  go_upto_region 1 with fail
  go_upto_region 2 with fail
  rw [← HW0.out]
  go_wp2_with fail
  go_loopw [10, 11] (fun f d X => ∃ k : Nat, f = .bool (!hdA p L k) ∧ d = .int .i64 (k : Int) ∧ k ≤ z ∧ Hid (AcK w X c nl now p L k)) (fun f d X => z - (intOf d).toNat)
  case atStart => exact ⟨0, rfl, rfl, Nat.zero_le _, hI0.out⟩
  case round =>
    obtain ⟨k, rfl, rfl, hkz, HI⟩ := hrel
    have hRR := HH.out.later HI.out.bl
    have c2 := hRR.q.cell 2 rfl
    rw [HV.out] at c2
    have hwk : IntKind.i64.wrap ((k : Int) + 1) = (k : Int) + 1 := by rw [IntKind.wrap_i64]; omega
    by_cases hlt : (k : Int) < (z : Int)
    · obtain ⟨x, hx⟩ : ∃ x, L[k]? = some x := ⟨_, List.getElem?_eq_getElem (by rw [← HZ.out]; omega)⟩
      obtain ⟨g, oo, cap, a1, c1, e, hc, hb, hf⟩ := hRR.open hx
      rw [HV.out, ← HZ.out] at e
      cases e
      obtain ⟨m0, m1, m2, m3, m4, m5, m6, m7, m8, m9, m10, m11, m12, m13⟩ := hc.all14
      obtain ⟨X1, hX1⟩ : ∃ X1, X1 = wr.alloc (.cells (oc x (.slice (some a1) x.p.d.length c1)) 59) := ⟨_, rfl⟩
      have hB1 : Below wr.heap.size wr X1 := by rw [hX1]; exact (Below.refl _ _).alloc (Nat.le_refl _) _
      have hN1 : Has X1 wr.heap.size (oc x (.slice (some a1) x.p.d.length c1)) 59 := by rw [hX1]; exact Has.new _ _ _
      have hI1 := HI.out.later hB1
      have HI1 := hidden hI1
      have HN1 := hidden hN1
      have TE := hidden (r_tells (HR.out.later hI1.bl) x (.slice (some a1) x.p.d.length c1) (HTS.out x (List.mem_of_getElem? hx)))
      rw [HTL.out k x hx] at TE
      unfold oc at hX1
      have HX1 := hidden hX1
      have HX := hidden hx
      clear hc hb hf hx hRR hX1 hB1 hN1 hI1
      go_upto_region 7 with fail
      rw [← HX1.out]
      clear m0 m1 m2 m3 m4 m5 m6 m7 m8 m9 m10 m11 m12 m13 c2
      have l0 := HI1.out.hc.cell 0 (v := .int .u8 c.kd) rfl
      have l1 := HI1.out.hc.cell 1 (v := .int .u8 c.fg) rfl
      have l2 := HI1.out.hc.cell 2 (v := .int .u32 c.tsn) rfl
      have l3 := HI1.out.hc.cell 3 (v := .int .u16 c.sm) rfl
      have l4 := HI1.out.hc.cell 4 (v := .int .u16 c.sn) rfl
      have l5 := HI1.out.hc.cell 5 (v := .int .u32 c.pr) rfl
      have l6 := HI1.out.hc.cell 6 (v := .int .u32 c.tag) rfl
      have l7 := HI1.out.hc.cell 7 (v := .int .u32 c.win) rfl
      have l8 := HI1.out.hc.cell 8 (v := .int .u16 c.out) rfl
      have l9 := HI1.out.hc.cell 9 (v := .int .u16 c.inn) rfl
      have l10 := HI1.out.hc.cell 10 (v := .slice c.ga c.gl c.gc) rfl
      have l11 := HI1.out.hc.cell 11 (v := .slice c.na c.nl c.nc) rfl
      have l12 := HI1.out.hc.cell 12 (v := .slice c.da c.dl c.dc) rfl
      have l13 := HI1.out.hc.cell 13 (v := .slice c.ba c.bl c.bc) rfl
      have l14 := HI1.out.hc.cell 14 (v := .slice c.pa c.pl c.pc) rfl
      have n0 := HN1.out.cell 0 (v := .int .u32 x.ts) rfl
      have n1 := HN1.out.cell 1 (v := .int .i64 x.pa) rfl
      have n2 := HN1.out.cell 2 (v := .int .i64 x.ti) rfl
      have n3 := HN1.out.cell 3 (v := .int .i64 x.se) rfl
      have n4 := HN1.out.cell 4 (v := .int .i64 x.mi) rfl
      have n5 := HN1.out.cell 5 (v := .bool x.qu) rfl
      have n6 := HN1.out.cell 6 (v := .int .i64 x.st) rfl
      have n7 := HN1.out.cell 7 (v := .int .u16 x.p.sm) rfl
      have n8 := HN1.out.cell 8 (v := .int .u16 x.p.sn) rfl
      have n9 := HN1.out.cell 9 (v := .int .u32 x.p.pr) rfl
      have n10 := HN1.out.cell 10 (v := .bool x.p.un) rfl
      have n11 := HN1.out.cell 11 (v := .slice (some a1) x.p.d.length c1) rfl
      have n12 := HN1.out.cell 12 (v := .bool x.p.bg) rfl
      have n13 := HN1.out.cell 13 (v := .bool x.p.en) rfl
      go_wp2_with fail
      clear l0 l1 l2 l3 l4 l5 l6 l7 l8 l9 l10 l11 l12 l13 l14 n0 n1 n2 n3 n4 n5 n6 n7 n8 n9 n10 n11 n12 n13
      refine Calls.mono TE.out ?_
      rintro e X2 ⟨rfl, hB2⟩
      have HI2 := hidden (HI1.out.later hB2)
      have HN2 := hidden (HN1.out.later hB2)
      have OP := hidden (r_open x (.slice (some a1) x.p.d.length c1) X2)
      have n0 := HN2.out.cell 0 (v := .int .u32 x.ts) rfl
      have n1 := HN2.out.cell 1 (v := .int .i64 x.pa) rfl
      have n2 := HN2.out.cell 2 (v := .int .i64 x.ti) rfl
      have n3 := HN2.out.cell 3 (v := .int .i64 x.se) rfl
      have n4 := HN2.out.cell 4 (v := .int .i64 x.mi) rfl
      have n5 := HN2.out.cell 5 (v := .bool x.qu) rfl
      have n6 := HN2.out.cell 6 (v := .int .i64 x.st) rfl
      have n7 := HN2.out.cell 7 (v := .int .u16 x.p.sm) rfl
      have n8 := HN2.out.cell 8 (v := .int .u16 x.p.sn) rfl
      have n9 := HN2.out.cell 9 (v := .int .u32 x.p.pr) rfl
      have n10 := HN2.out.cell 10 (v := .bool x.p.un) rfl
      have n11 := HN2.out.cell 11 (v := .slice (some a1) x.p.d.length c1) rfl
      have n12 := HN2.out.cell 12 (v := .bool x.p.bg) rfl
      have n13 := HN2.out.cell 13 (v := .bool x.p.en) rfl
      clear hB2
      go_wp2_with fail
      clear n0 n1 n2 n3 n4 n5 n6 n7 n8 n9 n10 n11 n12 n13
      refine Calls.mono OP.out ?_
      rintro e X3 ⟨rfl, hB3⟩
      have HI3 := hidden (HI2.out.later hB3)
      have HN3 := hidden (HN2.out.later hB3)
      have n1 := HN3.out.cell 1 (v := .int .i64 x.pa) rfl
      have HNK : Hid (nl k = true → opn x = true) := fun e => by rw [HNL.out, nwl_at HX.out, Bool.and_eq_true] at e; exact e.2
      clear hB3
      cases ho : opn x with
      | false =>
        obtain ⟨hs1, hs2⟩ := HI3.out.skip HX.out (fun e => by rw [ho] at e; cases e.1) HNK.out
        have HS := hidden (And.intro hs1 hs2)
        clear hs1 hs2 ho n1
        go_wp2
        go_roundw
        case rel => exact ⟨k + 1, by rw [HS.out.2], by simp, by omega, HS.out.1⟩
        case measure => simp only [intOf]; omega
      | true =>
        by_cases hp : x.pa = p
        · have hpb : (x.pa == p) = true := by simp [hp]
          have e0 : (opn x && decide (x.pa = p)) = true := by rw [ho, decide_eq_true hp]; rfl
          have HHD : Hid (hdA p L (k + 1) = true) := by show _ = _; simp only [hdA, HX.out]; rw [e0, Bool.or_true]
          have hnk : nl k = tl k := by rw [HNL.out, nwl_at HX.out, ho, Bool.and_true]
          have HMV : Hid (mvA nl p L (k + 1) = if hdA p L k then mvA nl p L k else tl k) := by
            show _ = _
            simp only [mvA, HX.out]
            rw [e0, hnk]
            cases hdA p L k <;> rfl
          have HBY : Hid (sI (byF nl p) L (k + 1) = sI (byF nl p) L k + if tl k then sz x else 0) := by
            show _ = _
            rw [sI_succ HX.out]
            unfold byF
            rw [hnk]
            cases tl k
            · simp
            · simp [hp]
          have HTR : Hid (trA nl now p L (k + 1) = if tl k = true ∧ x.ti = 1 then max (now - x.se) 0 else trA nl now p L k) := by
            show _ = _
            simp only [trA, HX.out]
            rw [hnk]
            by_cases h1 : tl k = true ∧ x.ti = 1
            · rw [if_pos h1, if_pos ⟨h1.1, hp, h1.2⟩]
            · rw [if_neg h1, if_neg (fun e => h1 ⟨e.1, e.2.2⟩)]
          have k1 := HI3.out.ha.cell 1 rfl
          have kf := HI3.out.ha.frozen
          obtain ⟨X4, hX4⟩ : ∃ X4, X4 = X3.setCell ⟨w.heap.size + 1 + 1, 1, none⟩ (.bool (tl k)) := ⟨_, rfl⟩
          have h4 := HI3.out.ha.set 1 (.bool (tl k))
          simp only [List.setIfInBounds_toArray, List.set_cons_zero, List.set_cons_succ] at h4
          rw [← hX4] at h4
          have hm4 : Mod (fun j => j = w.heap.size + 1 + 1) X3 X4 := by rw [hX4]; exact (Mod.refl (fun j => j = w.heap.size + 1 + 1) X3).set (p := ⟨w.heap.size + 1 + 1, 1, none⟩) rfl _
          have HX4 := hidden hX4
          have H4 := hidden h4
          have HM4 := hidden hm4
          clear hX4 h4 hm4 e0 hnk ho hp
          generalize hhd : hdA p L k = hd at *
          generalize htk : tl k = tk at *
          clear hhd htk
          cases tk with
          | false =>
            cases hd with
            | true =>
              clear k1 kf
              go_wp2
              go_roundw
              case rel => exact ⟨k + 1, by rw [HHD.out]; rfl, by simp, by omega, HI3.out.bl, HI3.out.hc, HI3.out.hz, by rw [HMV.out, HBY.out, HTR.out]; simpa using HI3.out.ha⟩
              case measure => simp only [intOf]; omega
            | false =>
              go_wp2
              go_roundw
              case rel =>
                rw [← HX4.out]
                exact ⟨k + 1, by rw [HHD.out]; rfl, by simp, by omega, HI3.out.bl.trans (HM4.out.below HI3.out.bl.size (fun j hj => by omega)), HM4.out.has HI3.out.hc (fun e => by omega), HM4.out.has HI3.out.hz (fun e => by omega), by rw [HMV.out, HBY.out, HTR.out]; simpa using H4.out⟩
              case measure => simp only [intOf]; omega
          | true =>
            obtain ⟨A, hA⟩ : ∃ A, A = sI (byF nl p) L k := ⟨_, rfl⟩
            obtain ⟨B, hB⟩ : ∃ B, B = trA nl now p L k := ⟨_, rfl⟩
            have hAb := sI_bound (f := byF nl p) (B := 65536) (by omega) L k (fun i x _ hx => by
              have h1 := (HK.out.2 x (List.mem_of_getElem? hx)).1
              unfold byF
              split
              · unfold sz; omega
              · omega)
            have hxz := (HK.out.2 x (List.mem_of_getElem? HX.out)).1
            have hsz : sz x ≤ 65536 := by unfold sz; omega
            have hs0 := sz_nn x
            have hwA : IntKind.i64.wrap (A + sz x) = A + sz x := by rw [hA, IntKind.wrap_i64]; omega
            have hse := HSE.out x (List.mem_of_getElem? HX.out)
            have hno := HNOW.out
            have hwS : IntKind.i64.wrap (now - x.se) = now - x.se := by rw [IntKind.wrap_i64]; omega
            have HLT : Hid (w.heap.size + 1 + 1 < wr.heap.size) := HI.out.ha.lt
            have h3 : Has X3 (w.heap.size + 1 + 1) #[.int .i64 A, .bool (mvA nl p L k), .int .i64 B, .int .i64 0] 69 := by rw [hA, hB]; exact HI3.out.ha
            have h4 : Has X4 (w.heap.size + 1 + 1) #[.int .i64 A, .bool true, .int .i64 B, .int .i64 0] 69 := by rw [hA, hB]; exact H4.out
            have HAB := hidden (And.intro hA hB)
            clear hA hB hAb hxz hsz hs0 hse hno
            have H3 := hidden h3
            have H4' := hidden h4
            clear h3 h4
            cases hd with
            | true =>
              obtain ⟨M, hM⟩ : ∃ M, M = mvA nl p L k := ⟨_, rfl⟩
              have HFIN : Hid (∀ Z tr, Below w.heap.size w Z → Has Z w.heap.size (kcs c) 48 → Has Z (w.heap.size + 1) #[.int .i64 0, .bool false, .int .i64 0, .int .i64 0] 69 → Has Z (w.heap.size + 1 + 1) #[.int .i64 (A + sz x), .bool M, .int .i64 tr, .int .i64 0] 69 → tr = (if x.ti = 1 then max (now - x.se) 0 else B) → AcK w Z c nl now p L (k + 1)) := fun Z tr e1 e2 e3 e4 e5 => ⟨e1, e2, e3, by
                rw [HMV.out, HBY.out, HTR.out, ← HAB.out.1, ← HAB.out.2]
                subst hM e5
                simpa using e4⟩
              clear k1 kf
              go_upto_region 13 with fail
              obtain ⟨Y, hY⟩ : ∃ Y, Y = X3 := ⟨_, rfl⟩
              have HY : Hid (Below w.heap.size w Y ∧ Has Y w.heap.size (kcs c) 48 ∧ Has Y (w.heap.size + 1) #[.int .i64 0, .bool false, .int .i64 0, .int .i64 0] 69 ∧ Has Y (w.heap.size + 1 + 1) #[.int .i64 A, .bool M, .int .i64 B, .int .i64 0] 69 ∧ Has Y wr.heap.size (oc x (.slice (some a1) x.p.d.length c1)) 59) := by
                rw [hY, hM]
                exact ⟨HI3.out.bl, HI3.out.hc, HI3.out.hz, H3.out, HN3.out⟩
              rw [← hY]
              clear hY hM
              have HLC : Hid (∀ X, Below Y.heap.size Y X → (Instr.loadAt 59 (.pointer (some ⟨wr.heap.size, 0, none⟩))).run Try.prog X = .ok (ov x (.slice (some a1) x.p.d.length c1)) X) := fun X hX => by
                have hh := HY.out.2.2.2.2.later hX
                unfold oc at hh
                obtain ⟨e0, e1, e2, e3, e4, e5, e6, e7, e8, e9, e10, e11, e12, e13⟩ := cells14 hh
                simp [go_sem, e0, e1, e2, e3, e4, e5, e6, e7, e8, e9, e10, e11, e12, e13, ov]
              have HL0 : Hid (∀ X, Below Y.heap.size Y X → (Instr.loadAt 3 (.pointer (some ⟨w.heap.size + 1 + 1, 0, none⟩))).run Try.prog X = .ok (.int .i64 A) X) := fun X hX => by
                have e0 := (HY.out.2.2.2.1.later hX).cell 0 rfl
                simp [go_sem, e0]
              have HS0 : Hid (∀ X, Below Y.heap.size Y X → (Instr.storeAt 3 (.pointer (some ⟨w.heap.size + 1 + 1, 0, none⟩)) (.int .i64 (A + sz x))).run Try.prog X = .ok () (X.setCell ⟨w.heap.size + 1 + 1, 0, none⟩ (.int .i64 (A + sz x)))) := fun X hX => by
                have hh := HY.out.2.2.2.1.later hX
                have e0 := hh.cell 0 rfl
                have f0 := hh.frozen 0
                simp [go_sem, e0, f0]
              have SZ := hidden (fun X => r_size x (u := .slice (some a1) x.p.d.length c1) ⟨_, _, rfl⟩ X)
              have ESZ : Hid (∀ (args : Array Value) (w : World), (callFunc 72 args).run Try.prog w = .ok (.enter 72 args) w) := enters_of Try.func72 (by kernel_rfl) rfl
              refine Ord.wp_region_ex0 (X := Unit) (by kernel_rfl) 71 (fun xq => [(some 52, .pointer (some ⟨w.heap.size + 1 + 1, 0, none⟩)), (some 53, .int .i64 A), (some 54, ov x (.slice (some a1) x.p.d.length c1)), (some 55, .int .i64 (sz x)), (some 56, .int .i64 (A + sz x)), (some 57, .pointer (some ⟨w.heap.size + 1 + 1, 0, none⟩)), (none, undef)]) [some 52, some 53, some 54, some 55, some 56, some 57, none] rfl (fun listed hsz hr => Ord.all_listedC (rank := [0, 1, 2, 3, 4, 5, 6]) (by kernel_rfl) hsz hr) (by rfl) (fun _ => rfl) (by kernel_rfl) (Rg.StM [3, 6] (fun sk sx w' => (sk ≤ 1 → Below Y.heap.size Y w') ∧ (sk = 2 → ∃ X, Below Y.heap.size Y X ∧ w' = X.setCell ⟨w.heap.size + 1 + 1, 0, none⟩ (.int .i64 (A + sz x))))) (fun _ _ _ _ hL h => h.ext (n := 7) (by decide) hL) ?_ ?_ () ?_
              case refine_1 =>
                intro xq Lq iq oq ac w' ho hi hcl hdep hF hW
                have f1 : ac.tmps.size = 71 := hF.1
                match iq, ho, hi, hdep with
                | 0, ho, hi, hdep =>
                  cases ho
                  have da0 : ac.eval (.tmp 9) = .pointer (some ⟨w.heap.size + 1 + 1, 0, none⟩) := hF.old 9 rfl
                  exact Ord.ex_value xq rfl rfl (Rg.fa da0 rfl (by simp [go_sem])) rfl (hW.keep (by decide))
                | 1, ho, hi, hdep =>
                  cases ho
                  have da0 : ac.eval (.tmp 52) = .pointer (some ⟨w.heap.size + 1 + 1, 0, none⟩) := hF.2.2.2 0 52 _ rfl (hdep ⟨0, .data⟩ (by simp) rfl)
                  obtain ⟨kq, hlo, hhi, hA⟩ := hW.range 0 1 (.inl rfl) (.inr ⟨6, rfl, (Rg.no_of (fun h => hcl 6 _ rfl (h) ⟨1, .phase⟩ (by simp) rfl) hi)⟩)
                  exact Ord.ex_value xq rfl rfl (Rg.load da0 rfl (HL0.out _ (hA.1 (by omega)))) rfl (hW.keep (by decide))
                | 2, ho, hi, hdep =>
                  cases ho
                  have da0 : ac.eval (.tmp 12) = .pointer (some ⟨wr.heap.size, 0, none⟩) := hF.old 12 rfl
                  obtain ⟨kq, hlo, hhi, hA⟩ := hW.range 0 0 (.inl rfl) (.inr ⟨3, rfl, (Rg.no_of (fun h => hcl 3 _ rfl (h) ⟨2, .data⟩ (by simp) rfl) hi)⟩)
                  exact Ord.ex_value xq rfl rfl (Rg.load da0 rfl (HLC.out _ (hA.1 (by omega)))) rfl (hW.keep (by decide))
                | 3, ho, hi, hdep =>
                  cases ho
                  have da0 : ac.eval (.tmp 54) = ov x (.slice (some a1) x.p.d.length c1) := hF.2.2.2 2 54 _ rfl (hdep ⟨2, .data⟩ (by simp) rfl)
                  have hA := hW.at (k := 0) rfl hi (.inl rfl)
                  exact Rg.ex_call xq rfl rfl (Rg.enter (args := #[ov x (.slice (some a1) x.p.d.length c1)]) rfl rfl (by simp [da0]) ESZ.out) (Calls.mono (SZ.out _) (by rintro e w2 ⟨rfl, hB⟩; exact ⟨rfl, hW.next (k := 0) rfl (by decide) hi (.inl rfl) ⟨fun _ => (hA.1 (by decide)).trans (hB.mono (hA.1 (by decide)).size), fun e => absurd e (by decide)⟩⟩))
                | 4, ho, hi, hdep =>
                  cases ho
                  have da0 : ac.eval (.tmp 53) = .int .i64 A := hF.2.2.2 1 53 _ rfl (hdep ⟨1, .data⟩ (by simp) rfl)
                  have da1 : ac.eval (.tmp 55) = .int .i64 (sz x) := hF.2.2.2 3 55 _ rfl (hdep ⟨3, .data⟩ (by simp) rfl)
                  exact Ord.ex_value xq rfl rfl (Rg.bin da0 da1 rfl (by simp [go_sem, hwA])) rfl (hW.keep (by decide))
                | 5, ho, hi, hdep =>
                  cases ho
                  have da0 : ac.eval (.tmp 9) = .pointer (some ⟨w.heap.size + 1 + 1, 0, none⟩) := hF.old 9 rfl
                  exact Ord.ex_value xq rfl rfl (Rg.fa da0 rfl (by simp [go_sem])) rfl (hW.keep (by decide))
                | 6, ho, hi, hdep =>
                  cases ho
                  have da0 : ac.eval (.tmp 57) = .pointer (some ⟨w.heap.size + 1 + 1, 0, none⟩) := hF.2.2.2 5 57 _ rfl (hdep ⟨5, .data⟩ (by simp) rfl)
                  have da1 : ac.eval (.tmp 56) = .int .i64 (A + sz x) := hF.2.2.2 4 56 _ rfl (hdep ⟨4, .data⟩ (by simp) rfl)
                  have hA := hW.at (k := 1) rfl hi (.inr ⟨3, rfl, (hdep ⟨3, .chain⟩ (by simp) rfl)⟩)
                  exact Rg.ex_skip xq rfl rfl (Rg.sto da0 da1 rfl (HS0.out _ (hA.1 (by decide)))) rfl (hW.next (k := 1) rfl (by decide) hi (.inr ⟨3, rfl, (hdep ⟨3, .chain⟩ (by simp) rfl)⟩) ⟨fun e => absurd e (by decide), fun _ => ⟨_, hA.1 (by decide), rfl⟩⟩)
              case refine_3 => exact Rg.StM.first ⟨fun _ => (Below.refl _ _).drew, fun e => absurd e (by decide)⟩
              case refine_2 =>
                intro v' w2 hW
                obtain ⟨X, hBX, hw2⟩ := hW.last.2 rfl
                have HW2 := hidden hw2
                clear hW hw2
                simp only [Ord.puts, Ord.prs]
                go_simp
                have hX := HY.out.2.2.2.1.later hBX
                have hO := HY.out.2.2.2.2.later hBX
                have hZ := hX.set 0 (.int .i64 (A + sz x))
                simp only [List.setIfInBounds_toArray, List.set_cons_zero] at hZ
                rw [← HW2.out] at hZ
                have hmZ : Mod (fun j => j = w.heap.size + 1 + 1) X w2 := by rw [HW2.out]; exact (Mod.refl (fun j => j = w.heap.size + 1 + 1) X).set (p := ⟨w.heap.size + 1 + 1, 0, none⟩) rfl _
                have HZZ : Hid (Below w.heap.size w w2 ∧ Has w2 w.heap.size (kcs c) 48 ∧ Has w2 (w.heap.size + 1) #[.int .i64 0, .bool false, .int .i64 0, .int .i64 0] 69 ∧ Has w2 (w.heap.size + 1 + 1) #[.int .i64 (A + sz x), .bool M, .int .i64 B, .int .i64 0] 69) :=
                  ⟨(HY.out.1.trans (hBX.mono HY.out.1.size)).trans (hmZ.below (Nat.le_trans HY.out.1.size hBX.size) (fun j hj => by omega)), hmZ.has (HY.out.2.1.later hBX) (fun e => by omega), hmZ.has (HY.out.2.2.1.later hBX) (fun e => by omega), hZ⟩
                have hO2 := hmZ.has hO (fun e => by have := HLT.out; omega)
                have z0 := hZ.cell 0 rfl
                have z2 := hZ.cell 2 rfl
                have zf := hZ.frozen
                have n2 := hO2.cell 2 (v := .int .i64 x.ti) rfl
                have n3 := hO2.cell 3 (v := .int .i64 x.se) rfl
                clear hX hO hZ hmZ hO2 hBX
                by_cases ht : x.ti = 1
                · have htb : (x.ti == 1) = true := by simp [ht]
                  have HT := hidden ht
                  clear ht
                  by_cases hneg : now - x.se < 0
                  · have HMX : Hid (max (now - x.se) 0 = 0) := by show max (now - x.se) 0 = 0; omega
                    go_wp2
                    go_roundw
                    case rel =>
                      refine ⟨k + 1, by rw [HHD.out]; rfl, by simp, by omega, HFIN.out _ 0 ?_ ?_ ?_ ?_ (by rw [if_pos HT.out, HMX.out])⟩
                      all_goals first | exact HZZ.out.1.trans ((((Mod.refl (fun j => j = w.heap.size + 1 + 1) w2).set (p := ⟨w.heap.size + 1 + 1, 2, none⟩) rfl (.int .i64 (now - x.se))).set (p := ⟨w.heap.size + 1 + 1, 2, none⟩) rfl (.int .i64 0)).below HZZ.out.1.size (fun j hj => by omega)) | exact (((Mod.refl (fun j => j = w.heap.size + 1 + 1) w2).set (p := ⟨w.heap.size + 1 + 1, 2, none⟩) rfl (.int .i64 (now - x.se))).set (p := ⟨w.heap.size + 1 + 1, 2, none⟩) rfl (.int .i64 0)).has HZZ.out.2.1 (fun e => by omega) | exact (((Mod.refl (fun j => j = w.heap.size + 1 + 1) w2).set (p := ⟨w.heap.size + 1 + 1, 2, none⟩) rfl (.int .i64 (now - x.se))).set (p := ⟨w.heap.size + 1 + 1, 2, none⟩) rfl (.int .i64 0)).has HZZ.out.2.2.1 (fun e => by omega) | exact (HZZ.out.2.2.2.set 2 (.int .i64 (now - x.se))).set 2 (.int .i64 0)
                    case measure => simp only [intOf]; omega
                  · have HMX : Hid (max (now - x.se) 0 = now - x.se) := by show max (now - x.se) 0 = now - x.se; omega
                    go_wp2
                    go_roundw
                    case rel =>
                      refine ⟨k + 1, by rw [HHD.out]; rfl, by simp, by omega, HFIN.out _ (now - x.se) ?_ ?_ ?_ ?_ (by rw [if_pos HT.out, HMX.out])⟩
                      all_goals first | exact HZZ.out.1.trans (((Mod.refl (fun j => j = w.heap.size + 1 + 1) w2).set (p := ⟨w.heap.size + 1 + 1, 2, none⟩) rfl (.int .i64 (now - x.se))).below HZZ.out.1.size (fun j hj => by omega)) | exact ((Mod.refl (fun j => j = w.heap.size + 1 + 1) w2).set (p := ⟨w.heap.size + 1 + 1, 2, none⟩) rfl (.int .i64 (now - x.se))).has HZZ.out.2.1 (fun e => by omega) | exact ((Mod.refl (fun j => j = w.heap.size + 1 + 1) w2).set (p := ⟨w.heap.size + 1 + 1, 2, none⟩) rfl (.int .i64 (now - x.se))).has HZZ.out.2.2.1 (fun e => by omega) | exact HZZ.out.2.2.2.set 2 (.int .i64 (now - x.se))
                    case measure => simp only [intOf]; omega
                · have htb : (x.ti == 1) = false := by simp [ht]
                  have HT := hidden ht
                  clear ht z0 z2 zf
                  go_wp2
                  go_roundw
                  case rel => exact ⟨k + 1, by rw [HHD.out]; rfl, by simp, by omega, HFIN.out _ B HZZ.out.1 HZZ.out.2.1 HZZ.out.2.2.1 HZZ.out.2.2.2 (by rw [if_neg HT.out])⟩
                  case measure => simp only [intOf]; omega
            | false =>
              obtain ⟨M, hM⟩ : ∃ M, M = true := ⟨_, rfl⟩
              have HFIN : Hid (∀ Z tr, Below w.heap.size w Z → Has Z w.heap.size (kcs c) 48 → Has Z (w.heap.size + 1) #[.int .i64 0, .bool false, .int .i64 0, .int .i64 0] 69 → Has Z (w.heap.size + 1 + 1) #[.int .i64 (A + sz x), .bool M, .int .i64 tr, .int .i64 0] 69 → tr = (if x.ti = 1 then max (now - x.se) 0 else B) → AcK w Z c nl now p L (k + 1)) := fun Z tr e1 e2 e3 e4 e5 => ⟨e1, e2, e3, by
                rw [HMV.out, HBY.out, HTR.out, ← HAB.out.1, ← HAB.out.2]
                subst hM e5
                simpa using e4⟩
              go_upto_region 13 with fail
              rw [← HX4.out]
              obtain ⟨Y, hY⟩ : ∃ Y, Y = X4 := ⟨_, rfl⟩
              have HY : Hid (Below w.heap.size w Y ∧ Has Y w.heap.size (kcs c) 48 ∧ Has Y (w.heap.size + 1) #[.int .i64 0, .bool false, .int .i64 0, .int .i64 0] 69 ∧ Has Y (w.heap.size + 1 + 1) #[.int .i64 A, .bool M, .int .i64 B, .int .i64 0] 69 ∧ Has Y wr.heap.size (oc x (.slice (some a1) x.p.d.length c1)) 59) := by
                rw [hY, hM]
                exact ⟨HI3.out.bl.trans (HM4.out.below HI3.out.bl.size (fun j hj => by omega)), HM4.out.has HI3.out.hc (fun e => by omega), HM4.out.has HI3.out.hz (fun e => by omega), H4'.out, HM4.out.has HN3.out (fun e => by have := HLT.out; omega)⟩
              rw [← hY]
              clear hY hM k1 kf
              have HLC : Hid (∀ X, Below Y.heap.size Y X → (Instr.loadAt 59 (.pointer (some ⟨wr.heap.size, 0, none⟩))).run Try.prog X = .ok (ov x (.slice (some a1) x.p.d.length c1)) X) := fun X hX => by
                have hh := HY.out.2.2.2.2.later hX
                unfold oc at hh
                obtain ⟨e0, e1, e2, e3, e4, e5, e6, e7, e8, e9, e10, e11, e12, e13⟩ := cells14 hh
                simp [go_sem, e0, e1, e2, e3, e4, e5, e6, e7, e8, e9, e10, e11, e12, e13, ov]
              have HL0 : Hid (∀ X, Below Y.heap.size Y X → (Instr.loadAt 3 (.pointer (some ⟨w.heap.size + 1 + 1, 0, none⟩))).run Try.prog X = .ok (.int .i64 A) X) := fun X hX => by
                have e0 := (HY.out.2.2.2.1.later hX).cell 0 rfl
                simp [go_sem, e0]
              have HS0 : Hid (∀ X, Below Y.heap.size Y X → (Instr.storeAt 3 (.pointer (some ⟨w.heap.size + 1 + 1, 0, none⟩)) (.int .i64 (A + sz x))).run Try.prog X = .ok () (X.setCell ⟨w.heap.size + 1 + 1, 0, none⟩ (.int .i64 (A + sz x)))) := fun X hX => by
                have hh := HY.out.2.2.2.1.later hX
                have e0 := hh.cell 0 rfl
                have f0 := hh.frozen 0
                simp [go_sem, e0, f0]
              have SZ := hidden (fun X => r_size x (u := .slice (some a1) x.p.d.length c1) ⟨_, _, rfl⟩ X)
              have ESZ : Hid (∀ (args : Array Value) (w : World), (callFunc 72 args).run Try.prog w = .ok (.enter 72 args) w) := enters_of Try.func72 (by kernel_rfl) rfl
              refine Ord.wp_region_ex0 (X := Unit) (by kernel_rfl) 71 (fun xq => [(some 52, .pointer (some ⟨w.heap.size + 1 + 1, 0, none⟩)), (some 53, .int .i64 A), (some 54, ov x (.slice (some a1) x.p.d.length c1)), (some 55, .int .i64 (sz x)), (some 56, .int .i64 (A + sz x)), (some 57, .pointer (some ⟨w.heap.size + 1 + 1, 0, none⟩)), (none, undef)]) [some 52, some 53, some 54, some 55, some 56, some 57, none] rfl (fun listed hsz hr => Ord.all_listedC (rank := [0, 1, 2, 3, 4, 5, 6]) (by kernel_rfl) hsz hr) (by rfl) (fun _ => rfl) (by kernel_rfl) (Rg.StM [3, 6] (fun sk sx w' => (sk ≤ 1 → Below Y.heap.size Y w') ∧ (sk = 2 → ∃ X, Below Y.heap.size Y X ∧ w' = X.setCell ⟨w.heap.size + 1 + 1, 0, none⟩ (.int .i64 (A + sz x))))) (fun _ _ _ _ hL h => h.ext (n := 7) (by decide) hL) ?_ ?_ () ?_
              case refine_1 =>
                intro xq Lq iq oq ac w' ho hi hcl hdep hF hW
                have f1 : ac.tmps.size = 71 := hF.1
                match iq, ho, hi, hdep with
                | 0, ho, hi, hdep =>
                  cases ho
                  have da0 : ac.eval (.tmp 9) = .pointer (some ⟨w.heap.size + 1 + 1, 0, none⟩) := hF.old 9 rfl
                  exact Ord.ex_value xq rfl rfl (Rg.fa da0 rfl (by simp [go_sem])) rfl (hW.keep (by decide))
                | 1, ho, hi, hdep =>
                  cases ho
                  have da0 : ac.eval (.tmp 52) = .pointer (some ⟨w.heap.size + 1 + 1, 0, none⟩) := hF.2.2.2 0 52 _ rfl (hdep ⟨0, .data⟩ (by simp) rfl)
                  obtain ⟨kq, hlo, hhi, hA⟩ := hW.range 0 1 (.inl rfl) (.inr ⟨6, rfl, (Rg.no_of (fun h => hcl 6 _ rfl (h) ⟨1, .phase⟩ (by simp) rfl) hi)⟩)
                  exact Ord.ex_value xq rfl rfl (Rg.load da0 rfl (HL0.out _ (hA.1 (by omega)))) rfl (hW.keep (by decide))
                | 2, ho, hi, hdep =>
                  cases ho
                  have da0 : ac.eval (.tmp 12) = .pointer (some ⟨wr.heap.size, 0, none⟩) := hF.old 12 rfl
                  obtain ⟨kq, hlo, hhi, hA⟩ := hW.range 0 0 (.inl rfl) (.inr ⟨3, rfl, (Rg.no_of (fun h => hcl 3 _ rfl (h) ⟨2, .data⟩ (by simp) rfl) hi)⟩)
                  exact Ord.ex_value xq rfl rfl (Rg.load da0 rfl (HLC.out _ (hA.1 (by omega)))) rfl (hW.keep (by decide))
                | 3, ho, hi, hdep =>
                  cases ho
                  have da0 : ac.eval (.tmp 54) = ov x (.slice (some a1) x.p.d.length c1) := hF.2.2.2 2 54 _ rfl (hdep ⟨2, .data⟩ (by simp) rfl)
                  have hA := hW.at (k := 0) rfl hi (.inl rfl)
                  exact Rg.ex_call xq rfl rfl (Rg.enter (args := #[ov x (.slice (some a1) x.p.d.length c1)]) rfl rfl (by simp [da0]) ESZ.out) (Calls.mono (SZ.out _) (by rintro e w2 ⟨rfl, hB⟩; exact ⟨rfl, hW.next (k := 0) rfl (by decide) hi (.inl rfl) ⟨fun _ => (hA.1 (by decide)).trans (hB.mono (hA.1 (by decide)).size), fun e => absurd e (by decide)⟩⟩))
                | 4, ho, hi, hdep =>
                  cases ho
                  have da0 : ac.eval (.tmp 53) = .int .i64 A := hF.2.2.2 1 53 _ rfl (hdep ⟨1, .data⟩ (by simp) rfl)
                  have da1 : ac.eval (.tmp 55) = .int .i64 (sz x) := hF.2.2.2 3 55 _ rfl (hdep ⟨3, .data⟩ (by simp) rfl)
                  exact Ord.ex_value xq rfl rfl (Rg.bin da0 da1 rfl (by simp [go_sem, hwA])) rfl (hW.keep (by decide))
                | 5, ho, hi, hdep =>
                  cases ho
                  have da0 : ac.eval (.tmp 9) = .pointer (some ⟨w.heap.size + 1 + 1, 0, none⟩) := hF.old 9 rfl
                  exact Ord.ex_value xq rfl rfl (Rg.fa da0 rfl (by simp [go_sem])) rfl (hW.keep (by decide))
                | 6, ho, hi, hdep =>
                  cases ho
                  have da0 : ac.eval (.tmp 57) = .pointer (some ⟨w.heap.size + 1 + 1, 0, none⟩) := hF.2.2.2 5 57 _ rfl (hdep ⟨5, .data⟩ (by simp) rfl)
                  have da1 : ac.eval (.tmp 56) = .int .i64 (A + sz x) := hF.2.2.2 4 56 _ rfl (hdep ⟨4, .data⟩ (by simp) rfl)
                  have hA := hW.at (k := 1) rfl hi (.inr ⟨3, rfl, (hdep ⟨3, .chain⟩ (by simp) rfl)⟩)
                  exact Rg.ex_skip xq rfl rfl (Rg.sto da0 da1 rfl (HS0.out _ (hA.1 (by decide)))) rfl (hW.next (k := 1) rfl (by decide) hi (.inr ⟨3, rfl, (hdep ⟨3, .chain⟩ (by simp) rfl)⟩) ⟨fun e => absurd e (by decide), fun _ => ⟨_, hA.1 (by decide), rfl⟩⟩)
              case refine_3 => exact Rg.StM.first ⟨fun _ => (Below.refl _ _).drew, fun e => absurd e (by decide)⟩
              case refine_2 =>
                intro v' w2 hW
                obtain ⟨X, hBX, hw2⟩ := hW.last.2 rfl
                have HW2 := hidden hw2
                clear hW hw2
                simp only [Ord.puts, Ord.prs]
                go_simp
                have hX := HY.out.2.2.2.1.later hBX
                have hO := HY.out.2.2.2.2.later hBX
                have hZ := hX.set 0 (.int .i64 (A + sz x))
                simp only [List.setIfInBounds_toArray, List.set_cons_zero] at hZ
                rw [← HW2.out] at hZ
                have hmZ : Mod (fun j => j = w.heap.size + 1 + 1) X w2 := by rw [HW2.out]; exact (Mod.refl (fun j => j = w.heap.size + 1 + 1) X).set (p := ⟨w.heap.size + 1 + 1, 0, none⟩) rfl _
                have HZZ : Hid (Below w.heap.size w w2 ∧ Has w2 w.heap.size (kcs c) 48 ∧ Has w2 (w.heap.size + 1) #[.int .i64 0, .bool false, .int .i64 0, .int .i64 0] 69 ∧ Has w2 (w.heap.size + 1 + 1) #[.int .i64 (A + sz x), .bool M, .int .i64 B, .int .i64 0] 69) :=
                  ⟨(HY.out.1.trans (hBX.mono HY.out.1.size)).trans (hmZ.below (Nat.le_trans HY.out.1.size hBX.size) (fun j hj => by omega)), hmZ.has (HY.out.2.1.later hBX) (fun e => by omega), hmZ.has (HY.out.2.2.1.later hBX) (fun e => by omega), hZ⟩
                have hO2 := hmZ.has hO (fun e => by have := HLT.out; omega)
                have z0 := hZ.cell 0 rfl
                have z2 := hZ.cell 2 rfl
                have zf := hZ.frozen
                have n2 := hO2.cell 2 (v := .int .i64 x.ti) rfl
                have n3 := hO2.cell 3 (v := .int .i64 x.se) rfl
                clear hX hO hZ hmZ hO2 hBX
                by_cases ht : x.ti = 1
                · have htb : (x.ti == 1) = true := by simp [ht]
                  have HT := hidden ht
                  clear ht
                  by_cases hneg : now - x.se < 0
                  · have HMX : Hid (max (now - x.se) 0 = 0) := by show max (now - x.se) 0 = 0; omega
                    go_wp2
                    go_roundw
                    case rel =>
                      refine ⟨k + 1, by rw [HHD.out]; rfl, by simp, by omega, HFIN.out _ 0 ?_ ?_ ?_ ?_ (by rw [if_pos HT.out, HMX.out])⟩
                      all_goals first | exact HZZ.out.1.trans ((((Mod.refl (fun j => j = w.heap.size + 1 + 1) w2).set (p := ⟨w.heap.size + 1 + 1, 2, none⟩) rfl (.int .i64 (now - x.se))).set (p := ⟨w.heap.size + 1 + 1, 2, none⟩) rfl (.int .i64 0)).below HZZ.out.1.size (fun j hj => by omega)) | exact (((Mod.refl (fun j => j = w.heap.size + 1 + 1) w2).set (p := ⟨w.heap.size + 1 + 1, 2, none⟩) rfl (.int .i64 (now - x.se))).set (p := ⟨w.heap.size + 1 + 1, 2, none⟩) rfl (.int .i64 0)).has HZZ.out.2.1 (fun e => by omega) | exact (((Mod.refl (fun j => j = w.heap.size + 1 + 1) w2).set (p := ⟨w.heap.size + 1 + 1, 2, none⟩) rfl (.int .i64 (now - x.se))).set (p := ⟨w.heap.size + 1 + 1, 2, none⟩) rfl (.int .i64 0)).has HZZ.out.2.2.1 (fun e => by omega) | exact (HZZ.out.2.2.2.set 2 (.int .i64 (now - x.se))).set 2 (.int .i64 0)
                    case measure => simp only [intOf]; omega
                  · have HMX : Hid (max (now - x.se) 0 = now - x.se) := by show max (now - x.se) 0 = now - x.se; omega
                    go_wp2
                    go_roundw
                    case rel =>
                      refine ⟨k + 1, by rw [HHD.out]; rfl, by simp, by omega, HFIN.out _ (now - x.se) ?_ ?_ ?_ ?_ (by rw [if_pos HT.out, HMX.out])⟩
                      all_goals first | exact HZZ.out.1.trans (((Mod.refl (fun j => j = w.heap.size + 1 + 1) w2).set (p := ⟨w.heap.size + 1 + 1, 2, none⟩) rfl (.int .i64 (now - x.se))).below HZZ.out.1.size (fun j hj => by omega)) | exact ((Mod.refl (fun j => j = w.heap.size + 1 + 1) w2).set (p := ⟨w.heap.size + 1 + 1, 2, none⟩) rfl (.int .i64 (now - x.se))).has HZZ.out.2.1 (fun e => by omega) | exact ((Mod.refl (fun j => j = w.heap.size + 1 + 1) w2).set (p := ⟨w.heap.size + 1 + 1, 2, none⟩) rfl (.int .i64 (now - x.se))).has HZZ.out.2.2.1 (fun e => by omega) | exact HZZ.out.2.2.2.set 2 (.int .i64 (now - x.se))
                    case measure => simp only [intOf]; omega
                · have htb : (x.ti == 1) = false := by simp [ht]
                  have HT := hidden ht
                  clear ht z0 z2 zf
                  go_wp2
                  go_roundw
                  case rel => exact ⟨k + 1, by rw [HHD.out]; rfl, by simp, by omega, HFIN.out _ B HZZ.out.1 HZZ.out.2.1 HZZ.out.2.2.1 HZZ.out.2.2.2 (by rw [if_neg HT.out])⟩
                  case measure => simp only [intOf]; omega
        · have hpb : (x.pa == p) = false := by simp [hp]
          obtain ⟨hs1, hs2⟩ := HI3.out.skip HX.out (fun e => hp e.2) HNK.out
          have HS := hidden (And.intro hs1 hs2)
          clear hs1 hs2 ho hp
          go_wp2
          go_roundw
          case rel => exact ⟨k + 1, by rw [HS.out.2], by simp, by omega, HS.out.1⟩
          case measure => simp only [intOf]; omega
    · obtain rfl : k = z := by omega
      have hnl : ¬ ((k : Int) < (k : Int)) := by omega
      have HRES : Hid (k = L.length) := HZ.out
      have HI2 := hidden HI.out.ha
      have a0 := HI.out.ha.cell 0 rfl
      have a1 := HI.out.ha.cell 1 rfl
      have a2 := HI.out.ha.cell 2 rfl
      have a3 := HI.out.ha.cell 3 rfl
      have z0 := HI.out.hz.cell 0 rfl
      have z1 := HI.out.hz.cell 1 rfl
      have z2 := HI.out.hz.cell 2 rfl
      have z3 := HI.out.hz.cell 3 rfl
      have hfz := HI.out.hz.frozen
      have HZ0 := hidden HI.out.hz
      clear hRR
      go_wp2
      have H4 := (((HZ0.out.set 0 (.int .i64 (sI (byF nl p) L k))).set 1 (.bool (mvA nl p L k))).set 2 (.int .i64 (trA nl now p L k))).set 3 (.int .i64 0)
      have hm4 : Mod (fun j => j = w.heap.size + 1) wr _ := (((((Mod.refl (fun j => j = w.heap.size + 1) wr).set (p := ⟨w.heap.size + 1, 0, none⟩) rfl (.int .i64 (sI (byF nl p) L k))).set (p := ⟨w.heap.size + 1, 1, none⟩) rfl (.bool (mvA nl p L k))).set (p := ⟨w.heap.size + 1, 2, none⟩) rfl (.int .i64 (trA nl now p L k))).set (p := ⟨w.heap.size + 1, 3, none⟩) rfl (.int .i64 0))
      simp only [List.setIfInBounds_toArray, List.set_cons_zero, List.set_cons_succ] at H4
      exact bodyPost_ret (results_cell_row rfl _ _ (w.heap.size + 1) 69 _ (0, 0) _ rfl H4 Try.underlying69 rfl (by kernel_rfl)) rfl ⟨rfl, HI.out.bl.trans (hm4.below HI.out.bl.size (fun j hj => by omega))⟩
end
end Go.Proofs.Ytjceeckcfjjkkaa.Ob
