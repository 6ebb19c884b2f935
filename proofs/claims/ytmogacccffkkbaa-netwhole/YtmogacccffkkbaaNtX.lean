/-
  The document takes a packet out.
  Conditions: the network lies in memory, the packet is there.
-/
import Derived.Test.YtmogacccffkkbaaNtQ
namespace Go.Proofs.Ytmogacccffkkbaa.Nt
open Go.ChangeShapes Go.WideShapes Go.ChangeAt Go.RowKit
open Ba (hidden Only In Has own_ne own_stay own_len own_some own_mono cell_lt heap_lt)
set_option linter.unusedVariables false
theorem slr_to (g n cap : Nat) (j : Int) (h0 : 0 ≤ j) (h1 : j ≤ cap) (w : World) : (Instr.sliceAt 103 (.slice (some ⟨g, 0, none⟩) n cap) none (some (.int .i64 j)) none).run Try.prog w = .ok (.slice (some ⟨g, 0, none⟩) j.toNat cap) w := by
  simp [go_sem]
  intro hx
  exact absurd (hx h0) (by omega)
theorem slr_from (g n cap : Nat) (j : Int) (h0 : 0 ≤ j) (h1 : j ≤ n) (h2 : n ≤ cap) (w : World) : (Instr.sliceAt 103 (.slice (some ⟨g, 0, none⟩) n cap) (some (.int .i64 j)) none none).run Try.prog w = .ok (.slice (if cap = j.toNat then some ⟨g, 0, none⟩ else some ⟨g, j.toNat * 5, none⟩) (n - j.toNat) (cap - j.toNat)) w := by
  simp [go_sem]
  intro hx
  exact absurd (hx h0) (by omega)
theorem run_bsE (w : World) : (Instr.buildSlice 103 0 #[]).run Try.prog w = .ok (.slice (some ⟨w.heap.size, 0, none⟩) 0 0) (w.alloc (.cells #[] 109)) := by kernel_rfl
/-- packets of one row laid behind those of another -/
theorem app_qs {w : World} {base : Nat} {v : Value} {Y Z : List Pq} {ad : Addr} {c : Nat} (h : w.ownsRow base 109 5 v Y.length (qcs Y)) (hb : base ≤ w.heap.size) (hv : v.ownBlock ≠ none) (hl : Y.length + Z.length ≤ 100000) (hc : ∀ t u, (qcs Z)[t]? = some u → w.cell? (ad.add t) = some u) (ty : TypeId) :
    ∃ v' w2, (Builtin.append_ #[103, 103] ty #[v, .slice (some ad) Z.length c]).run Try.prog w = .ok v' w2 ∧ w2.ownsRow base 109 5 v' (Y ++ Z).length (qcs (Y ++ Z)) ∧ w.grownBy w2 v.ownBlock ∧ v'.ownBlock ≠ none := by
  obtain ⟨v', w2, hr, g1, g2, g3⟩ := Ba.append_at (P := Try.prog) (ty := ty) (m := Z.length) (c := c) (ad := ad) (news := qcs Z) Try.underlying103 info_rp rfl (by decide) h (qcs_len Z) hc (by
    intro u hu
    obtain ⟨q, _, hq⟩ := List.mem_flatMap.1 hu
    exact qc_one q u hq) (.inr hv) (by unfold maxLen; omega) (by omega) hb
  refine ⟨v', w2, hr, ?_, g2, ?_⟩
  · rw [List.length_append, show qcs (Y ++ Z) = qcs Y ++ qcs Z by unfold qcs; rw [List.flatMap_append]]
    exact g1
  · rcases g3 with e | e
    · rw [e]; exact hv
    · rw [e]; simp
theorem erase_map (Y : List Pq) (j : Nat) : (Y.eraseIdx j).map (·.1) = (Y.map (·.1)).eraseIdx j := by
  rw [List.eraseIdx_eq_take_drop_succ, List.eraseIdx_eq_take_drop_succ, List.map_append, List.map_take, List.map_drop]
theorem erase_map2 (Y : List Pq) (j : Nat) : (Y.eraseIdx j).map (·.2.1) = (Y.map (·.2.1)).eraseIdx j := by
  rw [List.eraseIdx_eq_take_drop_succ, List.eraseIdx_eq_take_drop_succ, List.map_append, List.map_take, List.map_drop]
/-- worlds while a row closes up -/
structure OuA (base : Nat) (W1 : World) (r : Nat) (rv ov : Value) (rb : Nat → Nat) (vs : Nat → Nat → Value) (X : Nat → Nat → List Pq) (S : St) (i e j : Nat) (k : Nat) (x : Value × Value) (w' : World) : Prop where
  bel : k ≤ 3 → Below W1.heap.size W1 w'
  h0 : k = 0 → w' = W1.drew
  h1 : k = 1 → w' = W1.drew.alloc (.cells #[] 109)
  h2 : k = 2 → w'.ownsRow W1.heap.size 109 5 x.1 ((X i e).take j).length (qcs ((X i e).take j)) ∧ x.1.ownBlock ≠ none
  h3 : k = 3 → w'.ownsRow W1.heap.size 109 5 x.2 ((X i e).eraseIdx j).length (qcs ((X i e).eraseIdx j))
  h4 : k = 4 → Ro base w' r rv ov rb (up2 vs i e x.2) (up2 X i e ((X i e).eraseIdx j)) (S.row i e ⟨(S.R i e).T, (S.R i e).L.eraseIdx j⟩) ∧ Kept (fun t => t == 105) base W1 w'
section
variable {base : Nat} {W1 w' : World} {r : Nat} {rv ov : Value} {rb : Nat → Nat} {vs : Nat → Nat → Value} {X : Nat → Nat → List Pq} {S : St} {i e j : Nat} {x : Value × Value}
theorem OuA.two (h : OuA base W1 r rv ov rb vs X S i e j 1 x w') {ad : Addr} {c m : Nat} (hc : ∀ w', Below W1.heap.size W1 w' → ∀ t u, (qcs ((X i e).take j))[t]? = some u → w'.cell? (ad.add t) = some u) (hm : ((X i e).take j).length = m ∧ (X i e).length ≤ 1000) (ty : TypeId) :
    ∃ v' w2, (Builtin.append_ #[103, 103] ty #[.slice (some ⟨W1.heap.size, 0, none⟩) 0 0, .slice (some ad) m c]).run Try.prog w' = .ok v' w2 ∧ OuA base W1 r rv ov rb vs X S i e j (1 + 1) (v', x.2) w2 := by
  have hB := h.bel (by decide)
  have hw := h.h1 rfl
  have hE : w'.ownsRow W1.heap.size 109 5 (.slice (some ⟨W1.heap.size, 0, none⟩) 0 0) ([] : List Pq).length (qcs []) := by
    rw [hw]; exact World.ownsRow_made W1.drew #[] 0 (Nat.le_refl _) (by unfold maxLen; omega) rfl
  obtain ⟨v', w2, hr, g1, g2, g3⟩ := app_qs (c := c) hE hB.size (by simp [Value.ownBlock]) (Z := (X i e).take j) (by rw [List.length_nil, List.length_take]; omega) (hc w' hB) ty
  rw [hm.1] at hr
  have hO : Only [W1.heap.size] w' w2 := Only.grown g2 (by intro k hk; simp [Value.ownBlock] at hk; simp [hk])
  exact ⟨v', w2, hr, fun _ => hB.trans (hO.below hB.size (by simp)), fun e => absurd e (by decide), fun e => absurd e (by decide), fun _ => ⟨g1, g3⟩, fun e => absurd e (by decide), fun e => absurd e (by decide)⟩
theorem OuA.three (h : OuA base W1 r rv ov rb vs X S i e j 2 x w') {ad : Addr} {c m : Nat} (hc : ∀ w', Below W1.heap.size W1 w' → ∀ t u, (qcs ((X i e).drop (j + 1)))[t]? = some u → w'.cell? (ad.add t) = some u) (hm : ((X i e).drop (j + 1)).length = m ∧ (X i e).length ≤ 1000) (hj : True) (ty : TypeId) :
    ∃ v' w2, (Builtin.append_ #[103, 103] ty #[x.1, .slice (some ad) m c]).run Try.prog w' = .ok v' w2 ∧ OuA base W1 r rv ov rb vs X S i e j (2 + 1) (x.1, v') w2 := by
  have hB := h.bel (by decide)
  obtain ⟨h1, h2⟩ := h.h2 rfl
  obtain ⟨v', w2, hr, g1, g2, g3⟩ := app_qs (c := c) h1 hB.size h2 (Z := (X i e).drop (j + 1)) (by rw [List.length_take, List.length_drop]; omega) (hc w' hB) ty
  rw [hm.1] at hr
  rw [← List.eraseIdx_eq_take_drop_succ] at g1
  have hO : Only x.1.ownBlock.toList w' w2 := Only.grown g2 (by intro k hk; simp [hk])
  exact ⟨v', w2, hr, fun _ => hB.trans (hO.below hB.size (fun k hk => (h1.lt k (by simpa using hk)).1)), fun e => absurd e (by decide), fun e => absurd e (by decide), fun e => absurd e (by decide), fun _ => g1, fun e => absurd e (by decide)⟩
theorem OuA.four (h : OuA base W1 r rv ov rb vs X S i e j 3 x w') (hR : Ro base W1 r rv ov rb vs X S) (hi : i < S.p) (he : e < 2) {gr : Nat} (hgr : gr = rb i ∧ base ≤ W1.heap.size) :
    (Instr.storeAt 103 (.pointer (some ⟨gr, e * 5, none⟩)) x.2).run Try.prog w' = .ok () (w'.setCell ⟨gr, e * 5, none⟩ x.2) ∧ OuA base W1 r rv ov rb vs X S i e j (3 + 1) x (w'.setCell ⟨gr, e * 5, none⟩ x.2) := by
  obtain ⟨rfl, hbase⟩ := hgr
  have hB := h.bel (by decide)
  have hown := h.h3 rfl
  have hown' : w'.ownsRow base 109 5 x.2 ((X i e).eraseIdx j).length (qcs ((X i e).eraseIdx j)) := own_mono hown (fun k hk => Nat.le_trans hbase (hown.lt k hk).1)
  have hsub : ∀ y ∈ (X i e).eraseIdx j, y ∈ X i e := fun y hy => List.mem_of_mem_eraseIdx hy
  obtain ⟨hF, hK⟩ := hR.turn hi he (w1 := w') (Only.of_below hB) (n0 := W1.heap.size) hown' (fun k hk => .inr (hown.lt k hk).1) hR.blt (by rw [erase_map2]; exact (List.eraseIdx_sublist _ _).nodup (hR.bn i e)) (fun y hy => .inl ⟨y, hsub y hy, rfl⟩) (fun y hy => hR.byt i e y (hsub y hy))
  rw [erase_map, hR.eq] at hF
  have hR3 := hR.later hB
  obtain ⟨cs, hcs⟩ := (hR3.row i hi).has
  have c4 := (hR3.row i hi).cell he 0 rfl
  rw [Nat.add_zero] at c4
  have f4 := hcs.frozen (e * 5)
  obtain ⟨a, cap, hx⟩ := own_len hown
  have hst : ∀ v a n cap, v = Value.slice a n cap → (Instr.storeAt 103 (.pointer (some ⟨rb i, e * 5, none⟩)) v).run Try.prog w' = .ok () (w'.setCell ⟨rb i, e * 5, none⟩ v) := fun v a n cap hv => by
    rw [hv]
    simp [go_sem, c4, f4]
  exact ⟨hst _ _ _ _ hx, fun e => absurd e (by decide), fun e => absurd e (by decide), fun e => absurd e (by decide), fun e => absurd e (by decide), fun e => absurd e (by decide), fun _ => ⟨hF, ((Kept.of_below hB).set (p := ⟨rb i, e * 5, none⟩) hcs rfl (hR.rbb i hi) _)⟩⟩
end
section
variable {base : Nat} {w w' w1 : World} {r : Nat} {rv ov : Value} {rb : Nat → Nat} {vs : Nat → Nat → Value} {X : Nat → Nat → List Pq} {S : St} {i e : Nat}
set_option maxHeartbeats 4000000 in
set_option maxRecDepth 20000 in
theorem rOut (h : Ro base w r rv ov rb vs X S) (hp8 : S.p ≤ 8) {en path j : Int} (hl : (S.R path.toNat en.toNat).L.length ≤ 1000) (hbase : base ≤ w.heap.size) (hE : trE S en path j = 0) {xq : Pq} (hxq : xq = (X path.toNat en.toNat).getD j.toNat zpq) :
    Calls Try.prog 49 #[.pointer (some ⟨r, 0, none⟩), .int .i64 en, .int .i64 path, .int .i64 j] w fun e' w' => e' = .returned (.slice (some ⟨xq.2.1, 0, none⟩) xq.1.bs.length xq.2.2) ∧ (∃ v', Ro base w' r rv ov rb (up2 vs path.toNat en.toNat v') (up2 X path.toNat en.toNat ((X path.toNat en.toNat).eraseIdx j.toNat)) (S.row path.toNat en.toNat ⟨(S.R path.toNat en.toNat).T, (S.R path.toNat en.toNat).L.eraseIdx j.toNat⟩)) ∧ Kept (fun t => t == 105) base w w' := by
  obtain ⟨hp, h0, hj⟩ := trE_iff.1 hE
  obtain ⟨⟨p1, p2⟩, p3, p4⟩ := ok_iff.1 hp
  obtain ⟨ga, acap, gr, n, a, cap, c0, c1, hgr, l1, l2, l3, hvs, hnn, d0, -⟩ := h.at hp
  have hjl : j.toNat < (S.R path.toNat en.toNat).L.length := by omega
  obtain ⟨y1, y2, y3, g, cap', ev, hg, hcap, hmax, k0, k1, k2, k3, k4⟩ := q_cells (h.eq path.toNat en.toNat) (h.own path.toNat en.toNat) hjl hxq
  rw [hvs, ← hnn] at ev
  cases ev
  have hXl : (X path.toNat en.toNat).length = n := by rw [h.len, hnn]
  have hown := h.own path.toNat en.toNat
  rw [hvs, hXl] at hown
  obtain ⟨A, hA⟩ : ∃ A : Addr, (if cap = (j + 1).toNat then some (⟨g, 0, none⟩ : Addr) else some ⟨g, (j + 1).toNat * 5, none⟩) = some A := by
    by_cases hq : cap = (j + 1).toNat
    · exact ⟨⟨g, 0, none⟩, by simp [hq]⟩
    · exact ⟨⟨g, (j + 1).toNat * 5, none⟩, by simp [hq]⟩
  have HSR : Hid (∀ w', Below w.heap.size w w' → ∀ t u, (qcs ((X path.toNat en.toNat).take j.toNat))[t]? = some u → w'.cell? ((⟨g, 0, none⟩ : Addr).add t) = some u) := fun w' hB t u hu => by
    have e3 : qcs ((X path.toNat en.toNat).take j.toNat) = (qcs (X path.toNat en.toNat)).take (j.toNat * 5) := (flat_take qc_len _ _).symm
    rw [e3, List.getElem?_take] at hu
    split at hu
    · next hlt =>
      rw [addr_add]
      exact (hB.cell (p := ⟨g, t, none⟩) hg).trans ((hown.cellAt t (by omega)).trans hu)
    · cases hu
  have HSD : Hid (∀ w', Below w.heap.size w w' → ∀ t u, (qcs ((X path.toNat en.toNat).drop (j.toNat + 1)))[t]? = some u → w'.cell? (A.add t) = some u) := fun w' hB t u hu => by
    by_cases hq : cap = (j + 1).toNat
    · have e0 : (X path.toNat en.toNat).drop (j.toNat + 1) = [] := List.drop_of_length_le (by omega)
      rw [e0] at hu
      simp [qcs] at hu
    · rw [if_neg hq] at hA
      cases hA
      have e3 : qcs ((X path.toNat en.toNat).drop (j.toNat + 1)) = (qcs (X path.toNat en.toNat)).drop ((j.toNat + 1) * 5) := (flat_drop qc_len _ _).symm
      rw [e3, List.getElem?_drop] at hu
      have hlt := (List.getElem?_eq_some_iff.1 hu).1
      rw [qcs_len, hXl] at hlt
      have ea : (⟨g, (j + 1).toNat * 5, none⟩ : Addr).add t = ⟨g, (j.toNat + 1) * 5 + t, none⟩ := by
        rw [Go.WideShapes.add_plain]
        congr 1
        omega
      rw [ea]
      exact (hB.cell (p := ⟨g, _, none⟩) hg).trans ((hown.cellAt _ hlt).trans hu)
  have HTL : Hid (((X path.toNat en.toNat).take j.toNat).length = j.toNat ∧ (X path.toNat en.toNat).length ≤ 1000) := ⟨by rw [List.length_take, hXl]; omega, by omega⟩
  have HDL : Hid (((X path.toNat en.toNat).drop (j.toNat + 1)).length = n - (j + 1).toNat ∧ (X path.toNat en.toNat).length ≤ 1000) := ⟨by rw [List.length_drop, hXl]; omega, by omega⟩
  have HTO : Hid (∀ w, (Instr.sliceAt 103 (.slice (some ⟨g, 0, none⟩) n cap) none (some (.int .i64 j)) none).run Try.prog w = .ok (.slice (some ⟨g, 0, none⟩) j.toNat cap) w) := fun w => slr_to g n cap j h0 (by omega) w
  have HFR : Hid (∀ w, (Instr.sliceAt 103 (.slice (some ⟨g, 0, none⟩) n cap) (some (.int .i64 (j + 1))) none none).run Try.prog w = .ok (.slice (some A) (n - (j + 1).toNat) (cap - (j + 1).toNat)) w) := fun w => by
    rw [slr_from g n cap (j + 1) (by omega) (by omega) (by omega) w, hA]
  have AD := hidden (add_run (a := j) (b := 1) (by omega) (by omega))
  have HNY : Hid True := trivial
  have HRO := hidden h
  have HI : Hid (path.toNat < S.p) := by unfold Hid; omega
  have HE : Hid (en.toNat < 2) := by unfold Hid; omega
  have HGE : Hid (gr = rb path.toNat ∧ base ≤ w.heap.size) := ⟨hgr, hbase⟩
  have HGR := hidden l2
  have HC4 := hidden d0
  obtain ⟨W1, hW1⟩ : ∃ W1, W1 = w := ⟨_, rfl⟩
  have hnl : (n : Int) ≤ 1000 := by omega
  have hjn : j < (n : Int) := by omega
  obtain ⟨bl, hbl⟩ : ∃ bl, bl = xq.1.bs.length := ⟨_, rfl⟩
  rw [← hbl] at k4 ⊢
  clear h hp hE hgr hvs hnn hl hjl y1 y2 y3 hown hA hXl hxq hbl hj
  subst hW1
  go_enter Try.func49, Try.ntmps49
  go_upto_region 3 with fail
  refine Ord.wp_region_ex0 (X := Value × Value) (by kernel_rfl) 48 (fun x => [(some 28, .pointer (some ⟨gr, en.toNat * 5, none⟩)), (some 29, .slice (some ⟨W1.heap.size, 0, none⟩) 0 0), (some 30, .pointer (some ⟨gr, en.toNat * 5, none⟩)), (some 31, .pointer (some ⟨gr, en.toNat * 5, none⟩)), (some 32, .pointer (some ⟨gr, en.toNat * 5, none⟩)), (some 33, .slice (some ⟨g, 0, none⟩) n cap), (some 34, .int .i64 j), (some 35, .slice (some ⟨g, 0, none⟩) j.toNat cap), (some 36, x.1), (some 37, .pointer (some ⟨gr, en.toNat * 5, none⟩)), (some 38, .pointer (some ⟨gr, en.toNat * 5, none⟩)), (some 39, .pointer (some ⟨gr, en.toNat * 5, none⟩)), (some 40, .slice (some ⟨g, 0, none⟩) n cap), (some 41, .int .i64 j), (some 42, .int .i64 (j + 1)), (some 43, .slice (some A) (n - (j + 1).toNat) (cap - (j + 1).toNat)), (some 44, x.2), (some 45, .pointer (some ⟨gr, en.toNat * 5, none⟩)), (some 46, .pointer (some ⟨gr, en.toNat * 5, none⟩)), (none, undef)]) [some 28, some 29, some 30, some 31, some 32, some 33, some 34, some 35, some 36, some 37, some 38, some 39, some 40, some 41, some 42, some 43, some 44, some 45, some 46, none] rfl (fun listed hsz hr => Ord.all_listedC (rank := [0, 1, 2, 3, 4, 5, 6, 7, 8, 9, 10, 11, 12, 13, 14, 15, 16, 17, 18, 19]) (by kernel_rfl) hsz hr) (by rfl) (fun _ => rfl) (by kernel_rfl) (Rg.StM [1, 8, 16, 19] (fun k x w' => OuA base W1 r rv ov rb vs X S path.toNat en.toNat j.toNat k x w')) (fun _ _ _ _ hL h => h.ext (n := 20) (by decide) hL) ?_ ?_ (undef, undef) ?_
  case refine_1 =>
    intro x Lq iq oq ac w' ho hi hcl hdep hF hW
    have f1 : ac.tmps.size = 48 := hF.1
    match iq, ho, hi, hdep with
    | 0, ho, hi, hdep =>
      cases ho
      have da0 : ac.eval (.tmp 9) = .pointer (some ⟨gr, en.toNat * 5, none⟩) := hF.old 9 rfl
      exact Ord.ex_value x rfl rfl (Rg.mv da0 rfl) rfl (hW.keep (by decide))
    | 1, ho, hi, hdep =>
      cases ho
      have hA := hW.at (k := 0) rfl hi (.inl rfl)
      have hw := hA.h0 rfl
      subst hw
      exact Ord.ex_value x rfl rfl (Rg.bsl rfl (by simp) (run_bsE _)) rfl (hW.next (k := 0) rfl (by decide) hi (.inl rfl) ⟨fun _ => (hA.bel (by decide)).alloc (by simp) _, (fun e => absurd e (by decide)), fun _ => rfl, (fun e => absurd e (by decide)), (fun e => absurd e (by decide)), (fun e => absurd e (by decide))⟩)
    | 2, ho, hi, hdep =>
      cases ho
      have da0 : ac.eval (.tmp 9) = .pointer (some ⟨gr, en.toNat * 5, none⟩) := hF.old 9 rfl
      exact Ord.ex_value x rfl rfl (Rg.mv da0 rfl) rfl (hW.keep (by decide))
    | 3, ho, hi, hdep =>
      cases ho
      have da0 : ac.eval (.tmp 30) = .pointer (some ⟨gr, en.toNat * 5, none⟩) := hF.2.2.2 2 30 _ rfl (hdep ⟨2, .data⟩ (by simp) rfl)
      exact Ord.ex_value x rfl rfl (Rg.nilc da0 rfl) rfl (hW.keep (by decide))
    | 4, ho, hi, hdep =>
      cases ho
      have da0 : ac.eval (.tmp 31) = .pointer (some ⟨gr, en.toNat * 5, none⟩) := hF.2.2.2 3 31 _ rfl (hdep ⟨3, .data⟩ (by simp) rfl)
      exact Ord.ex_value x rfl rfl (Rg.fa da0 rfl (by simp [go_sem])) rfl (hW.keep (by decide))
    | 5, ho, hi, hdep =>
      cases ho
      have da0 : ac.eval (.tmp 32) = .pointer (some ⟨gr, en.toNat * 5, none⟩) := hF.2.2.2 4 32 _ rfl (hdep ⟨4, .data⟩ (by simp) rfl)
      obtain ⟨kq, hlo, hhi, hA⟩ := hW.range 0 1 (.inl rfl) (.inr ⟨8, rfl, (Rg.no_of (fun h => hcl 7 _ rfl (hcl 8 _ rfl (h) ⟨7, .data⟩ (by simp) rfl) ⟨5, .data⟩ (by simp) rfl) hi)⟩)
      exact Ord.ex_value x rfl rfl (Rg.load da0 rfl (by have hc := ((hA.bel (by omega)).cell (p := ⟨gr, en.toNat * 5, none⟩) HGR.out).trans HC4.out; simp [go_sem, hc])) rfl (hW.keep (by decide))
    | 6, ho, hi, hdep =>
      cases ho
      have da0 : ac.eval (.tmp 3) = .int .i64 j := hF.old 3 rfl
      exact Ord.ex_value x rfl rfl (Rg.mv da0 rfl) rfl (hW.keep (by decide))
    | 7, ho, hi, hdep =>
      cases ho
      have da0 : ac.eval (.tmp 33) = .slice (some ⟨g, 0, none⟩) n cap := hF.2.2.2 5 33 _ rfl (hdep ⟨5, .data⟩ (by simp) rfl)
      have da1 : ac.eval (.tmp 34) = .int .i64 j := hF.2.2.2 6 34 _ rfl (hdep ⟨6, .data⟩ (by simp) rfl)
      exact Ord.ex_value x rfl rfl (Rg.slc (lo := none) (hi := some (.tmp 34)) (mx := none) da0 rfl (congrArg some da1) rfl rfl (HTO.out _)) rfl (hW.keep (by decide))
    | 8, ho, hi, hdep =>
      cases ho
      have da0 : ac.eval (.tmp 29) = .slice (some ⟨W1.heap.size, 0, none⟩) 0 0 := hF.2.2.2 1 29 _ rfl (hdep ⟨1, .data⟩ (by simp) rfl)
      have da1 : ac.eval (.tmp 35) = .slice (some ⟨g, 0, none⟩) j.toNat cap := hF.2.2.2 7 35 _ rfl (hdep ⟨7, .data⟩ (by simp) rfl)
      have hA := hW.at (k := 1) rfl hi (.inr ⟨1, rfl, (hdep ⟨1, .data⟩ (by simp) rfl)⟩)
      obtain ⟨v', w2, hr, hA2⟩ := hA.two HSR.out HTL.out 103
      exact Ord.ex_letter x (v', x.2) rfl rfl (Rg.app da0 da1 rfl hr) rfl (fun j hj => match j, hj with | 0, _ => rfl | 1, _ => rfl | 2, _ => rfl | 3, _ => rfl | 4, _ => rfl | 5, _ => rfl | 6, _ => rfl | 7, _ => rfl | 8, hj => absurd hj (by rw [hi]; decide) | 9, _ => rfl | 10, _ => rfl | 11, _ => rfl | 12, _ => rfl | 13, _ => rfl | 14, _ => rfl | 15, _ => rfl | 16, _ => rfl | 17, _ => rfl | 18, _ => rfl | 19, _ => rfl | _ + 20, _ => rfl) (hW.next (k := 1) rfl (by decide) hi (.inr ⟨1, rfl, (hdep ⟨1, .data⟩ (by simp) rfl)⟩) hA2)
    | 9, ho, hi, hdep =>
      cases ho
      have da0 : ac.eval (.tmp 9) = .pointer (some ⟨gr, en.toNat * 5, none⟩) := hF.old 9 rfl
      exact Ord.ex_value x rfl rfl (Rg.mv da0 rfl) rfl (hW.keep (by decide))
    | 10, ho, hi, hdep =>
      cases ho
      have da0 : ac.eval (.tmp 37) = .pointer (some ⟨gr, en.toNat * 5, none⟩) := hF.2.2.2 9 37 _ rfl (hdep ⟨9, .data⟩ (by simp) rfl)
      exact Ord.ex_value x rfl rfl (Rg.nilc da0 rfl) rfl (hW.keep (by decide))
    | 11, ho, hi, hdep =>
      cases ho
      have da0 : ac.eval (.tmp 38) = .pointer (some ⟨gr, en.toNat * 5, none⟩) := hF.2.2.2 10 38 _ rfl (hdep ⟨10, .data⟩ (by simp) rfl)
      exact Ord.ex_value x rfl rfl (Rg.fa da0 rfl (by simp [go_sem])) rfl (hW.keep (by decide))
    | 12, ho, hi, hdep =>
      cases ho
      have da0 : ac.eval (.tmp 39) = .pointer (some ⟨gr, en.toNat * 5, none⟩) := hF.2.2.2 11 39 _ rfl (hdep ⟨11, .data⟩ (by simp) rfl)
      obtain ⟨kq, hlo, hhi, hA⟩ := hW.range 0 2 (.inl rfl) (.inr ⟨16, rfl, (Rg.no_of (fun h => hcl 15 _ rfl (hcl 16 _ rfl (h) ⟨15, .data⟩ (by simp) rfl) ⟨12, .data⟩ (by simp) rfl) hi)⟩)
      exact Ord.ex_value x rfl rfl (Rg.load da0 rfl (by have hc := ((hA.bel (by omega)).cell (p := ⟨gr, en.toNat * 5, none⟩) HGR.out).trans HC4.out; simp [go_sem, hc])) rfl (hW.keep (by decide))
    | 13, ho, hi, hdep =>
      cases ho
      have da0 : ac.eval (.tmp 3) = .int .i64 j := hF.old 3 rfl
      exact Ord.ex_value x rfl rfl (Rg.mv da0 rfl) rfl (hW.keep (by decide))
    | 14, ho, hi, hdep =>
      cases ho
      have da0 : ac.eval (.tmp 41) = .int .i64 j := hF.2.2.2 13 41 _ rfl (hdep ⟨13, .data⟩ (by simp) rfl)
      exact Ord.ex_value x rfl rfl (Rg.bin da0 rfl rfl (AD.out _ _ _)) rfl (hW.keep (by decide))
    | 15, ho, hi, hdep =>
      cases ho
      have da0 : ac.eval (.tmp 40) = .slice (some ⟨g, 0, none⟩) n cap := hF.2.2.2 12 40 _ rfl (hdep ⟨12, .data⟩ (by simp) rfl)
      have da1 : ac.eval (.tmp 42) = .int .i64 (j + 1) := hF.2.2.2 14 42 _ rfl (hdep ⟨14, .data⟩ (by simp) rfl)
      exact Ord.ex_value x rfl rfl (Rg.slc (lo := some (.tmp 42)) (hi := none) (mx := none) da0 (congrArg some da1) rfl rfl rfl (HFR.out _)) rfl (hW.keep (by decide))
    | 16, ho, hi, hdep =>
      cases ho
      have da0 : ac.eval (.tmp 36) = x.1 := hF.2.2.2 8 36 _ rfl (hdep ⟨8, .data⟩ (by simp) rfl)
      have da1 : ac.eval (.tmp 43) = .slice (some A) (n - (j + 1).toNat) (cap - (j + 1).toNat) := hF.2.2.2 15 43 _ rfl (hdep ⟨15, .data⟩ (by simp) rfl)
      have hA := hW.at (k := 2) rfl hi (.inr ⟨8, rfl, (hdep ⟨8, .data⟩ (by simp) rfl)⟩)
      obtain ⟨v', w2, hr, hA2⟩ := hA.three HSD.out HDL.out HNY.out 103
      exact Ord.ex_letter x (x.1, v') rfl rfl (Rg.app da0 da1 rfl hr) rfl (fun j hj => match j, hj with | 0, _ => rfl | 1, _ => rfl | 2, _ => rfl | 3, _ => rfl | 4, _ => rfl | 5, _ => rfl | 6, _ => rfl | 7, _ => rfl | 8, _ => rfl | 9, _ => rfl | 10, _ => rfl | 11, _ => rfl | 12, _ => rfl | 13, _ => rfl | 14, _ => rfl | 15, _ => rfl | 16, hj => absurd hj (by rw [hi]; decide) | 17, _ => rfl | 18, _ => rfl | 19, _ => rfl | _ + 20, _ => rfl) (hW.next (k := 2) rfl (by decide) hi (.inr ⟨8, rfl, (hdep ⟨8, .data⟩ (by simp) rfl)⟩) hA2)
    | 17, ho, hi, hdep =>
      cases ho
      have da0 : ac.eval (.tmp 28) = .pointer (some ⟨gr, en.toNat * 5, none⟩) := hF.2.2.2 0 28 _ rfl (hdep ⟨0, .data⟩ (by simp) rfl)
      exact Ord.ex_value x rfl rfl (Rg.nilc da0 rfl) rfl (hW.keep (by decide))
    | 18, ho, hi, hdep =>
      cases ho
      have da0 : ac.eval (.tmp 45) = .pointer (some ⟨gr, en.toNat * 5, none⟩) := hF.2.2.2 17 45 _ rfl (hdep ⟨17, .data⟩ (by simp) rfl)
      exact Ord.ex_value x rfl rfl (Rg.fa da0 rfl (by simp [go_sem])) rfl (hW.keep (by decide))
    | 19, ho, hi, hdep =>
      cases ho
      have da0 : ac.eval (.tmp 46) = .pointer (some ⟨gr, en.toNat * 5, none⟩) := hF.2.2.2 18 46 _ rfl (hdep ⟨18, .data⟩ (by simp) rfl)
      have da1 : ac.eval (.tmp 44) = x.2 := hF.2.2.2 16 44 _ rfl (hdep ⟨16, .data⟩ (by simp) rfl)
      have hA := hW.at (k := 3) rfl hi (.inr ⟨16, rfl, (hdep ⟨16, .data⟩ (by simp) rfl)⟩)
      obtain ⟨hr, hA2⟩ := hA.four HRO.out HI.out HE.out HGE.out
      exact Rg.ex_skip x rfl rfl (Rg.sto da0 da1 rfl hr) rfl (hW.next (k := 3) rfl (by decide) hi (.inr ⟨16, rfl, (hdep ⟨16, .data⟩ (by simp) rfl)⟩) hA2)
  case refine_3 => exact Rg.StM.first ⟨fun _ => (Below.refl _ _).drew, fun _ => rfl, fun e => absurd e (by decide), fun e => absurd e (by decide), fun e => absurd e (by decide), fun e => absurd e (by decide)⟩
  case refine_2 =>
    intro x w2 hW
    obtain ⟨f1, f2⟩ := hW.last.h4 rfl
    have F1 := hidden f1
    have F2 := hidden f2
    clear hW f1 f2
    simp only [Ord.puts, Ord.prs]
    go_simp
    go_wp2
    go_ret
    exact ⟨rfl, ⟨_, F1.out⟩, F2.out⟩
end
end Go.Proofs.Ytmogacccffkkbaa.Nt
