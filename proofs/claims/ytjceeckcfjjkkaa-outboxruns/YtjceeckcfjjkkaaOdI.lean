/-
  The document's box: what is marked.
  Conditions: the box lies in memory.
-/
import Derived.Test.YtjceeckcfjjkkaaOdF
namespace Go.Proofs.Ytjceeckcfjjkkaa.Ob
open Go.ChangeShapes Go.WideShapes Go.ChangeAt Go.RowKit
open Ba (hidden Has cell_lt heap_lt)
set_option linter.unusedVariables false
/-- what is told of what is marked -/
def MaE (D : Nat → Prop) (w w' : World) (L : List Ch) (e : Ending) : Prop := ∃ u b, e = .returned (.tuple #[.int .i64 (Ob.mk L), u, .bool b]) ∧ ToR D w w' (fun x => x.st = 2) L u b ∧ Below w.heap.size w w'
/-- while it is looked for: the first so far -/
def MaI (D : Nat → Prop) (w : World) (L : List Ch) (k : Nat) (y : Ch) (u : Value) (ok : Bool) : Prop :=
  (ok = false ∧ y = zC ∧ u = .slice none 0 0 ∧ ∀ (j : Nat) (x : Ch), j < k → L[j]? = some x → x.st ≠ 2) ∨ (ok = true ∧ ∃ i, i < k ∧ Fst (fun x => x.st = 2) L i y ∧ By D w u y.p.d)
section
variable {D F G Q : Nat → Prop} {w w' : World} {r : Nat} {v : Value} {P : List CV} {n : Nat} {c : Int} {q : Rq} {L : List Ch} {i g o k : Nat} {x y : Ch} {u : Value} {ok : Bool} {gs : List (Int × Int)}
theorem MaI.stay (h : MaI D w L k y u ok) (hm : Mod F w w') (hF : ∀ j cur, D j → Has w j cur 5 → ¬ F j) : MaI D w' L k y u ok := by
  rcases h with h | ⟨h1, i, h2, h3, h4⟩
  · exact .inl h
  · exact .inr ⟨h1, i, h2, h3, h4.stay hm hF⟩
theorem MaI.skip (h : MaI D w L k y u ok) (hx : L[k]? = some x) (hn : ok = false → x.st ≠ 2) : MaI D w L (k + 1) y u ok := by
  rcases h with ⟨h1, h2, h3, h4⟩ | ⟨h1, i, h2, h3, h4⟩
  · refine .inl ⟨h1, h2, h3, fun j z hj hz => ?_⟩
    rcases Nat.lt_or_ge j k with e | e
    · exact h4 j z e hz
    · obtain rfl : j = k := by omega
      rw [hx] at hz
      cases hz
      exact hn h1
  · exact .inr ⟨h1, i, by omega, h3, h4⟩
theorem MaI.come (h : MaI D w L k y u false) (hx : L[k]? = some x) (hs : x.st = 2) {u' : Value} (hb : By D w' u' x.p.d) : MaI D w' L (k + 1) x u' true := by
  rcases h with ⟨_, _, _, h4⟩ | ⟨h1, _⟩
  · exact .inr ⟨rfl, k, by omega, ⟨hx, hs, fun j z hj hz => h4 j z hj hz⟩, hb⟩
  · cases h1
theorem Lk.partm (hk : Lk n L) (k : Nat) : 0 ≤ sm mkF (L.take k) ∧ sm mkF (L.take k) ≤ 65601536 := by
  have h0 := hk.mk
  have h1 := sm_mono (M := []) (L := L) (f := mkF) (fun x _ => mkF_nn x) k
  have h2 := (sm_bound (f := mkF) (B := 65536) (L.take k) (fun x hx => ⟨mkF_nn x, by have := (hk.2 x (List.mem_of_mem_take hx)).1; have := mkF_le x; unfold sz at this; omega⟩)).1
  unfold Ob.mk at h0
  omega
set_option maxRecDepth 8000 in
set_option maxHeartbeats 4000000 in
theorem r_marked (h : Ro D w r v P n c L) (hk : Lk n L) : Calls Try.prog 35 #[.pointer (some ⟨r, 0, none⟩)] w fun e w' => MaE D w w' L e := by
  have HP := hidden hk.partm
  have HH := hidden h
  obtain ⟨aa, ca, hv, _⟩ := h.rw_.slice
  rw [h.len] at hv
  obtain ⟨z, hz⟩ : ∃ z, z = L.length := ⟨_, rfl⟩
  have HZ := hidden hz
  rw [← hz] at hv
  have hz1 : z ≤ 1001 := by rw [hz]; exact hk.1
  have HV := hidden hv
  obtain ⟨W0, hW0⟩ : ∃ W0, W0 = (w.alloc (.cells zO 59)).alloc (.cells zO 59) := ⟨_, rfl⟩
  have hO0 : Ow.Own w W0 [(w.heap.size + 1, zO, 59), (w.heap.size, zO, 59)] := by
    have := ((Ow.Own.refl w).alloc zO 59).alloc zO 59
    simp only [World.size_alloc] at this
    rw [hW0]
    exact this
  have k6 := hO0.has (b := w.heap.size + 1) (List.mem_cons_self ..)
  have k3 := hO0.has (b := w.heap.size) (List.mem_cons_of_mem _ (List.mem_cons_self ..))
  have hI0 : Hid (Below w.heap.size w W0 ∧ Has W0 (w.heap.size + 1) (oc zC (.slice none 0 0)) 59 ∧ Has W0 w.heap.size zO 59 ∧ MaI D W0 L 0 zC (.slice none 0 0) false) :=
    ⟨hO0.below, k6, k3, .inl ⟨rfl, rfl, rfl, fun j x hj => absurd hj (Nat.not_lt_zero _)⟩⟩
  unfold zO at hW0
  have HW0 := hidden hW0
  clear h hk hv hz hW0 hO0 k6 k3
  go_enter Try.func35, Try.ntmps35
  go_upto_region 1 with fail
  go_upto_region 2 with fail
  rw [← HW0.out]
  go_wp2_with fail
  go_loopw [5, 7, 8] (fun d b d' X => ∃ (k : Nat) (y : Ch) (u : Value) (ok : Bool), d = .int .i64 (sm mkF (L.take k)) ∧ b = .bool ok ∧ d' = .int .i64 (k : Int) ∧ k ≤ z ∧ Hid (Below w.heap.size w X ∧ Has X (w.heap.size + 1) (oc y u) 59 ∧ Has X w.heap.size zO 59 ∧ MaI D X L k y u ok)) (fun d b d' X => z - (intOf d').toNat)
  case atStart => exact ⟨0, zC, .slice none 0 0, false, rfl, rfl, rfl, Nat.zero_le _, hI0.out⟩
  case round =>
    obtain ⟨k, y, u, ok, rfl, rfl, rfl, hkz, HI⟩ := hrel
    have hR := HH.out.later HI.out.1
    have c2 := hR.q.cell 2 rfl
    rw [HV.out] at c2
    have hwk : IntKind.i64.wrap ((k : Int) + 1) = (k : Int) + 1 := by rw [IntKind.wrap_i64]; omega
    by_cases hlt : (k : Int) < (z : Int)
    · obtain ⟨x, hx⟩ : ∃ x, L[k]? = some x := ⟨_, List.getElem?_eq_getElem (by rw [← HZ.out]; omega)⟩
      obtain ⟨g, oo, cap, a1, c1, e, hc, hb, hf⟩ := hR.open hx
      rw [HV.out, ← HZ.out] at e
      cases e
      obtain ⟨m0, m1, m2, m3, m4, m5, m6, m7, m8, m9, m10, m11, m12, m13⟩ := hc.all14
      have hs := sm_take (f := mkF) hx
      have hb1 := HP.out k
      have hb2 := HP.out (k + 1)
      rw [hs] at hb2
      have HSM := hidden hs
      have HX := hidden hx
      have HBY := hidden hb
      have HC := hidden hc
      clear hc hb hf hx hs
      generalize sm mkF (L.take k) = A at *
      by_cases h1 : x.st = 2
      · have h1b : (x.st == 2) = true := by simp [h1]
        have HF : mkF x = sz x := by unfold mkF; rw [if_pos h1]
        rw [HF] at hb2 HSM
        have hwa : IntKind.i64.wrap (A + sz x) = A + sz x := by rw [IntKind.wrap_i64]; omega
        have H1 := hidden h1
        have SZ := hidden (r_size x (u := .slice (some a1) x.p.d.length c1) ⟨_, _, rfl⟩ wr)
        clear HF h1
        go_wp2_with fail
        clear m0 m1 m2 m3 m4 m5 m6 m7 m8 m9 m10 m11 m12 m13 c2
        refine Calls.mono SZ.out ?_
        rintro e X2 ⟨rfl, hB⟩
        have hI2 : Below w.heap.size w X2 ∧ Has X2 (w.heap.size + 1) (oc y u) 59 ∧ Has X2 w.heap.size zO 59 ∧ MaI D X2 L k y u ok := ⟨HI.out.1.trans (hB.mono HI.out.1.size), HI.out.2.1.later hB, HI.out.2.2.1.later hB, HI.out.2.2.2.stay (Mod.of_below (F := fun j => wr.heap.size ≤ j) hB) (fun j cur _ hh e => by have := hh.lt; omega)⟩
        have HI2 := hidden hI2
        cases ok with
        | true =>
          clear hI2
          go_wp2
          go_roundw
          case rel => exact ⟨k + 1, y, u, true, by rw [HSM.out], rfl, by simp, by omega, HI2.out.1, HI2.out.2.1, HI2.out.2.2.1, HI2.out.2.2.2.skip HX.out (fun e => by cases e)⟩
          case measure => simp only [intOf]; omega
        | false =>
          have hR2 := HH.out.later hI2.1
          have c2 := hR2.q.cell 2 rfl
          rw [HV.out] at c2
          obtain ⟨g3, o3, c3, a3, d3, e3, hc3, hb3, _⟩ := hR2.open HX.out
          rw [HV.out, ← HZ.out] at e3
          cases e3
          have hcx : Cells X2 g (oo + k * 14) ⟨x, .slice (some a1) x.p.d.length c1⟩ := fun j t ht => by
            have h0 := HC.out j t ht
            exact (hB.cell (p := ⟨g, oo + k * 14 + j, none⟩) (cell_lt h0)).trans h0
          obtain ⟨m0, m1, m2, m3, m4, m5, m6, m7, m8, m9, m10, m11, m12, m13⟩ := hcx.all14
          have hN6 := hI2.2.1
          unfold oc at hN6
          obtain ⟨z0, z1, z2, z3, z4, z5, z6, z7, z8, z9, z10, z11, z12, z13⟩ := cells14 hN6
          have hfz := hN6.frozen
          have HBY2 := hidden (HBY.out.stay (Mod.of_below (F := fun j => wr.heap.size ≤ j) hB) (fun j cur _ hh e => by have := hh.lt; omega))
          have HN6 := hidden hN6
          clear hI2 hR2 hc3 hb3 hcx hN6 hB
          go_wp2
          have S14 := set14 (v0 := .int .u32 x.ts) (v1 := .int .i64 x.pa) (v2 := .int .i64 x.ti) (v3 := .int .i64 x.se) (v4 := .int .i64 x.mi) (v5 := .bool x.qu) (v6 := .int .i64 x.st) (v7 := .int .u16 x.p.sm) (v8 := .int .u16 x.p.sn) (v9 := .int .u32 x.p.pr) (v10 := .bool x.p.un) (v11 := .slice (some a1) x.p.d.length c1) (v12 := .bool x.p.bg) (v13 := .bool x.p.en) HN6.out
          go_roundw
          case rel => exact ⟨k + 1, x, .slice (some a1) x.p.d.length c1, true, by rw [HSM.out], rfl, by simp, by omega, HI2.out.1.trans (S14.2.below HI2.out.1.size (fun j hj => by omega)), S14.1, S14.2.has HI2.out.2.2.1 (fun e => by omega), HI2.out.2.2.2.come HX.out H1.out (HBY2.out.stay S14.2 (fun j cur _ hh e => by subst e; exact hh.ne HN6.out (by decide) rfl))⟩
          case measure => simp only [intOf]; omega
      · have h1b : (x.st == 2) = false := by simp [h1]
        have HF : mkF x = 0 := by unfold mkF; rw [if_neg h1]
        rw [HF] at hb2 HSM
        have H1 := hidden h1
        clear HF h1
        go_wp2
        go_roundw
        case rel => exact ⟨k + 1, y, u, ok, by rw [HSM.out, Int.add_zero], rfl, by simp, by omega, HI.out.1, HI.out.2.1, HI.out.2.2.1, HI.out.2.2.2.skip HX.out (fun _ => H1.out)⟩
        case measure => simp only [intOf]; omega
    · obtain rfl : k = z := by omega
      have hnl : ¬ ((k : Int) < (k : Int)) := by omega
      have HE : Hid (sm mkF (L.take k) = Ob.mk L) := by show _ = _; rw [HZ.out, List.take_length]; rfl
      have HRR := hidden hR
      clear hR
      have hus : ∃ a l c, u = .slice a l c := by
        rcases HI.out.2.2.2 with ⟨_, _, e, _⟩ | ⟨_, i, _, _, hb⟩
        · exact ⟨_, _, _, e⟩
        · obtain ⟨g1, off, c1, e, _⟩ := hb.row
          exact ⟨_, _, _, e⟩
      go_upto_region 9 with fail
      obtain ⟨W, hW⟩ : ∃ W, W = wr := ⟨_, rfl⟩
      rw [← hW] at HI ⊢
      obtain ⟨b3, hb3⟩ : ∃ b, b = w.heap.size := ⟨_, rfl⟩
      obtain ⟨b6, hb6⟩ : ∃ b, b = w.heap.size + 1 := ⟨_, rfl⟩
      have k6 : Has W.drew b6 (oc y u) 59 := by rw [hb6]; exact HI.out.2.1
      have k3 : Has W.drew b3 zO 59 := by rw [hb3]; exact HI.out.2.2.1
      obtain ⟨s1, s2, s3⟩ := store_chunk (y := y) (v := u) k3 rfl hus
      obtain ⟨W1, hW1⟩ : ∃ W1, W1 = W.drew.setRow b3 (oc y u) := ⟨_, rfl⟩
      rw [← hW1] at s1 s2 s3
      have HST := hidden s1
      have HS2 := hidden s2
      have HS3 := hidden s3
      have HLD : Hid ((Instr.loadAt 59 (.pointer (some ⟨b6, 0, none⟩))).run Try.prog W.drew = .ok (ov y u) W.drew) := by
        unfold oc at k6
        obtain ⟨e0, e1, e2, e3, e4, e5, e6, e7, e8, e9, e10, e11, e12, e13⟩ := cells14 k6
        show _ = _
        simp [go_sem, e0, e1, e2, e3, e4, e5, e6, e7, e8, e9, e10, e11, e12, e13, ov]
      have HB3 := hidden hb3
      have HB6 := hidden hb6
      have HKZ : Hid (k = L.length) := HZ.out
      obtain ⟨A, hA⟩ : ∃ A, A = sm mkF (L.take k) := ⟨_, rfl⟩
      have HAE : Hid (A = Ob.mk L) := by show _ = _; rw [hA]; exact HE.out
      rw [← hA, ← hb6, ← hb3]
      clear k6 k3 s1 s2 s3 hW1 hb3 hb6 hA hus HE hW
      refine Ord.wp_region_ex0 (X := Unit) (by kernel_rfl) 50 (fun x => [(some 47, .int .i64 A), (some 48, ov y u), (some 49, .bool ok), (some 2, .int .i64 A), (none, undef), (some 4, .bool ok)]) [some 47, some 48, some 49, some 2, none, some 4] rfl (fun listed hsz hr => Ord.all_listedC (rank := [0, 1, 2, 3, 4, 5]) (by kernel_rfl) hsz hr) (by rfl) (fun _ => rfl) (by kernel_rfl) (Rg.StM [4] (fun k _ w' => (k = 0 → w' = W.drew) ∧ (k = 1 → w' = W1))) (fun _ _ _ _ hL h => h.ext (n := 6) (by decide) hL) ?_ ?_ () ?_
      case refine_1 =>
        intro x Lq iq oq ac w' ho hi hcl hdep hF hW
        have f1 : ac.tmps.size = 50 := hF.1
        match iq, ho, hi, hdep with
        | 0, ho, hi, hdep =>
          cases ho
          have da0 : ac.eval (.tmp 5) = .int .i64 A := hF.old 5 rfl
          exact Ord.ex_value x rfl rfl (Rg.mv da0 rfl) rfl (hW.keep (by decide))
        | 1, ho, hi, hdep =>
          cases ho
          have da0 : ac.eval (.tmp 6) = .pointer (some ⟨b6, 0, none⟩) := hF.old 6 rfl
          obtain ⟨kq, hlo, hhi, hA⟩ := hW.range 0 0 (.inl rfl) (.inr ⟨4, rfl, (Rg.no_of (fun h => hcl 4 _ rfl (h) ⟨1, .data⟩ (by simp) rfl) hi)⟩)
          exact Ord.ex_value x rfl rfl (Rg.load da0 rfl (by rw [hA.1 (by omega)]; exact HLD.out)) rfl (hW.keep (by decide))
        | 2, ho, hi, hdep =>
          cases ho
          have da0 : ac.eval (.tmp 7) = .bool ok := hF.old 7 rfl
          exact Ord.ex_value x rfl rfl (Rg.mv da0 rfl) rfl (hW.keep (by decide))
        | 3, ho, hi, hdep =>
          cases ho
          have da0 : ac.eval (.tmp 47) = .int .i64 A := hF.2.2.2 0 47 _ rfl (hdep ⟨0, .data⟩ (by simp) rfl)
          exact Ord.ex_value x rfl rfl (Rg.asg da0 rfl) rfl (hW.keep (by decide))
        | 4, ho, hi, hdep =>
          cases ho
          have da0 : ac.eval (.tmp 3) = .pointer (some ⟨b3, 0, none⟩) := hF.old 3 rfl
          have da1 : ac.eval (.tmp 48) = ov y u := hF.2.2.2 1 48 _ rfl (hdep ⟨1, .data⟩ (by simp) rfl)
          have hA := hW.at (k := 0) rfl hi (.inl rfl)
          have hw := hA.1 rfl
          subst hw
          exact Rg.ex_skip x rfl rfl (Rg.sto da0 da1 rfl HST.out) rfl (hW.next (k := 0) rfl (by decide) hi (.inl rfl) ⟨fun e => absurd e (by decide), fun _ => rfl⟩)
        | 5, ho, hi, hdep =>
          cases ho
          have da0 : ac.eval (.tmp 49) = .bool ok := hF.2.2.2 2 49 _ rfl (hdep ⟨2, .data⟩ (by simp) rfl)
          exact Ord.ex_value x rfl rfl (Rg.asg da0 rfl) rfl (hW.keep (by decide))
      case refine_3 => exact Rg.StM.first ⟨fun _ => rfl, fun e => absurd e (by decide)⟩
      case refine_2 =>
        intro _ W2 hW2
        have hw2 := hW2.last.2 rfl
        subst hw2
        clear hW2
        simp only [Ord.puts, Ord.prs]
        go_simp
        go_wp2
        refine bodyPost_ret (res_tct (x := y) (v := u) rfl rfl HS2.out) rfl ⟨ov y u, ok, by rw [← HAE.out]; rfl, ?_, HI.out.1.trans (HS3.out.drew.below HI.out.1.size (fun j hj => by have := HB3.out; omega))⟩
        rcases HI.out.2.2.2 with ⟨e1, e2, e3, e4⟩ | ⟨e1, i, e2, e3, e4⟩
        · subst e1 e2 e3
          refine .inr ⟨rfl, rfl, fun x hx hq => ?_⟩
          obtain ⟨j, hj, he⟩ := List.getElem_of_mem hx
          exact e4 j x (by rw [HKZ.out]; exact hj) (by rw [List.getElem?_eq_getElem hj, he]) hq
        · exact .inl ⟨i, y, u, e3, rfl, e1, e4.stay HS3.out.drew (fun j cur _ hh e => by subst e; exact Has.ne (w := W) hh (by rw [HB3.out]; exact HI.out.2.2.1) (by decide) rfl)⟩
end
end Go.Proofs.Ytjceeckcfjjkkaa.Ob
