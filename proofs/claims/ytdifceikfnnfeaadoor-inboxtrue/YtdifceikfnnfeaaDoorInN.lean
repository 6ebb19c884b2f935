/-
  The document's report.
  Conditions: as at each lemma.
-/
import Derived.Test.YtdifceikfnnfeaaDoorInL
namespace Go.Proofs.YtdifceikfnnfeaaDoor.Sp.Inb
open Go.ChangeShapes Go.WideShapes Go.ChangeAt Go.RowKit
open Ba (hidden Has cell_lt heap_lt)
set_option linter.unusedVariables false
set_option maxRecDepth 20000
section
variable {n0 : Nat} {w : World} {r bs : Nat} {fx dp : Value} {P : List Nat} {s : St} {K : Nat}
theorem sel_gaps (s : St) (most : Int) : gtake (selL false (!s.nr) s.F s.L) most = gapsR s most := by
  unfold gtake gapsR selL loose
  cases s.nr with
  | true =>
    rw [if_pos rfl]
    congr 2
    refine List.filter_congr fun x _ => ?_
    cases decide (x ∈ s.F) <;> rfl
  | false =>
    rw [if_neg (by decide)]
    congr 2
    exact List.filter_eq_self.2 fun x _ => rfl
theorem sel_nr {K : Nat} {s : St} (hk : Ok K s) (most : Int) (h : s.nr = true) : gtake (selL true false s.F s.L) most = nrR s most := by
  unfold gtake nrR selL
  rw [if_pos h]
  congr 2
  refine Eq.trans (List.filter_congr fun x _ => ?_) (sub_filter hk.L.1 hk.F.1 hk.sub)
  cases decide (x ∈ s.F) <;> rfl
theorem r_rep_no (win most : Int) (hm : mostOk most = false) (w : World) (p : Value) : Calls Tryd.prog 40 #[p, .int .u32 win, .int .i64 most] w fun e w' => e = .returned (.tuple #[.agg zch, .int .i64 1]) ∧ Below w.heap.size w w' := by
  obtain ⟨W, hW⟩ : ∃ W, w.alloc (.cells (chv 0 0 0 zsl zsl zsl) 46) = W := ⟨_, rfl⟩
  have hB : Below w.heap.size w W := by rw [← hW]; exact below_new w _
  have hR0 : Has W w.heap.size zch 46 := by rw [← hW]; exact Has.new w _ _
  have hh := of_decide_eq_false hm
  have hO : Ow.Own w W [(w.heap.size, zch, 46)] := ⟨hB, fun x hx => by
    obtain rfl := List.mem_singleton.1 hx
    exact ⟨Nat.le_refl _, hR0⟩⟩
  have F2 := hidden (store_ch (kind := 0) (c := 0) (win := 0) (a1 := none) (a2 := none) (a3 := none) (n1 := 0) (n2 := 0) (n3 := 0) (k1 := 0) (k2 := 0) (k3 := 0) hR0)
  have hT := hO.row (chv 0 0 0 zsl zsl zsl) (by simp)
  have F3 := hidden (hT.has (.head _))
  have F4 := hidden hT.below
  unfold chv zsl at hW
  clear hm hB hR0 hO hT
  by_cases h1 : most < 0
  · clear hh
    go_enter Tryd.func40, Tryd.ntmps40
    go_wp2_with (refine wpList_stA rfl 46 _ _ rfl rfl rfl rfl F2.out ?_)
    exact bodyPost_ret (res_ch rfl rfl F3.out) rfl ⟨rfl, F4.out⟩
  · have h2 : 4096 < most := by omega
    clear hh
    go_enter Tryd.func40, Tryd.ntmps40
    go_wp2_with (refine wpList_stA rfl 46 _ _ rfl rfl rfl rfl F2.out ?_)
    exact bodyPost_ret (res_ch rfl rfl F3.out) rfl ⟨rfl, F4.out⟩
set_option maxHeartbeats 4000000 in
theorem r_rep_ok (h : Rf n0 w r bs fx dp P s) (hk : Ok K s) (win most : Int) (hm : mostOk most = true) : Calls Tryd.prog 40 #[.pointer (some ⟨r, 0, none⟩), .int .u32 win, .int .i64 most] w fun e w' => ∃ V, e = .returned (.tuple #[V, .int .i64 0]) ∧ Rep w.heap.size w' s most win V ∧ Rf n0 w' r bs fx zsl P (repS s) ∧ Mod (FD r bs fx dp) w w' := by
  obtain ⟨W, hW⟩ : ∃ W, w.alloc (.cells (chv 0 0 0 zsl zsl zsl) 46) = W := ⟨_, rfl⟩
  have hB : Below w.heap.size w W := by rw [← hW]; exact below_new w _
  have hR0 : Has W w.heap.size zch 46 := by rw [← hW]; exact Has.new w _ _
  have hWs : W.heap.size = w.heap.size + 1 := by rw [← hW]; exact World.size_alloc ..
  obtain ⟨X1, hX1⟩ : ∃ X1, W.alloc (.cells (chv 0 0 0 zsl zsl zsl) 46) = X1 := ⟨_, rfl⟩
  have hmm : 0 ≤ most ∧ most ≤ 4096 := of_decide_eq_true hm
  have hO : Ow.Own w W [(w.heap.size, zch, 46)] := ⟨hB, fun x hx => by
    obtain rfl := List.mem_singleton.1 hx
    exact ⟨Nat.le_refl _, hR0⟩⟩
  have o1 := hO.alloc zch 46
  rw [show W.alloc (.cells zch 46) = X1 from hX1] at o1
  rw [hWs] at o1
  have hne : w.heap.size + 1 ≠ w.heap.size := by omega
  have f2 := store_ch (kind := 3) (c := s.c) (win := win) (a1 := none) (a2 := none) (a3 := none) (n1 := 0) (n2 := 0) (n3 := 0) (k1 := 0) (k2 := 0) (k3 := 0) (o1.has (.head _))
  have o2 := o1.row (chv 3 s.c win zsl zsl zsl) (by simp)
  obtain ⟨X2, e2⟩ : ∃ X2, X1.setRow (w.heap.size + 1) (chv 3 s.c win zsl zsl zsl) = X2 := ⟨_, rfl⟩
  rw [show X1.setRow (w.heap.size + 1) (chv 3 s.c win (.slice none 0 0) (.slice none 0 0) (.slice none 0 0)) = X2 from e2] at f2
  rw [e2] at o2
  have F2 := hidden f2
  have HH := hidden (fun (X : World) (hX : Below w.heap.size w X) => h.later hX)
  have BL := hidden (r_blocks (HH.out X2 o2.below) hk false (!s.nr) most hmm)
  rw [sel_gaps] at BL
  obtain ⟨ra, rcap, c0, c1, c2, c3, c4, c5, c6, c7, c8, cf, d0, d1⟩ := (HH.out W hB).cells
  obtain ⟨ra', rcap', b0, b1, b2, b3, b4, b5, b6, b7, b8, bf, x0, x1⟩ := (HH.out X2 o2.below).cells
  have HO2 := hidden o2
  have g1 : ¬ most < 0 := by omega
  have g2 : ¬ 4096 < most := by omega
  unfold chv zsl at hW hX1
  obtain ⟨da, dcap, hdv⟩ := Ba.own_len h.d
  have HDV := hidden hdv
  have hdk := hk.dk
  obtain ⟨N, hN⟩ : ∃ N, Hid (s.D.length = N) := ⟨_, rfl⟩
  clear hdv
  rw [hN.out] at HDV hdk
  have HGE := hidden (fun k => h.fd_ge k)
  have hwn := h.hn
  have hrn := h.q.lt
  clear hB hR0 hO o1 o2 f2 e2 h
  go_enter Tryd.func40, Tryd.ntmps40
  go_wp2_with (first | (refine wpList_stA rfl 46 _ _ rfl rfl rfl rfl F2.out ?_) | fail)
  refine Calls.mono BL.out ?_
  rintro e Y1 ⟨ga, gk, rfl, ho, hB1⟩
  obtain ⟨s10, f10, oY, kY⟩ := rep_set (HO2.out.later hB1) hne 10 (.slice ga (gapsR s most).length gk) zsl rfl
  have r1 := kY (by decide) ho
  obtain ⟨Y2, e10⟩ : ∃ Y2, Y1.setCell ⟨w.heap.size + 1, 10, none⟩ (.slice ga (gapsR s most).length gk) = Y2 := ⟨_, rfl⟩
  rw [e10] at oY r1
  have HG := hidden (own_base r1 HO2.out.below.size)
  have HOY := hidden oY
  obtain ⟨ra2, rcap2, b20, b21, b22, b23, b24, b25, b26, b27, b28, b2f, x20, x21⟩ := (HH.out Y2 oY.below).cells
  obtain ⟨gl, hgl⟩ : ∃ gl, Hid ((gapsR s most).length = gl) := ⟨_, rfl⟩
  rw [hgl.out] at e10 HOY HG
  clear oY kY r1 ho hB1 BL
  rw [hgl.out]
  cases hnr : s.nr
  case' false =>
    rw [hnr] at b21
    have PK : ∃ (kd : Int) (na : Option Addr) (nl nk : Nat), Hid ((if s.nr = true then 16 else 3) = kd ∧ Ow.Own w Y2 [(w.heap.size + 1, chv kd s.c win (.slice ga gl gk) (.slice na nl nk) zsl, 46), (w.heap.size, zch, 46)] ∧ Y2.ownsRow w.heap.size 74 2 (.slice ga gl gk) gl ((gapsR s most).flatMap gapC) ∧ Y2.ownsRow w.heap.size 74 2 (.slice na nl nk) (nrR s most).length ((nrR s most).flatMap gapC)) :=
      ⟨3, none, 0, 0, by rw [hnr]; rfl, HOY.out, HG.out, by unfold nrR; rw [hnr, if_neg (by decide)]; exact World.ownsRow_nil _ _ _ _⟩
    clear HG HOY
    go_wp2_with fail
  case' true =>
    rw [hnr] at b21
    obtain ⟨s00, f00, oZ, kZ⟩ := rep_set HOY.out hne 0 (.int .u8 16) (.int .u8 3) rfl
    have r1 := kZ (by decide) HG.out
    obtain ⟨Z1, eZ1⟩ : ∃ Z1, Y2.setCell ⟨w.heap.size + 1, 0, none⟩ (.int .u8 16) = Z1 := ⟨_, rfl⟩
    rw [eZ1] at oZ r1
    have BR := hidden (r_blocks (HH.out Z1 oZ.below) hk true false most hmm)
    rw [sel_nr hk most hnr] at BR
    have HOZ := hidden oZ
    have HG1 := hidden r1
    clear oZ kZ r1 HG HOY
    go_wp2_with fail
    refine Calls.mono BR.out ?_
    rintro e Z2 ⟨na, nk, rfl, ho, hB1⟩
    obtain ⟨s11, f11, oZ, kZ⟩ := rep_set (HOZ.out.later hB1) hne 11 (.slice na (nrR s most).length nk) zsl rfl
    have r1 := kZ (by decide) ho
    have r2 := kZ (by decide) (own_later HG1.out hB1)
    obtain ⟨Y2, e11⟩ : ∃ Y2, Z2.setCell ⟨w.heap.size + 1, 11, none⟩ (.slice na (nrR s most).length nk) = Y2 := ⟨_, rfl⟩
    rw [e11] at oZ r1 r2
    have PK : ∃ (kd : Int) (na' : Option Addr) (nl nk' : Nat), Hid ((if s.nr = true then 16 else 3) = kd ∧ Ow.Own w Y2 [(w.heap.size + 1, chv kd s.c win (.slice ga gl gk) (.slice na' nl nk') zsl, 46), (w.heap.size, zch, 46)] ∧ Y2.ownsRow w.heap.size 74 2 (.slice ga gl gk) gl ((gapsR s most).flatMap gapC) ∧ Y2.ownsRow w.heap.size 74 2 (.slice na' nl nk') (nrR s most).length ((nrR s most).flatMap gapC)) :=
      ⟨16, na, (nrR s most).length, nk, by rw [hnr]; rfl, oZ, r2, own_base r1 HOZ.out.below.size⟩
    generalize (nrR s most).length = nll at e11 s11 f11 ⊢
    clear ho hB1 oZ kZ r1 r2 HOZ HG1 BR
    go_wp2_with fail
  all_goals
    obtain ⟨kd, va, vl, vk, PK⟩ := PK
    go_loopw [9] (fun i wr => ∃ (k : Nat) (av : Value), k ≤ N ∧ (k : Int) ≤ most ∧ i = .int .i64 (k : Int) ∧ Ow.Own w wr [(w.heap.size + 1, chv kd s.c win (.slice ga gl gk) (.slice va vl vk) av, 46), (w.heap.size, zch, 46)] ∧ wr.ownsRow w.heap.size 22 1 av (s.D.take k).length (us (s.D.take k)) ∧ wr.ownsRow w.heap.size 74 2 (.slice ga gl gk) gl ((gapsR s most).flatMap gapC) ∧ wr.ownsRow w.heap.size 74 2 (.slice va vl vk) (nrR s most).length ((nrR s most).flatMap gapC)) (fun i wr => N - (intOf i).toNat)
    case atStart => exact ⟨0, _, by omega, by omega, rfl, PK.out.2.1, World.ownsRow_nil _ _ _ _, PK.out.2.2.1, PK.out.2.2.2⟩
    case round =>
      obtain ⟨k, av, hkN, hkm, rfl, hO, ho, hg, hv⟩ := hrel
      have hC := HH.out wr hO.below
      obtain ⟨ra3, rcap3, q0, q1, q2, q3, q4, q5, q6, q7, q8, qf, y0, y1⟩ := hC.cells
      obtain ⟨aa, acap, rfl⟩ := Ba.own_len ho
      have hltk : (s.D.take k).length = k := by rw [List.length_take, hN.out]; omega
      by_cases hgo : k < N ∧ (k : Int) < most
      · obtain ⟨hlt, hlm⟩ := hgo
        have hlt' : (k : Int) < (N : Int) := by omega
        have hkD : k < s.D.length := by rw [hN.out]; exact hlt
        obtain ⟨x, hx⟩ : ∃ x, s.D[k]? = some x := ⟨_, List.getElem?_eq_getElem hkD⟩
        have hd3 := hC.d
        rw [hN.out] at hd3
        obtain ⟨g, dcap', e9, hgb1, hgb2, _⟩ := Ba.own_some hd3 (by omega)
        have e8 := HDV.out
        rw [e9] at e8
        cases e8
        rw [e9] at hd3 q4
        have hcx := hd3.cellAt (g := g) k (by omega)
        rw [us_at hx] at hcx
        obtain ⟨v', W2, hr, o1, o2, o3⟩ := app1 (w := wr.drew) x (show wr.drew.ownsRow w.heap.size 22 1 (.slice aa (s.D.take k).length acap) (s.D.take k).length (us (s.D.take k)) from ho) (by omega) hO.below.size
        obtain ⟨aa2, acap2, rfl⟩ := Ba.own_len o1
        have hBa : Below wr.heap.size wr (wr.drew.alloc (.cells #[.int .u32 (x : Int)] 22)) := (below_drew (Below.refl _ _)).alloc (Nat.le_refl _) _
        have hm2 : Mod (fun y => (Value.slice aa (s.D.take k).length acap).ownBlock = some y) wr W2 := (Mod.of_below hBa).trans (Mod.grown (F := fun y => (Value.slice aa (s.D.take k).length acap).ownBlock = some y) o2 (fun k e => e)) (fun x hx => .inl hx)
        have hB2 : Below w.heap.size w W2 := hO.below.trans (hm2.below hO.below.size (fun y hy => (own_type ho hy).2))
        have hO2 : Ow.Own w W2 [(w.heap.size + 1, chv kd s.c win (.slice ga gl gk) (.slice va vl vk) (.slice aa (s.D.take k).length acap), 46), (w.heap.size, zch, 46)] := ⟨hB2, fun y hy => ⟨(hO.2 y hy).1, hm2.has (hO.2 y hy).2 (fun hh => by
          obtain ⟨⟨cs, h9⟩, _⟩ := own_type ho hh
          have h8 := (hO.2 y hy).2
          have ht : y.2.2 = 46 := by
            rcases List.mem_cons.1 hy with rfl | hy
            · rfl
            · rcases List.mem_cons.1 hy with rfl | hy
              · rfl
              · cases hy
          rw [ht] at h8
          exact absurd (has_type h8 h9) (by decide))⟩⟩
        have hg2 := hm2.own hg (fun y hy hh => by
          obtain ⟨⟨cs, h9⟩, _⟩ := own_type ho hh
          obtain ⟨⟨cs', h8⟩, _⟩ := own_type hg hy
          exact absurd (has_type h8 h9) (by decide))
        have hv2 := hm2.own hv (fun y hy hh => by
          obtain ⟨⟨cs, h9⟩, _⟩ := own_type ho hh
          obtain ⟨⟨cs', h8⟩, _⟩ := own_type hv hy
          exact absurd (has_type h8 h9) (by decide))
        obtain ⟨z1, z2, hO3, kY⟩ := rep_set hO2 hne 12 (.slice aa2 (s.D.take k ++ [x]).length acap2) (.slice aa (s.D.take k).length acap) rfl
        have o4 := kY (by decide) o1
        have hg3 := kY (by decide) hg2
        have hv3 := kY (by decide) hv2
        have cav : wr.cell? ⟨w.heap.size + 1, 12, none⟩ = some (.slice aa (s.D.take k).length acap) := hO.cell (.head _) 12 rfl
        have LDA : Hid (∀ X, Below wr.heap.size wr X → (Instr.loadAt 33 (.pointer (some ⟨w.heap.size + 1, 12, none⟩))).run Tryd.prog X = .ok (.slice aa (s.D.take k).length acap) X) := fun X hX => by
          have e := (hX.cell (p := ⟨w.heap.size + 1, 12, none⟩) (cell_lt cav)).trans cav
          simp [go_sem, e]
        have LDT : Hid (∀ X, Below wr.heap.size wr X → (Instr.loadAt 33 (.pointer (some ⟨r, 4, none⟩))).run Tryd.prog X = .ok (.slice (some ⟨g, 0, none⟩) N dcap) X) := fun X hX => by
          have e := (hX.cell (p := ⟨r, 4, none⟩) (cell_lt q4)).trans q4
          simp [go_sem, e]
        have LDX : Hid (∀ X, Below wr.heap.size wr X → (Instr.loadAt 22 (.pointer (some ⟨g, k, none⟩))).run Tryd.prog X = .ok (.int .u32 (x : Int)) X) := fun X hX => by
          have e := (hX.cell (p := ⟨g, k, none⟩) (cell_lt hcx)).trans hcx
          simp [go_sem, e]
        have HIX : Hid (∀ X : World, (Instr.indexAt 33 (.slice (some ⟨g, 0, none⟩) N dcap) (.int .i64 (k : Int))).run Tryd.prog X = .ok (.pointer (some ⟨g, k, none⟩)) X) := fun X => by simp [go_sem, hlt']
        have HBS : Hid (∀ X : World, (Instr.buildSlice 33 1 #[(0, .int .u32 (x : Int))]).run Tryd.prog X = .ok (.slice (some ⟨X.heap.size, 0, none⟩) 1 1) (X.alloc (.cells #[.int .u32 (x : Int)] 22))) := fun X => bs22 _ X
        have HAP := hidden hr
        have HST : Hid ((Instr.storeAt 33 (.pointer (some ⟨w.heap.size + 1, 12, none⟩)) (.slice aa2 (s.D.take k ++ [x]).length acap2)).run Tryd.prog W2 = .ok () (W2.setCell ⟨w.heap.size + 1, 12, none⟩ (.slice aa2 (s.D.take k ++ [x]).length acap2))) := by
          show _ = _
          simp [go_sem, z1, z2]
        obtain ⟨W3, e3⟩ : ∃ W3, W2.setCell ⟨w.heap.size + 1, 12, none⟩ (.slice aa2 (s.D.take k ++ [x]).length acap2) = W3 := ⟨_, rfl⟩
        rw [e3] at HST hO3 o4 hg3 hv3
        rw [← take_some hx] at o4 hO3 HST HAP
        have FN := hidden (⟨hO3, o4, hg3, hv3⟩ : Ow.Own w W3 [(w.heap.size + 1, chv kd s.c win (.slice ga gl gk) (.slice va vl vk) (.slice aa2 (s.D.take (k + 1)).length acap2), 46), (w.heap.size, zch, 46)] ∧ W3.ownsRow w.heap.size 22 1 (.slice aa2 (s.D.take (k + 1)).length acap2) (s.D.take (k + 1)).length (us (s.D.take (k + 1))) ∧ W3.ownsRow w.heap.size 74 2 (.slice ga gl gk) gl ((gapsR s most).flatMap gapC) ∧ W3.ownsRow w.heap.size 74 2 (.slice va vl vk) (nrR s most).length ((nrR s most).flatMap gapC))
        generalize hq2 : (s.D.take (k + 1)).length = an2 at *
        generalize hq1 : (s.D.take k).length = an at *
        have HQ2 := hidden hq2
        generalize (x : Int) = dI at *
        clear hC hO ho hg hv hltk hkD hx hd3 e9 hr o1 o2 o3 hBa hm2 hB2 hO2 hg2 hv2 hO3 kY o4 hg3 hv3 cav e3 z1 z2 hq2 hq1 HH HGE PK
        go_wp2_with fail
        refine Ord.wp_region_ex0 (X := Unit) (by kernel_rfl) 86 (fun x => [(some 58, .pointer (some ⟨w.heap.size + 1, 12, none⟩)), (some 59, .slice aa an acap), (some 60, .pointer (some ⟨r, 0, none⟩)), (some 61, .pointer (some ⟨r, 0, none⟩)), (some 62, .pointer (some ⟨r, 4, none⟩)), (some 63, .slice (some ⟨g, 0, none⟩) N dcap), (some 64, .int .i64 (k : Int)), (some 65, .pointer (some ⟨g, k, none⟩)), (some 66, .int .u32 dI), (some 67, .slice (some ⟨wr.drew.heap.size, 0, none⟩) 1 1), (some 68, .slice aa2 an2 acap2), (some 69, .pointer (some ⟨w.heap.size + 1, 12, none⟩)), (none, undef)]) [some 58, some 59, some 60, some 61, some 62, some 63, some 64, some 65, some 66, some 67, some 68, some 69, none] rfl (fun listed hsz hr => Ord.all_listedC (rank := [0, 1, 2, 3, 4, 5, 6, 7, 8, 9, 10, 11, 12]) (by kernel_rfl) hsz hr) (by rfl) (fun _ => rfl) (by kernel_rfl) (Rg.StM [9, 10, 12] (fun sk sx w' => ApA wr (.cells #[.int .u32 dI] 22) W2 W3 sk w')) (fun _ _ _ _ hL h => h.ext (n := 13) (by decide) hL) ?_ ?_ () ?_
        case refine_1 =>
          intro x Lq iq oq ac w' ho hi hcl hdep hF hW
          have f1 : ac.tmps.size = 86 := hF.1
          match iq, ho, hi, hdep with
          | 0, ho, hi, hdep =>
            cases ho
            have da0 : ac.eval (.tmp 8) = .pointer (some ⟨w.heap.size + 1, 0, none⟩) := hF.old 8 rfl
            exact Ord.ex_value x rfl rfl (Rg.fa da0 rfl (by simp [go_sem])) rfl (hW.keep (by decide))
          | 1, ho, hi, hdep =>
            cases ho
            have da0 : ac.eval (.tmp 58) = .pointer (some ⟨w.heap.size + 1, 12, none⟩) := hF.2.2.2 0 58 _ rfl (hdep ⟨0, .data⟩ (by simp) rfl)
            obtain ⟨kq, hlo, hhi, hA⟩ := hW.range 0 1 (.inl rfl) (.inr ⟨10, rfl, (Rg.no_of (fun h => hcl 10 _ rfl (h) ⟨1, .data⟩ (by simp) rfl) hi)⟩)
            exact Ord.ex_value x rfl rfl (Rg.load da0 rfl (LDA.out _ (hA.bel (by omega)))) rfl (hW.keep (by decide))
          | 2, ho, hi, hdep =>
            cases ho
            have da0 : ac.eval (.tmp 0) = .pointer (some ⟨r, 0, none⟩) := hF.old 0 rfl
            exact Ord.ex_value x rfl rfl (Rg.mv da0 rfl) rfl (hW.keep (by decide))
          | 3, ho, hi, hdep =>
            cases ho
            have da0 : ac.eval (.tmp 60) = .pointer (some ⟨r, 0, none⟩) := hF.2.2.2 2 60 _ rfl (hdep ⟨2, .data⟩ (by simp) rfl)
            exact Ord.ex_value x rfl rfl (Rg.nilc da0 rfl) rfl (hW.keep (by decide))
          | 4, ho, hi, hdep =>
            cases ho
            have da0 : ac.eval (.tmp 61) = .pointer (some ⟨r, 0, none⟩) := hF.2.2.2 3 61 _ rfl (hdep ⟨3, .data⟩ (by simp) rfl)
            exact Ord.ex_value x rfl rfl (Rg.fa da0 rfl (by simp [go_sem])) rfl (hW.keep (by decide))
          | 5, ho, hi, hdep =>
            cases ho
            have da0 : ac.eval (.tmp 62) = .pointer (some ⟨r, 4, none⟩) := hF.2.2.2 4 62 _ rfl (hdep ⟨4, .data⟩ (by simp) rfl)
            obtain ⟨kq, hlo, hhi, hA⟩ := hW.range 0 0 (.inl rfl) (.inr ⟨9, rfl, (Rg.no_of (fun h => hcl 7 _ rfl (hcl 8 _ rfl (hcl 9 _ rfl (h) ⟨8, .data⟩ (by simp) rfl) ⟨7, .data⟩ (by simp) rfl) ⟨5, .data⟩ (by simp) rfl) hi)⟩)
            exact Ord.ex_value x rfl rfl (Rg.load da0 rfl (LDT.out _ (hA.bel (by omega)))) rfl (hW.keep (by decide))
          | 6, ho, hi, hdep =>
            cases ho
            have da0 : ac.eval (.tmp 9) = .int .i64 (k : Int) := hF.old 9 rfl
            exact Ord.ex_value x rfl rfl (Rg.mv da0 rfl) rfl (hW.keep (by decide))
          | 7, ho, hi, hdep =>
            cases ho
            have da0 : ac.eval (.tmp 63) = .slice (some ⟨g, 0, none⟩) N dcap := hF.2.2.2 5 63 _ rfl (hdep ⟨5, .data⟩ (by simp) rfl)
            have da1 : ac.eval (.tmp 64) = .int .i64 (k : Int) := hF.2.2.2 6 64 _ rfl (hdep ⟨6, .data⟩ (by simp) rfl)
            exact Ord.ex_value x rfl rfl (Rg.ix da0 da1 rfl (HIX.out _)) rfl (hW.keep (by decide))
          | 8, ho, hi, hdep =>
            cases ho
            have da0 : ac.eval (.tmp 65) = .pointer (some ⟨g, k, none⟩) := hF.2.2.2 7 65 _ rfl (hdep ⟨7, .data⟩ (by simp) rfl)
            obtain ⟨kq, hlo, hhi, hA⟩ := hW.range 0 0 (.inl rfl) (.inr ⟨9, rfl, (Rg.no_of (fun h => hcl 9 _ rfl (h) ⟨8, .data⟩ (by simp) rfl) hi)⟩)
            exact Ord.ex_value x rfl rfl (Rg.load da0 rfl (LDX.out _ (hA.bel (by omega)))) rfl (hW.keep (by decide))
          | 9, ho, hi, hdep =>
            cases ho
            have da0 : ac.eval (.tmp 66) = .int .u32 dI := hF.2.2.2 8 66 _ rfl (hdep ⟨8, .data⟩ (by simp) rfl)
            have hA := hW.at (k := 0) rfl hi (.inl rfl)
            have hw := hA.h0 rfl
            subst hw
            exact Ord.ex_value x rfl rfl (Rg.bsl rfl (by simp [da0]) (HBS.out _)) rfl (hW.next (k := 0) rfl (by decide) hi (.inl rfl) hA.s1)
          | 10, ho, hi, hdep =>
            cases ho
            have da0 : ac.eval (.tmp 59) = .slice aa an acap := hF.2.2.2 1 59 _ rfl (hdep ⟨1, .data⟩ (by simp) rfl)
            have da1 : ac.eval (.tmp 67) = .slice (some ⟨wr.drew.heap.size, 0, none⟩) 1 1 := hF.2.2.2 9 67 _ rfl (hdep ⟨9, .data⟩ (by simp) rfl)
            have hA := hW.at (k := 1) rfl hi (.inr ⟨9, rfl, (hdep ⟨9, .data⟩ (by simp) rfl)⟩)
            have hw := hA.h1 rfl
            subst hw
            exact Ord.ex_value x rfl rfl (Rg.app da0 da1 rfl HAP.out) rfl (hW.next (k := 1) rfl (by decide) hi (.inr ⟨9, rfl, (hdep ⟨9, .data⟩ (by simp) rfl)⟩) hA.s2)
          | 11, ho, hi, hdep =>
            cases ho
            have da0 : ac.eval (.tmp 8) = .pointer (some ⟨w.heap.size + 1, 0, none⟩) := hF.old 8 rfl
            exact Ord.ex_value x rfl rfl (Rg.fa da0 rfl (by simp [go_sem])) rfl (hW.keep (by decide))
          | 12, ho, hi, hdep =>
            cases ho
            have da0 : ac.eval (.tmp 69) = .pointer (some ⟨w.heap.size + 1, 12, none⟩) := hF.2.2.2 11 69 _ rfl (hdep ⟨11, .data⟩ (by simp) rfl)
            have da1 : ac.eval (.tmp 68) = .slice aa2 an2 acap2 := hF.2.2.2 10 68 _ rfl (hdep ⟨10, .data⟩ (by simp) rfl)
            have hA := hW.at (k := 2) rfl hi (.inr ⟨10, rfl, (hdep ⟨10, .data⟩ (by simp) rfl)⟩)
            have hw := hA.h2 rfl
            subst hw
            exact Rg.ex_skip x rfl rfl (Rg.sto da0 da1 rfl HST.out) rfl (hW.next (k := 2) rfl (by decide) hi (.inr ⟨10, rfl, (hdep ⟨10, .data⟩ (by simp) rfl)⟩) hA.s3)
        case refine_3 => exact Rg.StM.first (ApA.first _ _ _ _)
        case refine_2 =>
          intro vq wq hW
          have hw2 := hW.last.h3 rfl
          subst hw2
          clear hW
          simp only [Ord.puts, Ord.prs]
          go_simp
          go_wp2
          go_roundw
          case rel => exact ⟨k + 1, _, hlt, by omega, rfl, FN.out.1, by rw [HQ2.out]; exact FN.out.2.1, FN.out.2.2⟩
          case measure => simp only [intOf]; omega
      · have hkk : s.D.take k = s.D.take most.toNat := by rw [List.take_eq_take_iff, hN.out]; omega
        rw [hkk] at ho hO
        obtain ⟨T, eT⟩ : ∃ T, ((((wr.setCell ⟨r, 4, none⟩ zsl).setCell ⟨r, 5, none⟩ (.int .i64 0)).setCell ⟨r, 7, none⟩ (.bool false)).setCell ⟨r, 8, none⟩ (.int .i64 0)).setCell ⟨r, 6, none⟩ (.bool true) = T := ⟨_, rfl⟩
        have hq5 : Has T r (rb bs s.nr s.delay fx zsl 0 true false 0) 64 := by rw [← eT]; exact ((((hC.q.set 4 zsl).set 5 (.int .i64 0)).set 7 (.bool false)).set 8 (.int .i64 0)).set 6 (.bool true)
        have hmr : Mod (fun k => k = r) wr T := by
          rw [← eT]
          exact ((((Mod.setCell (F := fun k => k = r) wr (p := ⟨r, 4, none⟩) rfl _).trans (Mod.setCell (F := fun k => k = r) _ (p := ⟨r, 5, none⟩) rfl _) (fun x hx => .inl hx)).trans (Mod.setCell (F := fun k => k = r) _ (p := ⟨r, 7, none⟩) rfl _) (fun x hx => .inl hx)).trans (Mod.setCell (F := fun k => k = r) _ (p := ⟨r, 8, none⟩) rfl _) (fun x hx => .inl hx)).trans (Mod.setCell (F := fun k => k = r) _ (p := ⟨r, 6, none⟩) rfl _) (fun x hx => .inl hx)
        have ho := keep_any hmr hC.q (by decide) ho
        have hg := keep_any hmr hC.q (by decide) hg
        have hv := keep_any hmr hC.q (by decide) hv
        obtain ⟨m1, m2, m3⟩ := hC.nb
        have hr1 := hmr.has (hO.has (.head _)) (show ¬ w.heap.size + 1 = r by omega)
        have hr0 := hmr.has (hO.has (b := w.heap.size) (.tail _ (.head _))) (show ¬ w.heap.size = r by omega)
        have hR5 : Rf n0 T r bs fx zsl P (repS s) := ⟨hq5, hmr.isRef hC.a (show ¬ bs = r from fun e => m1 e.symm) (fun k cs hk e => by have e : k = r := e; subst e; exact absurd (has_type hk hC.q) (by decide)), hmr.own hC.f (fun k hk => show ¬ k = r from (m2 k hk).1), hC.p, World.ownsRow_nil _ _ _ _, fun k hk e => (by cases e), hC.hr, hC.hs, hC.h0, Nat.le_trans hC.hn hmr.size⟩
        have L1 := hidden (load_ch hr1)
        have S1 := hidden (store_ch (kind := kd) (c := s.c) (win := win) (a1 := ga) (a2 := va) (a3 := aa) (n1 := gl) (n2 := vl) (n3 := (s.D.take most.toNat).length) (k1 := gk) (k2 := vk) (k3 := acap) hr0)
        have hm6 := row_mod T w.heap.size (chv kd s.c win (.slice ga gl gk) (.slice va vl vk) (.slice aa (s.D.take most.toNat).length acap)) hr0
        have hR6 : Has (T.setRow w.heap.size (chv kd s.c win (.slice ga gl gk) (.slice va vl vk) (.slice aa (s.D.take most.toNat).length acap))) w.heap.size (chv kd s.c win (.slice ga gl gk) (.slice va vl vk) (.slice aa (s.D.take most.toNat).length acap)) 46 := setRow_heap T w.heap.size _ _ 46 (0, 0) hr0
        have ho := keep_any hm6 hr0 (by decide) ho
        have hg := keep_any hm6 hr0 (by decide) hg
        have hv := keep_any hm6 hr0 (by decide) hv
        have hF6 := hR5.stay (G := fun k => k = w.heap.size) hm6 (fun k hk e => by
          obtain ⟨cs, ty, hh, _, ht⟩ := hR5.type hk
          have e : k = w.heap.size := e
          subst e
          have := has_type hh hr0
          subst this
          rcases ht with ht | ht | ⟨ht, _⟩ <;> exact absurd ht (by decide)) (fun k cs hk e => by
          have e : k = w.heap.size := e
          subst e
          exact absurd (has_type hk hr0) (by decide))
        have hMM : Mod (FD r bs fx dp) w (T.setRow w.heap.size (chv kd s.c win (.slice ga gl gk) (.slice va vl vk) (.slice aa (s.D.take most.toNat).length acap))) :=
          ((Mod.of_below (F := FD r bs fx dp) hO.below).trans hmr (fun x hx => .inl (.inl hx))).trans hm6 (fun x hx => .inr (by have hx : x = w.heap.size := hx; omega))
        have FIN := hidden (⟨⟨ga, gl, gk, va, vl, vk, aa, (s.D.take most.toNat).length, acap, by rw [PK.out.1], by rw [hgl.out]; exact hg, hv, ho⟩, hF6, hMM⟩ : Rep w.heap.size (T.setRow w.heap.size (chv kd s.c win (.slice ga gl gk) (.slice va vl vk) (.slice aa (s.D.take most.toNat).length acap))) s most win (.agg (chv kd s.c win (.slice ga gl gk) (.slice va vl vk) (.slice aa (s.D.take most.toNat).length acap))) ∧ _ ∧ _)
        have R6 := hidden hR6
        rw [HDV.out] at q4
        unfold zsl at eT
        have hway : (k = N) ∨ (k < N ∧ (k : Int) = most) := by omega
        rw [hkk] at hltk
        generalize (s.D.take most.toNat).length = dl at *
        clear hC hO ho hg hv hq5 hmr hr1 hr0 hR5 hm6 hF6 hMM hR6 HH HGE PK hkk hltk hgo
        rcases hway with hway | ⟨hlt, hway⟩
        all_goals
          first | (have hlt' : (k : Int) < (N : Int) := by omega) | skip
          go_wp2_with (first | (refine wpList_ldA rfl 46 _ rfl rfl L1.out ?_) | (refine wpList_stA rfl 46 _ _ rfl rfl rfl rfl S1.out ?_))
          exact bodyPost_ret (res_ch rfl rfl R6.out) rfl ⟨_, rfl, FIN.out⟩
end
end Go.Proofs.YtdifceikfnnfeaaDoor.Sp.Inb
