/-
  What is refused by a box; a part is made of a text.
  Conditions: as at each lemma.
-/
import Derived.Test.YtjceeckcfjjkkaaObY
namespace Go.Proofs.Ytjceeckcfjjkkaa.Ob
open Go.ChangeShapes Go.WideShapes Go.ChangeAt Go.RowKit Go.Shelf
open Ba (hidden Has cell_lt heap_lt)
set_option linter.unusedVariables false
section
variable {D F Q : Nat → Prop} {w w' X X' : World} {t f : Nat} {rv : Value} {P : List CV} {nx : Int} {n K : Nat} {L L' M : List Ch} {fs : Nat → Int} {m : Int} {i g o : Nat} {x y : Ch} {S : St} {q : Rq} {c : Ck} {now : Int}
theorem put_path (h : No D w t f rv P nx n L fs m) (pa now : Int) (sm sn pr : Int) (un bg en : Bool) (va : Option Addr) (vl vc : Nat) (hpa : ¬ (0 ≤ pa ∧ pa < n)) :
    Calls Try.prog 17 #[.pointer (some ⟨t, 0, none⟩), .int .i64 pa, pv sm sn pr un bg en va vl vc, .int .i64 now] w fun e w' => e = .returned (.tuple #[.int .u32 0, .int .i64 90]) ∧ Below w.heap.size w w' := by
  obtain ⟨W0, hW0⟩ : ∃ W0, W0 = w.alloc (.cells #[.int .u16 sm, .int .u16 sn, .int .u32 pr, .bool un, .slice va vl vc, .bool bg, .bool en] 42) := ⟨_, rfl⟩
  have hO0 : Ow.Own w W0 [(w.heap.size, #[.int .u16 sm, .int .u16 sn, .int .u32 pr, .bool un, .slice va vl vc, .bool bg, .bool en], 42)] := by rw [hW0]; exact (Ow.Own.refl w).alloc _ 42
  have hN0 := h.later hO0.below
  have U := hidden (unmade hN0)
  have x0 := hO0.cell (b := w.heap.size) (List.mem_cons_self ..) 4 rfl
  have HB := hidden hO0.below
  have HW0 := hidden hW0
  have H := hidden (has hN0 pa)
  rw [decide_eq_false hpa] at H
  clear hpa
  clear h hN0 hO0 hW0
  unfold pv
  go_enter Try.func17, Try.ntmps17
  go_wp2_with fail
  rw [← HW0.out]
  refine Calls.mono U.out ?_
  rintro e w' ⟨rfl, rfl⟩
  go_wp2_with fail
  refine Calls.mono H.out ?_
  rintro e w' ⟨rfl, rfl⟩
  go_wp2
  go_ret2
  exact ⟨rfl, HB.out⟩
theorem put_time (h : No D w t f rv P nx n L fs m) (pa now : Int) (sm sn pr : Int) (un bg en : Bool) (va : Option Addr) (vl vc : Nat) (hpa : 0 ≤ pa ∧ pa < n) (hnow : ¬ (0 ≤ now ∧ now ≤ 1099511627776)) :
    Calls Try.prog 17 #[.pointer (some ⟨t, 0, none⟩), .int .i64 pa, pv sm sn pr un bg en va vl vc, .int .i64 now] w fun e w' => e = .returned (.tuple #[.int .u32 0, .int .i64 1]) ∧ Below w.heap.size w w' := by
  obtain ⟨W0, hW0⟩ : ∃ W0, W0 = w.alloc (.cells #[.int .u16 sm, .int .u16 sn, .int .u32 pr, .bool un, .slice va vl vc, .bool bg, .bool en] 42) := ⟨_, rfl⟩
  have hO0 : Ow.Own w W0 [(w.heap.size, #[.int .u16 sm, .int .u16 sn, .int .u32 pr, .bool un, .slice va vl vc, .bool bg, .bool en], 42)] := by rw [hW0]; exact (Ow.Own.refl w).alloc _ 42
  have hN0 := h.later hO0.below
  have U := hidden (unmade hN0)
  have x0 := hO0.cell (b := w.heap.size) (List.mem_cons_self ..) 4 rfl
  have HB := hidden hO0.below
  have HW0 := hidden hW0
  have H := hidden (has hN0 pa)
  rw [decide_eq_true hpa] at H
  have T := hidden (isTime now W0)
  rw [decide_eq_false hnow] at T
  clear hpa hnow
  clear h hN0 hO0 hW0
  unfold pv
  go_enter Try.func17, Try.ntmps17
  go_wp2_with fail
  rw [← HW0.out]
  refine Calls.mono U.out ?_
  rintro e w' ⟨rfl, rfl⟩
  go_wp2_with fail
  refine Calls.mono H.out ?_
  rintro e w' ⟨rfl, rfl⟩
  go_wp2_with fail
  refine Calls.mono T.out ?_
  rintro e w' ⟨rfl, rfl⟩
  go_wp2
  go_ret2
  exact ⟨rfl, HB.out⟩
theorem put_few (h : No D w t f rv P nx n L fs m) (pa now : Int) (sm sn pr : Int) (un bg en : Bool) (va : Option Addr) (vl vc : Nat) (hpa : 0 ≤ pa ∧ pa < n) (hnow : 0 ≤ now ∧ now ≤ 1099511627776) (hl : vl < 1) :
    Calls Try.prog 17 #[.pointer (some ⟨t, 0, none⟩), .int .i64 pa, pv sm sn pr un bg en va vl vc, .int .i64 now] w fun e w' => e = .returned (.tuple #[.int .u32 0, .int .i64 1]) ∧ Below w.heap.size w w' := by
  obtain ⟨W0, hW0⟩ : ∃ W0, W0 = w.alloc (.cells #[.int .u16 sm, .int .u16 sn, .int .u32 pr, .bool un, .slice va vl vc, .bool bg, .bool en] 42) := ⟨_, rfl⟩
  have hO0 : Ow.Own w W0 [(w.heap.size, #[.int .u16 sm, .int .u16 sn, .int .u32 pr, .bool un, .slice va vl vc, .bool bg, .bool en], 42)] := by rw [hW0]; exact (Ow.Own.refl w).alloc _ 42
  have hN0 := h.later hO0.below
  have U := hidden (unmade hN0)
  have x0 := hO0.cell (b := w.heap.size) (List.mem_cons_self ..) 4 rfl
  have HB := hidden hO0.below
  have HW0 := hidden hW0
  have H := hidden (has hN0 pa)
  rw [decide_eq_true hpa] at H
  have T := hidden (isTime now W0)
  rw [decide_eq_true hnow] at T
  have hl1 : decide ((vl : Int) < 1) = true := decide_eq_true (by omega)
  clear hpa hnow hl
  clear h hN0 hO0 hW0
  unfold pv
  go_enter Try.func17, Try.ntmps17
  go_wp2_with fail
  rw [← HW0.out]
  refine Calls.mono U.out ?_
  rintro e w' ⟨rfl, rfl⟩
  go_wp2_with fail
  refine Calls.mono H.out ?_
  rintro e w' ⟨rfl, rfl⟩
  go_wp2_with fail
  refine Calls.mono T.out ?_
  rintro e w' ⟨rfl, rfl⟩
  go_wp2
  go_ret2
  exact ⟨rfl, HB.out⟩
theorem put_many (h : No D w t f rv P nx n L fs m) (pa now : Int) (sm sn pr : Int) (un bg en : Bool) (va : Option Addr) (vl vc : Nat) (hpa : 0 ≤ pa ∧ pa < n) (hnow : 0 ≤ now ∧ now ≤ 1099511627776) (hl : 65536 < vl) :
    Calls Try.prog 17 #[.pointer (some ⟨t, 0, none⟩), .int .i64 pa, pv sm sn pr un bg en va vl vc, .int .i64 now] w fun e w' => e = .returned (.tuple #[.int .u32 0, .int .i64 1]) ∧ Below w.heap.size w w' := by
  obtain ⟨W0, hW0⟩ : ∃ W0, W0 = w.alloc (.cells #[.int .u16 sm, .int .u16 sn, .int .u32 pr, .bool un, .slice va vl vc, .bool bg, .bool en] 42) := ⟨_, rfl⟩
  have hO0 : Ow.Own w W0 [(w.heap.size, #[.int .u16 sm, .int .u16 sn, .int .u32 pr, .bool un, .slice va vl vc, .bool bg, .bool en], 42)] := by rw [hW0]; exact (Ow.Own.refl w).alloc _ 42
  have hN0 := h.later hO0.below
  have U := hidden (unmade hN0)
  have x0 := hO0.cell (b := w.heap.size) (List.mem_cons_self ..) 4 rfl
  have HB := hidden hO0.below
  have HW0 := hidden hW0
  have H := hidden (has hN0 pa)
  rw [decide_eq_true hpa] at H
  have T := hidden (isTime now W0)
  rw [decide_eq_true hnow] at T
  have hl1 : decide ((vl : Int) < 1) = false := decide_eq_false (by omega)
  have hl2 : decide ((65536 : Int) < (vl : Int)) = true := decide_eq_true (by omega)
  clear hpa hnow hl
  clear h hN0 hO0 hW0
  unfold pv
  go_enter Try.func17, Try.ntmps17
  go_wp2_with fail
  rw [← HW0.out]
  refine Calls.mono U.out ?_
  rintro e w' ⟨rfl, rfl⟩
  go_wp2_with fail
  refine Calls.mono H.out ?_
  rintro e w' ⟨rfl, rfl⟩
  go_wp2_with fail
  refine Calls.mono T.out ?_
  rintro e w' ⟨rfl, rfl⟩
  go_wp2
  go_ret2
  exact ⟨rfl, HB.out⟩
theorem put_no {p : Option Addr} (h : Un w p) (pa now : Int) (sm sn pr : Int) (un bg en : Bool) (va : Option Addr) (vl vc : Nat) :
    Calls Try.prog 17 #[.pointer p, .int .i64 pa, pv sm sn pr un bg en va vl vc, .int .i64 now] w fun e w' => e = .returned (.tuple #[.int .u32 0, .int .i64 4]) ∧ Below w.heap.size w w' := by
  obtain ⟨W0, hW0⟩ : ∃ W0, W0 = w.alloc (.cells #[.int .u16 sm, .int .u16 sn, .int .u32 pr, .bool un, .slice va vl vc, .bool bg, .bool en] 42) := ⟨_, rfl⟩
  have hB0 : Below w.heap.size w W0 := by rw [hW0]; exact (Below.refl _ w).alloc (Nat.le_refl _) _
  have U := hidden (unmade_no (h.later hB0))
  have HB := hidden hB0
  have HW0 := hidden hW0
  clear h hB0 hW0
  unfold pv
  go_enter Try.func17, Try.ntmps17
  go_wp2_with fail
  rw [← HW0.out]
  refine Calls.mono U.out ?_
  rintro e w' ⟨rfl, rfl⟩
  go_wp2
  go_ret2
  exact ⟨rfl, HB.out⟩
set_option maxRecDepth 8000 in
set_option maxHeartbeats 1000000 in
theorem report_no {p : Option Addr} (h : Un w p) (hR : Rp Q w c q) (hQ : ∀ k, Q k → k < w.heap.size) :
    Calls Try.prog 20 #[.pointer p, kv c, .int .i64 now] w fun e w' => e = .returned (.tuple #[.agg #[.slice none 0 0, .int .i64 0, .int .i64 0], .int .i64 4]) ∧ Below w.heap.size w w' := by
  obtain ⟨W1, hW1⟩ : ∃ W1, W1 = (w.alloc (.cells (kcs c) 48)).alloc (.cells #[.slice none 0 0, .int .i64 0, .int .i64 0] 34) := ⟨_, rfl⟩
  have hO1 : Ow.Own w W1 [(w.heap.size + 1, #[.slice none 0 0, .int .i64 0, .int .i64 0], 34), (w.heap.size, kcs c, 48)] := by
    have := ((Ow.Own.refl w).alloc (kcs c) 48).alloc #[.slice none 0 0, .int .i64 0, .int .i64 0] 34
    simp only [World.size_alloc] at this
    rw [hW1]
    exact this
  have HO1 := hidden hO1
  have HU1 := hidden (h.later hO1.below)
  have HR1 := hidden (hR.later hO1.below)
  have HQ1 : Hid (∀ k, Q k → k < W1.heap.size) := fun k hk => Nat.lt_of_lt_of_le (hQ k hk) hO1.below.size
  have HC10 : Hid (∀ w', Below W1.heap.size W1 w' → (Instr.loadAt 44 (.pointer (some ⟨w.heap.size, 10, none⟩))).run Try.prog w' = .ok c.gv w') := fun w' hB => by
    have := (hO1.later hB).cell (b := w.heap.size) (List.mem_cons_of_mem _ (List.mem_cons_self ..)) 10 (v := c.gv) rfl
    simp [go_sem, this]
  have HLD : Hid (∀ w', Below W1.heap.size W1 w' → (Instr.loadAt 48 (.pointer (some ⟨w.heap.size, 0, none⟩))).run Try.prog w' = .ok (kv c) w') := fun w' hB => load15 ((hO1.later hB).has (List.mem_cons_of_mem _ (List.mem_cons_self ..)))
  have HCC : Hid (∀ w', Has w' (W1.heap.size + 1) #[c.gv, c.fv] 44 → Below W1.heap.size W1 w' → Calls Try.prog 48 #[.slice (some ⟨W1.heap.size + 1, 0, none⟩) 2 2] w' fun e w2 => ∃ v, e = .returned v ∧ Gp (fun k => k = w'.heap.size) w2 v (q.gs ++ q.ns) ∧ Below w'.heap.size w' w2) := fun w' hh hB => by
    have h1 := HR1.out.later hB
    refine concat hh (h1.g.mono (fun k hk => Nat.lt_of_lt_of_le (HQ1.out k hk) hB.size)) (h1.f.mono (fun k hk => Nat.lt_of_lt_of_le (HQ1.out k hk) hB.size)) ?_
    have := hR.l
    have := hR.m
    unfold Rq.ns
    split
    · omega
    · simp; omega
  have EF : Hid (∀ (args : Array Value) (w : World), (callFunc 49 args).run Try.prog w = .ok (.enter 49 args) w) := enters_of Try.func49 (by kernel_rfl) rfl
  have EC : Hid (∀ (args : Array Value) (w : World), (callFunc 48 args).run Try.prog w = .ok (.enter 48 args) w) := enters_of Try.func48 (by kernel_rfl) rfl
  unfold kcs at hW1
  have HW1 := hidden hW1
  clear h hR hQ hO1 hW1
  unfold kv kcs
  go_enter Try.func20, Try.ntmps20
  go_upto_region 1 with fail
  rw [← HW1.out]
  refine Ord.wp_region_ex0 (X := Value) (by kernel_rfl) 85 (fun x => [(some 11, .pointer (some ⟨w.heap.size, 10, none⟩)), (some 12, c.gv), (some 13, kv c), (some 14, c.fv), (some 15, .slice (some ⟨W1.heap.size + 1, 0, none⟩) 2 2), (some 16, x), (some 8, x)]) [some 11, some 12, some 13, some 14, some 15, some 16, some 8] rfl (fun listed hsz hr => Ord.all_listedC (rank := [0, 1, 2, 3, 4, 5, 6]) (by kernel_rfl) hsz hr) (by rfl) (fun _ => rfl) (by kernel_rfl) (Rg.StM [3, 4, 5] (fun sk sx w' => CoA W1 c (q.gs ++ q.ns) sk sx w')) (fun _ _ _ _ hL h => h.ext (n := 7) (by decide) hL) ?_ ?_ undef ?_
  case refine_1 =>
    intro x Lq iq oq ac w' ho hi hcl hdep hF hW
    have f1 : ac.tmps.size = 85 := hF.1
    match iq, ho, hi, hdep with
    | 0, ho, hi, hdep =>
      cases ho
      have da0 : ac.eval (.tmp 4) = .pointer (some ⟨w.heap.size, 0, none⟩) := hF.old 4 rfl
      exact Ord.ex_value x rfl rfl (Rg.fa da0 rfl (by simp [go_sem])) rfl (hW.keep (by decide))
    | 1, ho, hi, hdep =>
      cases ho
      have da0 : ac.eval (.tmp 11) = .pointer (some ⟨w.heap.size, 10, none⟩) := hF.2.2.2 0 11 _ rfl (hdep ⟨0, .data⟩ (by simp) rfl)
      obtain ⟨kq, hlo, hhi, hA⟩ := hW.range 0 1 (.inl rfl) (.inr ⟨4, rfl, (Rg.no_of (fun h => hcl 4 _ rfl (h) ⟨1, .data⟩ (by simp) rfl) hi)⟩)
      exact Ord.ex_value x rfl rfl (Rg.load da0 rfl (HC10.out _ (hA.b))) rfl (hW.keep (by decide))
    | 2, ho, hi, hdep =>
      cases ho
      have da0 : ac.eval (.tmp 4) = .pointer (some ⟨w.heap.size, 0, none⟩) := hF.old 4 rfl
      obtain ⟨kq, hlo, hhi, hA⟩ := hW.range 0 0 (.inl rfl) (.inr ⟨3, rfl, (Rg.no_of (fun h => hcl 3 _ rfl (h) ⟨2, .data⟩ (by simp) rfl) hi)⟩)
      exact Ord.ex_value x rfl rfl (Rg.load da0 rfl (HLD.out _ (hA.b))) rfl (hW.keep (by decide))
    | 3, ho, hi, hdep =>
      cases ho
      have da0 : ac.eval (.tmp 13) = kv c := hF.2.2.2 2 13 _ rfl (hdep ⟨2, .data⟩ (by simp) rfl)
      have hA := hW.at (k := 0) rfl hi (.inl rfl)
      have hw := hA.h0 rfl
      subst hw
      exact Rg.ex_call x rfl rfl (Rg.enter (args := #[kv c]) rfl rfl (by simp [da0]) EF.out) (Calls.mono (firm c W1.drew) (by rintro e w2 ⟨rfl, rfl⟩; exact ⟨rfl, hW.next (k := 0) rfl (by decide) hi (.inl rfl) (CoA.one hA)⟩))
    | 4, ho, hi, hdep =>
      cases ho
      have da0 : ac.eval (.tmp 12) = c.gv := hF.2.2.2 1 12 _ rfl (hdep ⟨1, .data⟩ (by simp) rfl)
      have da1 : ac.eval (.tmp 14) = c.fv := hF.2.2.2 3 14 _ rfl (hdep ⟨3, .data⟩ (by simp) rfl)
      have hA := hW.at (k := 1) rfl hi (.inr ⟨3, rfl, (hdep ⟨3, .data⟩ (by simp) rfl)⟩)
      exact Ord.ex_value x rfl rfl (Rg.bsl rfl (by simp [da0, da1]) (run_bsc _ _)) (by rw [hA.h1 rfl]; rfl) (hW.next (k := 1) rfl (by decide) hi (.inr ⟨3, rfl, (hdep ⟨3, .data⟩ (by simp) rfl)⟩) (CoA.two hA))
    | 5, ho, hi, hdep =>
      cases ho
      have da0 : ac.eval (.tmp 15) = .slice (some ⟨W1.heap.size + 1, 0, none⟩) 2 2 := hF.2.2.2 4 15 _ rfl (hdep ⟨4, .data⟩ (by simp) rfl)
      have hA := hW.at (k := 2) rfl hi (.inr ⟨4, rfl, (hdep ⟨4, .data⟩ (by simp) rfl)⟩)
      refine Rg.ex_calll x rfl rfl (Rg.enter (args := #[.slice (some ⟨W1.heap.size + 1, 0, none⟩) 2 2]) rfl rfl (by simp [da0]) EC.out) (Calls.mono (HCC.out _ (hA.h2 rfl) hA.b) ?_)
      rintro e w2 ⟨v, rfl, hg, hB⟩
      exact ⟨v, rfl, (fun j hj => match j, hj with | 0, _ => rfl | 1, _ => rfl | 2, _ => rfl | 3, _ => rfl | 4, _ => rfl | 5, hj => absurd hj (by rw [hi]; decide) | 6, hj => absurd hj (by rw [(Rg.no_of (fun h => hcl 6 _ rfl (h) ⟨5, .data⟩ (by simp) rfl) hi)]; decide) | _ + 7, _ => rfl), hW.next (k := 2) rfl (by decide) hi (.inr ⟨4, rfl, (hdep ⟨4, .data⟩ (by simp) rfl)⟩) (hA.three hg hB)⟩
    | 6, ho, hi, hdep =>
      cases ho
      have da0 : ac.eval (.tmp 16) = x := hF.2.2.2 5 16 _ rfl (hdep ⟨5, .data⟩ (by simp) rfl)
      exact Ord.ex_value x rfl rfl (Rg.asg da0 rfl) rfl (hW.keep (by decide))
  case refine_3 => exact Rg.StM.first (CoA.first W1 c _ _)
  case refine_2 =>
    intro v W2 hW
    have hA := hW.last
    clear hW
    simp only [Ord.puts, Ord.prs]
    go_simp
    have HO2 := hidden (HO1.out.later hA.b)
    have U := hidden (unmade_no (HU1.out.later hA.b))
    obtain ⟨z0, z1, z2⟩ : _ ∧ _ ∧ _ := ⟨HO2.out.cell (b := w.heap.size + 1) (List.mem_cons_self ..) 0 rfl, HO2.out.cell (b := w.heap.size + 1) (List.mem_cons_self ..) 1 rfl, HO2.out.cell (b := w.heap.size + 1) (List.mem_cons_self ..) 2 rfl⟩
    have zf := HO2.out.frozen (b := w.heap.size + 1) (List.mem_cons_self ..)
    clear hA HC10 HCC EC HLD
    go_wp2_with fail
    refine Calls.mono U.out ?_
    rintro e w' ⟨rfl, rfl⟩
    go_wp2
    obtain ⟨y1, y2⟩ := set3 (v0 := .slice none 0 0) (v1 := .int .i64 0) (v2 := .int .i64 0) (HO2.out.has (List.mem_cons_self ..))
    exact bodyPost_ret (res_ct rfl rfl y1) rfl ⟨rfl, HO2.out.below.trans (y2.below HO2.out.below.size (fun k hk => by omega))⟩
end
def bytesOf (s : ByteArray) : List Int := s.data.toList.map fun c => (c.toNat : Int)
theorem bytesOf_len (s : ByteArray) : (bytesOf s).length = s.size := by
  unfold bytesOf
  rw [List.length_map, Array.length_toList]
  rfl
theorem bytesOf_bytes (s : ByteArray) : Bytes (bytesOf s) := by
  intro n hn
  obtain ⟨c, _, rfl⟩ := List.mem_map.1 hn
  have := c.toNat_lt
  omega
theorem conv_str (w : World) (s : ByteArray) (hs : s.size ≤ 1048576) : ∃ cap w', (convert 9 38 (.string s)).run Try.prog w = .ok (.slice (some ⟨w.heap.size, 0, none⟩) s.size cap) w' ∧ Row w' (some ⟨w.heap.size, 0, none⟩) s.size (bytesOf s) ∧ Below w.heap.size w w' := by
  refine ⟨_, _, Lib.run_convert_string_bytes w 9 38 5 s Try.underlying9 Try.underlying38 Try.underlying5, ⟨bytesOf_len s, bytesOf_bytes s, by omega, .inr ⟨w.heap.size, 0, rfl, fun j hj => ?_⟩⟩, ⟨rfl, rfl, rfl, by rw [Lib.bytesWorld_size]; omega, fun k hk => Lib.bytesWorld_at_old w 5 s k hk⟩⟩
  have h1 := Lib.bytesWorld_cell w 5 s j hj
  rw [Nat.zero_add]
  refine h1.trans ?_
  unfold bytesOf
  have hj' : j < s.data.toList.length := by rw [Array.length_toList]; exact hj
  rw [List.getD_eq_getElem?_getD, List.getD_eq_getElem?_getD, List.getElem?_map, List.getElem?_eq_getElem hj']
  rfl
theorem set7 {w : World} {b : Nat} {u0 u1 u2 u3 u4 u5 u6 v0 v1 v2 v3 v4 v5 v6 : Value} {t : TypeId} (h : Has w b #[u0, u1, u2, u3, u4, u5, u6] t) :
    Has (((((((w.setCell ⟨b, 0, none⟩ v0).setCell ⟨b, 1, none⟩ v1).setCell ⟨b, 2, none⟩ v2).setCell ⟨b, 3, none⟩ v3).setCell ⟨b, 4, none⟩ v4).setCell ⟨b, 5, none⟩ v5).setCell ⟨b, 6, none⟩ v6) b #[v0, v1, v2, v3, v4, v5, v6] t ∧ Mod (fun k => k = b) w (((((((w.setCell ⟨b, 0, none⟩ v0).setCell ⟨b, 1, none⟩ v1).setCell ⟨b, 2, none⟩ v2).setCell ⟨b, 3, none⟩ v3).setCell ⟨b, 4, none⟩ v4).setCell ⟨b, 5, none⟩ v5).setCell ⟨b, 6, none⟩ v6) :=
  ⟨by
    have hh := ((((((h.set 0 v0).set 1 v1).set 2 v2).set 3 v3).set 4 v4).set 5 v5).set 6 v6
    simp only [List.setIfInBounds_toArray, List.set_cons_zero, List.set_cons_succ] at hh
    exact hh, (((((((Mod.refl (fun k => k = b) w).set (p := ⟨b, 0, none⟩) rfl v0).set (p := ⟨b, 1, none⟩) rfl v1).set (p := ⟨b, 2, none⟩) rfl v2).set (p := ⟨b, 3, none⟩) rfl v3).set (p := ⟨b, 4, none⟩) rfl v4).set (p := ⟨b, 5, none⟩) rfl v5).set (p := ⟨b, 6, none⟩) rfl v6⟩
theorem part (s : ByteArray) (hs : s.size ≤ 1048576) (w : World) : Calls Try.prog 18 #[.string s] w fun e w' => ∃ b cap, e = .returned (pv 0 0 0 false true true (some ⟨b, 0, none⟩) s.size cap) ∧ w.heap.size ≤ b ∧ Row w' (some ⟨b, 0, none⟩) s.size (bytesOf s) ∧ Below w.heap.size w w' := by
  obtain ⟨W1, hW1⟩ : ∃ W1, W1 = w.alloc (.cells #[.int .u16 0, .int .u16 0, .int .u32 0, .bool false, .slice none 0 0, .bool false, .bool false] 42) := ⟨_, rfl⟩
  have hO1 : Ow.Own w W1 [(w.heap.size, #[.int .u16 0, .int .u16 0, .int .u32 0, .bool false, .slice none 0 0, .bool false, .bool false], 42)] := by rw [hW1]; exact (Ow.Own.refl w).alloc _ 42
  obtain ⟨cap, W2, hr, hrow, hB⟩ := conv_str W1 s hs
  have hO2 := hO1.later hB
  have HROW := hidden hrow
  have HO2 := hidden hO2
  have z0 := hO2.cell (b := w.heap.size) (List.mem_cons_self ..) 0 rfl
  have z1 := hO2.cell (b := w.heap.size) (List.mem_cons_self ..) 1 rfl
  have z2 := hO2.cell (b := w.heap.size) (List.mem_cons_self ..) 2 rfl
  have z3 := hO2.cell (b := w.heap.size) (List.mem_cons_self ..) 3 rfl
  have z4 := hO2.cell (b := w.heap.size) (List.mem_cons_self ..) 4 rfl
  have z5 := hO2.cell (b := w.heap.size) (List.mem_cons_self ..) 5 rfl
  have z6 := hO2.cell (b := w.heap.size) (List.mem_cons_self ..) 6 rfl
  have zf := hO2.frozen (b := w.heap.size) (List.mem_cons_self ..)
  have hle : W1.heap.size = w.heap.size + 1 := by rw [hW1]; simp
  rw [hle] at hr HROW
  rw [hW1] at hr
  generalize hsz : s.size = sz at *
  have HSZ := hidden hsz
  have HLE := hidden hle
  have HB := hidden hO2.below
  clear hrow hO1 hO2 hB hsz hle hs hW1
  go_enter Try.func18, Try.ntmps18
  go_wp2
  obtain ⟨k1, k2⟩ := set7 (v0 := .int .u16 0) (v1 := .int .u16 0) (v2 := .int .u32 0) (v3 := .bool false) (v4 := .slice (some ⟨w.heap.size + 1, 0, none⟩) sz cap) (v5 := .bool true) (v6 := .bool true) (HO2.out.has (b := w.heap.size) (List.mem_cons_self ..))
  refine bodyPost_ret (results_cell_row rfl _ _ w.heap.size 42 #[.int .u16 0, .int .u16 0, .int .u32 0, .bool false, .slice (some ⟨w.heap.size + 1, 0, none⟩) sz cap, .bool true, .bool true] (0, 0) _ rfl k1 Try.underlying42 rfl (by kernel_rfl)) rfl ⟨w.heap.size + 1, cap, rfl, by omega, ?_, HB.out.trans (k2.below HB.out.size (fun k hk => by omega))⟩
  exact k2.row HROW.out (fun b hb' => by obtain ⟨off, e⟩ := hb'; cases e; omega)
end Go.Proofs.Ytjceeckcfjjkkaa.Ob
