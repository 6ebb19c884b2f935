/-
  The document's box: numbers are fixed.
  Conditions: as at each lemma.
-/
import Derived.Test.YtdifceikfnnfeaaDoorInJ
namespace Go.Proofs.YtdifceikfnnfeaaDoor.Sp.Inb
open Go.ChangeShapes Go.WideShapes Go.ChangeAt Go.RowKit
open Ba (hidden Has cell_lt heap_lt)
set_option linter.unusedVariables false
set_option maxRecDepth 20000
/-- worlds while one number more is appended and stored -/
structure ApA (W : World) (C : Obj) (W2 W3 : World) (k : Nat) (w' : World) : Prop where
  h0 : k = 0 → w' = W.drew
  h1 : k = 1 → w' = W.drew.alloc C
  h2 : k = 2 → w' = W2
  h3 : k = 3 → w' = W3
  bel : k ≤ 1 → Below W.heap.size W w'
section
variable {W W2 W3 w' : World} {C : Obj}
theorem ApA.first (W : World) (C : Obj) (W2 W3 : World) : ApA W C W2 W3 0 W.drew := ⟨fun _ => rfl, fun e => absurd e (by decide), fun e => absurd e (by decide), fun e => absurd e (by decide), fun _ => below_drew (Below.refl _ _)⟩
theorem ApA.s1 (h : ApA W C W2 W3 0 W.drew) : ApA W C W2 W3 1 (W.drew.alloc C) := ⟨fun e => absurd e (by decide), fun _ => rfl, fun e => absurd e (by decide), fun e => absurd e (by decide), fun _ => (below_drew (Below.refl _ _)).alloc (Nat.le_refl _) _⟩
theorem ApA.s2 (h : ApA W C W2 W3 1 w') : ApA W C W2 W3 2 W2 := ⟨fun e => absurd e (by decide), fun e => absurd e (by decide), fun _ => rfl, fun e => absurd e (by decide), fun e => absurd e (by decide)⟩
theorem ApA.s3 (h : ApA W C W2 W3 2 w') : ApA W C W2 W3 3 W3 := ⟨fun e => absurd e (by decide), fun e => absurd e (by decide), fun e => absurd e (by decide), fun _ => rfl, fun e => absurd e (by decide)⟩
theorem bs22 (x : Int) (w : World) : (Instr.buildSlice 33 1 #[(0, .int .u32 x)]).run Tryd.prog w = .ok (.slice (some ⟨w.heap.size, 0, none⟩) 1 1) (w.alloc (.cells #[.int .u32 x] 22)) := by kernel_rfl
end
section
variable {n0 : Nat} {w : World} {r bs : Nat} {fx dp : Value} {P : List Nat} {s : St} {K : Nat}
/-- one number is fixed -/
theorem hold_fin {w2 : World} {t : Nat} {fx' : Value} (h : Rf n0 w r bs fx dp P s) (hk : Ok K s) (ht : t < 4294967296) (hf : free t s = true) (h1 : w2.ownsRow n0 22 1 fx' (P ++ [t]).length (us (P ++ [t]))) (h2 : (w.drew.alloc (.cells #[.int .u32 (t : Int)] 22)).grownBy w2 fx.ownBlock) (h3 : fx'.ownBlock = fx.ownBlock ∨ fx'.ownBlock = some (w.heap.size + 1)) :
    w2.cell? ⟨r, 3, none⟩ = some fx ∧ w2.frozen? ⟨r, 3, none⟩ = false ∧ Rf n0 (w2.setCell ⟨r, 3, none⟩ fx') r bs fx' dp (P ++ [t]) (fixS t s) ∧ Mod (FD r bs fx dp) w (w2.setCell ⟨r, 3, none⟩ fx') ∧ Newer w fx fx' := by
  obtain ⟨g1, g2, g3⟩ := h.nb
  have hB : Below w.heap.size w (w.drew.alloc (.cells #[.int .u32 (t : Int)] 22)) := (below_drew (Below.refl _ _)).alloc (Nat.le_refl _) _
  have hm2 : Mod (fun k => fx.ownBlock = some k) w w2 := (Mod.of_below hB).trans (Mod.grown (F := fun k => fx.ownBlock = some k) h2 (fun k e => e)) (fun x hx => .inl hx)
  have hq2 := hm2.has h.q (fun hh => (g2 _ hh).1 rfl)
  have hq3 := hq2.set 3 fx'
  have hmr := Mod.setCell (F := fun k => k = r) w2 (p := ⟨r, 3, none⟩) rfl fx'
  have hm3 : Mod (fun k => k = r ∨ fx.ownBlock = some k) w (w2.setCell ⟨r, 3, none⟩ fx') := (hm2.mono fun k hk => .inr hk).trans hmr (fun x hx => .inl (.inl hx))
  have hN : Newer w fx fx' := fun k hk => by
    rcases h3 with e | e
    · exact .inl (e ▸ hk)
    · rw [e] at hk; cases hk; exact .inr (by omega)
  have e2 : fixS t s = { s with F := ins (ds s.c t).toNat s.F } := by unfold fixS; rw [if_pos hf]
  have h0 : 0 ≤ ds s.c t := by
    have := hk.L.2 _ (free_iff.1 hf).1
    omega
  refine ⟨hq2.cell 3 rfl, hq2.frozen 3, ?_, hm3.mono ?_, hN⟩
  · rw [e2]
    refine ⟨hq3, hm3.isRef h.a (fun hh => ?_) (fun k cs hk hh => ?_), keep_any hmr hq2 (by decide) h1, h.p.hold hk.c ht h0, hm3.own h.d (fun k hk hh => ?_), fun k hk hk2 => ?_, h.hr, h.hs, h.h0, Nat.le_trans h.hn hm3.size⟩
    · rcases hh with hh | hh
      · exact g1 hh.symm
      · exact (g2 _ hh).2 rfl
    · rcases hh with rfl | hh
      · exact absurd (has_type hk h.q) (by decide)
      · obtain ⟨⟨cs', h9⟩, _⟩ := own_type h.f hh
        exact absurd (has_type hk h9) (by decide)
    · rcases hh with rfl | hh
      · exact (g3 _ hk).1 rfl
      · exact h.ne k hh hk
    · rcases hN k hk with e | e
      · exact h.ne k e hk2
      · have := own_old h.d hk2; omega
  · rintro k (hk | hk)
    · exact .inl hk
    · exact .inr (.inr (.inl hk))
theorem Newer.trans {w w' : World} {a b c : Value} (h : Newer w a b) (k : Newer w' b c) (hs : w.heap.size ≤ w'.heap.size) : Newer w a c := fun x hx => by
  rcases k x hx with e | e
  · exact h x e
  · exact .inr (Nat.le_trans hs e)
theorem Mod.next {w1 w2 w3 : World} {fx' dp' : Value} (h : Mod (FD r bs fx dp) w1 w2) (k : Mod (FD r bs fx' dp') w2 w3) (h1 : Newer w1 fx fx') (h2 : Newer w1 dp dp') : Mod (FD r bs fx dp) w1 w3 := h.trans k fun x hx => by
  rcases hx with hx | hx | hx | hx
  · exact .inl (.inl hx)
  · exact .inl (.inr (.inl hx))
  · rcases h1 x hx with e | e
    · exact .inl (.inr (.inr (.inl e)))
    · exact .inr e
  · rcases h2 x hx with e | e
    · exact .inl (.inr (.inr (.inr e)))
    · exact .inr e
set_option maxHeartbeats 1000000 in
theorem r_hold (h : Rf n0 w r bs fx dp P s) (hk : Ok K s) (l : List Nat) (hl : ∀ t ∈ l, t < 4294967296) (hn : l.length ≤ 140737488355328) (la : Option Addr) (lcap : Nat) (HR : ∀ w', Mod (FD r bs fx dp) w w' → Nums w' (.slice la l.length lcap) l.length (nf l)) :
    Calls Tryd.prog 26 #[.pointer (some ⟨r, 0, none⟩), .slice la l.length lcap] w fun e w' => ∃ fx' P', e = .returned (.int .i64 (fixN l s)) ∧ Rf n0 w' r bs fx' dp P' (fixAll l s) ∧ Mod (FD r bs fx dp) w w' ∧ Newer w fx fx' := by
  have H0 := hidden h
  have HR := hidden HR
  clear h
  obtain ⟨N, hN⟩ : ∃ N, Hid (l.length = N) := ⟨_, rfl⟩
  rw [hN.out] at hn ⊢
  go_enter Tryd.func26, Tryd.ntmps26
  go_wp2_with fail
  go_loopw [5, 6] (fun an i wr => ∃ (k : Nat) (fxk : Value) (Pk : List Nat), k ≤ N ∧ i = .int .i64 (k : Int) ∧ an = .int .i64 (fixN (l.take k) s) ∧ Rf n0 wr r bs fxk dp Pk (fixAll (l.take k) s) ∧ Mod (FD r bs fx dp) w wr ∧ Newer w fx fxk) (fun an i wr => N - (intOf i).toNat)
  case atStart => exact ⟨0, fx, P, by omega, rfl, rfl, H0.out, Mod.refl _ _, Newer.refl _ _⟩
  case round =>
    obtain ⟨k, fxk, Pk, hkN, rfl, rfl, hC, hM, hNw⟩ := hrel
    have hb := fixN_bound (l.take k) s
    rw [List.length_take] at hb
    by_cases hlt : k < N
    · have hkl : k < l.length := by rw [hN.out]; exact hlt
      have hrow := HR.out wr hM
      obtain ⟨x, hx⟩ : ∃ x, l[k]? = some x := ⟨_, List.getElem?_eq_getElem hkl⟩
      have hxl := hl _ (List.mem_of_getElem? hx)
      obtain ⟨rb_, off, rfl, hrb, hc⟩ := Nums.nat hrow hkl
      rw [nf_some hx] at hc
      have hOk := fixAll_ok (l := l.take k) hk
      have AB := hidden (above_ hC hOk x hxl)
      have FI := hidden (fixed_ hC hOk x hxl)
      have E1 := hidden (show fixS x (fixAll (l.take k) s) = fixAll (l.take (k + 1)) s by rw [take_some hx, fixAll_snoc])
      have E2 := hidden (show fixN (l.take k) s + (if free x (fixAll (l.take k) s) = true then 1 else 0) = fixN (l.take (k + 1)) s by rw [take_some hx, fixN_snoc])
      have hlt' : (k : Int) < (N : Int) := by omega
      have HB := hidden (show (0 ≤ fixN (l.take (k + 1)) s ∧ fixN (l.take (k + 1)) s ≤ 140737488355328) by have := fixN_bound (l.take (k + 1)) s; rw [List.length_take] at this; omega)
      have same : free x (fixAll (l.take k) s) = false → Hid (∃ fxk' Pk', fixN (l.take k) s = fixN (l.take (k + 1)) s ∧ Rf n0 wr r bs fxk' dp Pk' (fixAll (l.take (k + 1)) s) ∧ Mod (FD r bs fx dp) w wr ∧ Newer w fx fxk') := fun e => by
        refine ⟨fxk, Pk, ?_, ?_, hM, hNw⟩
        · have := E2.out; rw [e, if_neg (by simp)] at this; omega
        · have := E1.out
          unfold fixS at this
          rw [e, if_neg (by simp)] at this
          rw [← this]; exact hC
      obtain ⟨ra, rcap, c0, c1, c2, c3, c4, c5, c6, c7, c8, cf, d0, d1⟩ := hC.cells
      by_cases h1 : (ds (fixAll (l.take k) s).c x).toNat ∈ (fixAll (l.take k) s).L
      · rw [decide_eq_true h1] at AB
        by_cases h2 : (ds (fixAll (l.take k) s).c x).toNat ∈ (fixAll (l.take k) s).F
        · rw [decide_eq_true h2] at FI
          have SA := same (free_not.2 (.inr h2))
          clear hC hM hNw hrow hkl hx hxl hOk E1 E2 HB same h1 h2 HR H0 hk hl
          generalize (x : Int) = xI at *
          generalize fixN (l.take k) s = A at *
          go_wp2_with fail
          refine Calls.mono AB.out ?_
          rintro e w' ⟨rfl, rfl⟩
          go_wp2_with fail
          refine Calls.mono FI.out ?_
          rintro e w' ⟨rfl, rfl⟩
          obtain ⟨fxk', Pk', z1, z2⟩ := SA.out
          have Z := hidden z2
          clear z2 SA
          go_wp2
          go_roundw
          case rel => exact ⟨k + 1, fxk', Pk', hlt, rfl, by first | rfl | rw [z1], Z.out⟩
          case measure => simp only [intOf]; omega
        · rw [decide_eq_false h2] at FI
          have hfr : free x (fixAll (l.take k) s) = true := free_iff.2 ⟨h1, h2⟩
          obtain ⟨v', W2, hr, o1, o2, o3⟩ := app1 (w := wr.drew) x (show wr.drew.ownsRow n0 22 1 fxk Pk.length (us Pk) from hC.f) (by have := hC.plen hOk; omega) hC.hn
          obtain ⟨fa2, fcap2, rfl⟩ := Ba.own_len o1
          obtain ⟨fa, fcap, hfv⟩ := Ba.own_len hC.f
          obtain ⟨z1, z2, z3, z4, z5⟩ := hold_fin hC hOk hxl hfr o1 o2 o3
          have LDF : Hid (∀ X, Below wr.heap.size wr X → (Instr.loadAt 33 (.pointer (some ⟨r, 3, none⟩))).run Tryd.prog X = .ok (.slice fa Pk.length fcap) X) := fun X hX => by
            have e := (hX.cell (p := ⟨r, 3, none⟩) (cell_lt c3)).trans c3
            rw [hfv] at e
            simp [go_sem, e]
          have LDX : Hid (∀ X, Below wr.heap.size wr X → (Instr.loadAt 22 (.pointer (some ⟨rb_, off + k, none⟩))).run Tryd.prog X = .ok (.int .u32 (x : Int)) X) := fun X hX => by
            have e := (hX.cell (p := ⟨rb_, off + k, none⟩) (cell_lt hc)).trans hc
            simp [go_sem, e]
          have HIX : Hid (∀ X : World, (Instr.indexAt 33 (.slice (some ⟨rb_, off, none⟩) N lcap) (.int .i64 (k : Int))).run Tryd.prog X = .ok (.pointer (some ⟨rb_, off + k, none⟩)) X) := fun X => by simp [go_sem, hlt']
          have HBS : Hid (∀ X : World, (Instr.buildSlice 33 1 #[(0, .int .u32 (x : Int))]).run Tryd.prog X = .ok (.slice (some ⟨X.heap.size, 0, none⟩) 1 1) (X.alloc (.cells #[.int .u32 (x : Int)] 22))) := fun X => bs22 _ X
          rw [hfv] at hr
          have HAP := hidden hr
          have HST : Hid ((Instr.storeAt 33 (.pointer (some ⟨r, 3, none⟩)) (.slice fa2 (Pk ++ [x]).length fcap2)).run Tryd.prog W2 = .ok () (W2.setCell ⟨r, 3, none⟩ (.slice fa2 (Pk ++ [x]).length fcap2))) := by
            show _ = _
            simp [go_sem, z1, z2]
          obtain ⟨W3, e3⟩ : ∃ W3, W2.setCell ⟨r, 3, none⟩ (.slice fa2 (Pk ++ [x]).length fcap2) = W3 := ⟨_, rfl⟩
          rw [e3] at HST z3 z4
          rw [E1.out] at z3
          have E3 := E2.out
          rw [hfr, if_pos rfl] at E3
          have HX := HB.out
          rw [← E3] at HX
          have FN := hidden (⟨z3, hM.next z4 hNw (Newer.refl _ _), hNw.trans z5 hM.size⟩ : Rf n0 W3 r bs (.slice fa2 (Pk ++ [x]).length fcap2) dp (Pk ++ [x]) (fixAll (l.take (k + 1)) s) ∧ Mod (FD r bs fx dp) w W3 ∧ Newer w fx (.slice fa2 (Pk ++ [x]).length fcap2))
          clear hC hM hNw hrow hkl hx hxl hOk E1 E2 HB same h1 h2 HR H0 hk hl o1 o2 o3 z1 z2 z3 z4 z5 hr hfv e3 hfr
          generalize hpq : (Pk ++ [x]).length = pn2 at *
          clear hpq
          generalize Pk.length = pn at *
          generalize (x : Int) = xI at *
          generalize fixN (l.take k) s = A at *
          have hw : IntKind.i64.wrap (A + 1) = A + 1 := by rw [IntKind.wrap_i64]; omega
          go_wp2_with fail
          refine Calls.mono AB.out ?_
          rintro e w' ⟨rfl, rfl⟩
          go_wp2_with fail
          refine Calls.mono FI.out ?_
          rintro e w' ⟨rfl, rfl⟩
          go_wp2_with fail
          refine Ord.wp_region_ex0 (X := Unit) (by kernel_rfl) 44 (fun x => [(some 28, .pointer (some ⟨r, 0, none⟩)), (some 29, .pointer (some ⟨r, 0, none⟩)), (some 30, .pointer (some ⟨r, 0, none⟩)), (some 31, .pointer (some ⟨r, 3, none⟩)), (some 32, .slice fa pn fcap), (some 33, .slice (some ⟨rb_, off, none⟩) N lcap), (some 34, .int .i64 (k : Int)), (some 35, .pointer (some ⟨rb_, off + k, none⟩)), (some 36, .int .u32 xI), (some 37, .slice (some ⟨wr.drew.heap.size, 0, none⟩) 1 1), (some 38, .slice fa2 pn2 fcap2), (some 39, .pointer (some ⟨r, 0, none⟩)), (some 40, .pointer (some ⟨r, 3, none⟩)), (none, undef)]) [some 28, some 29, some 30, some 31, some 32, some 33, some 34, some 35, some 36, some 37, some 38, some 39, some 40, none] rfl (fun listed hsz hr => Ord.all_listedC (rank := [0, 1, 2, 3, 4, 5, 6, 7, 8, 9, 10, 11, 12, 13]) (by kernel_rfl) hsz hr) (by rfl) (fun _ => rfl) (by kernel_rfl) (Rg.StM [9, 10, 13] (fun sk sx w' => ApA wr (.cells #[.int .u32 xI] 22) W2 W3 sk w')) (fun _ _ _ _ hL h => h.ext (n := 14) (by decide) hL) ?_ ?_ () ?_
          case refine_1 =>
            intro x Lq iq oq ac w' ho hi hcl hdep hF hW
            have f1 : ac.tmps.size = 44 := hF.1
            match iq, ho, hi, hdep with
            | 0, ho, hi, hdep =>
              cases ho
              have da0 : ac.eval (.tmp 0) = .pointer (some ⟨r, 0, none⟩) := hF.old 0 rfl
              exact Ord.ex_value x rfl rfl (Rg.mv da0 rfl) rfl (hW.keep (by decide))
            | 1, ho, hi, hdep =>
              cases ho
              have da0 : ac.eval (.tmp 0) = .pointer (some ⟨r, 0, none⟩) := hF.old 0 rfl
              exact Ord.ex_value x rfl rfl (Rg.mv da0 rfl) rfl (hW.keep (by decide))
            | 2, ho, hi, hdep =>
              cases ho
              have da0 : ac.eval (.tmp 29) = .pointer (some ⟨r, 0, none⟩) := hF.2.2.2 1 29 _ rfl (hdep ⟨1, .data⟩ (by simp) rfl)
              exact Ord.ex_value x rfl rfl (Rg.nilc da0 rfl) rfl (hW.keep (by decide))
            | 3, ho, hi, hdep =>
              cases ho
              have da0 : ac.eval (.tmp 30) = .pointer (some ⟨r, 0, none⟩) := hF.2.2.2 2 30 _ rfl (hdep ⟨2, .data⟩ (by simp) rfl)
              exact Ord.ex_value x rfl rfl (Rg.fa da0 rfl (by simp [go_sem])) rfl (hW.keep (by decide))
            | 4, ho, hi, hdep =>
              cases ho
              have da0 : ac.eval (.tmp 31) = .pointer (some ⟨r, 3, none⟩) := hF.2.2.2 3 31 _ rfl (hdep ⟨3, .data⟩ (by simp) rfl)
              obtain ⟨kq, hlo, hhi, hA⟩ := hW.range 0 1 (.inl rfl) (.inr ⟨10, rfl, (Rg.no_of (fun h => hcl 10 _ rfl (h) ⟨4, .data⟩ (by simp) rfl) hi)⟩)
              exact Ord.ex_value x rfl rfl (Rg.load da0 rfl (LDF.out _ (hA.bel (by omega)))) rfl (hW.keep (by decide))
            | 5, ho, hi, hdep =>
              cases ho
              have da0 : ac.eval (.tmp 1) = .slice (some ⟨rb_, off, none⟩) N lcap := hF.old 1 rfl
              exact Ord.ex_value x rfl rfl (Rg.mv da0 rfl) rfl (hW.keep (by decide))
            | 6, ho, hi, hdep =>
              cases ho
              have da0 : ac.eval (.tmp 6) = .int .i64 (k : Int) := hF.old 6 rfl
              exact Ord.ex_value x rfl rfl (Rg.mv da0 rfl) rfl (hW.keep (by decide))
            | 7, ho, hi, hdep =>
              cases ho
              have da0 : ac.eval (.tmp 33) = .slice (some ⟨rb_, off, none⟩) N lcap := hF.2.2.2 5 33 _ rfl (hdep ⟨5, .data⟩ (by simp) rfl)
              have da1 : ac.eval (.tmp 34) = .int .i64 (k : Int) := hF.2.2.2 6 34 _ rfl (hdep ⟨6, .data⟩ (by simp) rfl)
              exact Ord.ex_value x rfl rfl (Rg.ix da0 da1 rfl (HIX.out _)) rfl (hW.keep (by decide))
            | 8, ho, hi, hdep =>
              cases ho
              have da0 : ac.eval (.tmp 35) = .pointer (some ⟨rb_, off + k, none⟩) := hF.2.2.2 7 35 _ rfl (hdep ⟨7, .data⟩ (by simp) rfl)
              obtain ⟨kq, hlo, hhi, hA⟩ := hW.range 0 0 (.inl rfl) (.inr ⟨9, rfl, (Rg.no_of (fun h => hcl 9 _ rfl (h) ⟨8, .data⟩ (by simp) rfl) hi)⟩)
              exact Ord.ex_value x rfl rfl (Rg.load da0 rfl (LDX.out _ (hA.bel (by omega)))) rfl (hW.keep (by decide))
            | 9, ho, hi, hdep =>
              cases ho
              have da0 : ac.eval (.tmp 36) = .int .u32 xI := hF.2.2.2 8 36 _ rfl (hdep ⟨8, .data⟩ (by simp) rfl)
              have hA := hW.at (k := 0) rfl hi (.inl rfl)
              have hw := hA.h0 rfl
              subst hw
              exact Ord.ex_value x rfl rfl (Rg.bsl rfl (by simp [da0]) (HBS.out _)) rfl (hW.next (k := 0) rfl (by decide) hi (.inl rfl) hA.s1)
            | 10, ho, hi, hdep =>
              cases ho
              have da0 : ac.eval (.tmp 32) = .slice fa pn fcap := hF.2.2.2 4 32 _ rfl (hdep ⟨4, .data⟩ (by simp) rfl)
              have da1 : ac.eval (.tmp 37) = .slice (some ⟨wr.drew.heap.size, 0, none⟩) 1 1 := hF.2.2.2 9 37 _ rfl (hdep ⟨9, .data⟩ (by simp) rfl)
              have hA := hW.at (k := 1) rfl hi (.inr ⟨9, rfl, (hdep ⟨9, .data⟩ (by simp) rfl)⟩)
              have hw := hA.h1 rfl
              subst hw
              exact Ord.ex_value x rfl rfl (Rg.app da0 da1 rfl HAP.out) rfl (hW.next (k := 1) rfl (by decide) hi (.inr ⟨9, rfl, (hdep ⟨9, .data⟩ (by simp) rfl)⟩) hA.s2)
            | 11, ho, hi, hdep =>
              cases ho
              have da0 : ac.eval (.tmp 28) = .pointer (some ⟨r, 0, none⟩) := hF.2.2.2 0 28 _ rfl (hdep ⟨0, .data⟩ (by simp) rfl)
              exact Ord.ex_value x rfl rfl (Rg.nilc da0 rfl) rfl (hW.keep (by decide))
            | 12, ho, hi, hdep =>
              cases ho
              have da0 : ac.eval (.tmp 39) = .pointer (some ⟨r, 0, none⟩) := hF.2.2.2 11 39 _ rfl (hdep ⟨11, .data⟩ (by simp) rfl)
              exact Ord.ex_value x rfl rfl (Rg.fa da0 rfl (by simp [go_sem])) rfl (hW.keep (by decide))
            | 13, ho, hi, hdep =>
              cases ho
              have da0 : ac.eval (.tmp 40) = .pointer (some ⟨r, 3, none⟩) := hF.2.2.2 12 40 _ rfl (hdep ⟨12, .data⟩ (by simp) rfl)
              have da1 : ac.eval (.tmp 38) = .slice fa2 pn2 fcap2 := hF.2.2.2 10 38 _ rfl (hdep ⟨10, .data⟩ (by simp) rfl)
              have hA := hW.at (k := 2) rfl hi (.inr ⟨10, rfl, (hdep ⟨10, .data⟩ (by simp) rfl)⟩)
              have hw := hA.h2 rfl
              subst hw
              exact Rg.ex_skip x rfl rfl (Rg.sto da0 da1 rfl HST.out) rfl (hW.next (k := 2) rfl (by decide) hi (.inr ⟨10, rfl, (hdep ⟨10, .data⟩ (by simp) rfl)⟩) hA.s3)
          case refine_3 => exact Rg.StM.first (ApA.first _ _ _ _)
          case refine_2 =>
            intro vq wq hW
            have hw2 := hW.last.h3 rfl
            subst hw2
            clear hW
            simp only [Ord.puts, Ord.prs]
            go_simp
            go_wp2
            go_roundw
            case rel => exact ⟨k + 1, _, _, hlt, rfl, by first | rfl | rw [E3], FN.out⟩
            case measure => simp only [intOf]; omega
      · rw [decide_eq_false h1] at AB
        have SA := same (free_not.2 (.inl h1))
        clear hC hM hNw hrow hkl hx hxl hOk E1 E2 HB same h1 HR H0 hk hl FI
        generalize (x : Int) = xI at *
        generalize fixN (l.take k) s = A at *
        go_wp2_with fail
        refine Calls.mono AB.out ?_
        rintro e w' ⟨rfl, rfl⟩
        obtain ⟨fxk', Pk', z1, z2⟩ := SA.out
        have Z := hidden z2
        clear z2 SA
        go_wp2
        go_roundw
        case rel => exact ⟨k + 1, fxk', Pk', hlt, rfl, by first | rfl | rw [z1], Z.out⟩
        case measure => simp only [intOf]; omega
    · obtain rfl : k = N := by omega
      have e1 : l.take k = l := by rw [← hN.out]; exact List.take_length
      rw [e1] at hC hb ⊢
      have HC := hidden (⟨hC, hM, hNw⟩ : _ ∧ _ ∧ _)
      clear hC hM hNw
      go_wp2
      go_ret
      exact ⟨_, _, rfl, HC.out⟩
end
end Go.Proofs.YtdifceikfnnfeaaDoor.Sp.Inb
