/-
  The document's box: a number comes; a packet was heard of.
  Conditions: as at each lemma.
-/
import Derived.Test.YtdifceikfnnfeaaDoorInH
namespace Go.Proofs.YtdifceikfnnfeaaDoor.Sp.Inb
open Go.ChangeShapes Go.WideShapes Go.ChangeAt Go.RowKit
open Ba (hidden Has cell_lt heap_lt)
set_option linter.unusedVariables false
set_option maxRecDepth 20000
section
variable {n0 : Nat} {w : World} {r bs : Nat} {fx dp : Value} {P : List Nat} {s : St} {K : Nat}
theorem own_old {w : World} {base E z n : Nat} {u : Value} {xs : List Value} (h : w.ownsRow base E z u n xs) {k : Nat} (hk : u.ownBlock = some k) : k < w.heap.size := by
  obtain ⟨⟨cs, hh⟩, _⟩ := own_type h hk; exact hh.lt
theorem tidy_ (hq : Has w r (rb bs s.nr s.delay fx dp s.n s.made (decide (0 < s.n)) s.time) 64) (ha : IsRef w bs s.c s.L) (hf : w.ownsRow n0 22 1 fx P.length (us P)) (hP : ∀ t ∈ P, t < 4294967296) (hl : P.length ≤ 65536) (hp : Fx s.c s.F (P.filter fun t => decide (0 < ds s.c t))) (hd : w.ownsRow n0 22 1 dp s.D.length (us s.D)) (hr : n0 ≤ r) (hs : n0 ≤ bs) (h0 : 0 < n0) (hn : n0 ≤ w.heap.size) :
    Calls Tryd.prog 50 #[.pointer (some ⟨r, 0, none⟩)] w fun e w' => e = .returned (.tuple #[]) ∧ ∃ fx', Rf n0 w' r bs fx' dp (P.filter fun t => decide (0 < ds s.c t)) s ∧ Mod (fun k => k = r) w w' ∧ ∀ k, fx'.ownBlock = some k → w.heap.size ≤ k := by
  refine (r_tidy hq ha hf hP hl hn).mono ?_
  rintro e w' ⟨fx', rfl, h1, h2, h3⟩
  obtain ⟨cs, hcs⟩ := IsRef.type ha
  have hbs : ¬ bs = r := fun e => (hcs.ne hq (by decide)) e
  refine ⟨rfl, fx', ⟨h1, h3.isRef ha hbs (fun k cs' hk e => by have e : k = r := e; subst e; exact absurd (has_type hk hq) (by decide)), own_base h2 hn, hp, keep_any h3 hq (by decide) hd, fun k hk hk2 => ?_, hr, hs, h0, Nat.le_trans hn h3.size⟩, h3, fun k hk => (own_type h2 hk).2⟩
  have := own_old hd hk2
  have := (own_type h2 hk).2
  omega
/-- new blocks alone, or the old one -/
def Newer (w : World) (v v' : Value) : Prop := ∀ k, v'.ownBlock = some k → v.ownBlock = some k ∨ w.heap.size ≤ k
theorem Newer.refl (w : World) (v : Value) : Newer w v v := fun k hk => .inl hk
/-- a number comes -/
theorem r_come (h : Rf n0 w r bs fx dp P s) (hk : Ok K s) (t : Nat) (ht : t < 4294967296) : Calls Tryd.prog 24 #[.pointer (some ⟨r, 0, none⟩), .int .u32 (t : Int)] w fun e w' => ∃ fx' dp' P', e = .returned (.tuple #[.bool (comeB t s), .int .i64 (comeE t s)]) ∧ Rf n0 w' r bs fx' dp' P' (comeS t s) ∧ Mod (FD r bs fx dp) w w' ∧ Newer w fx fx' ∧ Newer w dp dp' := by
  obtain ⟨ra, rcap, c0, c1, c2, c3, c4, c5, c6, c7, c8, cf, d0, d1⟩ := h.cells
  obtain ⟨g1, g2, g3⟩ := h.nb
  have hP := h.p.all
  have hpl := h.plen hk
  have AD := rAdd t ht w h.a
  have hS0 : ts s.c 0 = s.c := by unfold ts; have := hk.c; omega
  cases hin : isIn s.c s.L t with
  | true =>
    obtain ⟨e1, e2, e3⟩ := come_in hin
    have AI : Hid (Calls Tryd.prog 49 #[.pointer (some ⟨bs, 0, none⟩), .int .u32 (t : Int)] w fun e w' => e = .returned (.tuple #[.bool false, .int .i64 0]) ∧ w = w') := AD.mono (by
      rintro e w' (⟨_, rfl, rfl⟩ | ⟨h2, _⟩ | ⟨d, h2, _⟩)
      · exact ⟨rfl, rfl⟩
      · rw [hin] at h2; cases h2
      · rw [hin] at h2; cases h2)
    have hp0 : Fx s.c s.F (P.filter fun t => decide (0 < ds s.c t)) := by
      have := h.p.tidy (n := 0) hk.c hk.F (by decide)
      rw [hS0, sh_zero hk.F] at this
      exact this
    by_cases hl : s.D.length < 4096
    · rw [if_pos hl] at e3
      rw [e1, e2, e3]
      obtain ⟨v', w2, hr, h1, h2, h3⟩ := app1 t h.d (by omega) h.hn
      obtain ⟨va, vcap, hva⟩ := Ba.own_len h.d
      obtain ⟨xa, xcap, rfl⟩ := Ba.own_len h1
      have hm2 : Mod (fun k => dp.ownBlock = some k) w w2 := (Mod.of_below (below_new w _)).trans (Mod.grown (F := fun k => dp.ownBlock = some k) h2 (fun k e => e)) (fun x hx => .inl hx)
      have hq2 := hm2.has h.q (fun hh => (g3 _ hh).1 rfl)
      have hq3 := hq2.set 4 (.slice xa (s.D ++ [t]).length xcap)
      have hmr := Mod.setCell (F := fun k => k = r) w2 (p := ⟨r, 4, none⟩) rfl (.slice xa (s.D ++ [t]).length xcap)
      have hm3 : Mod (fun k => k = r ∨ dp.ownBlock = some k) w (w2.setCell ⟨r, 4, none⟩ (.slice xa (s.D ++ [t]).length xcap)) := (hm2.mono fun k hk => .inr hk).trans hmr (fun x hx => .inl (.inl hx))
      have ho3 := keep_any hmr hq2 (by decide) h1
      have hnr : ∀ k, k = r ∨ dp.ownBlock = some k → n0 ≤ k := fun k hk => by
        rcases hk with rfl | hk
        · exact h.hr
        · exact (own_type h.d hk).2
      have hR3 := hm3.isRef h.a (fun hh => by
        rcases hh with hh | hh
        · exact g1 hh.symm
        · exact (g3 _ hh).2 rfl) (fun k cs hk hh => by
        rcases hh with rfl | hh
        · exact absurd (has_type hk h.q) (by decide)
        · obtain ⟨⟨cs', h9⟩, _⟩ := own_type h.d hh
          exact absurd (has_type hk h9) (by decide))
      have hf3 := hm3.own h.f (fun k hk hh => by
        rcases hh with rfl | hh
        · exact (g2 _ hk).1 rfl
        · exact h.ne k hk hh)
      have hNd : Newer w dp (.slice xa (s.D ++ [t]).length xcap) := fun k hk => by
        rcases h3 with e | e
        · exact .inl (e ▸ hk)
        · rw [e] at hk; cases hk; exact .inr (by omega)
      have TI := hidden ((tidy_ (s := { s with D := s.D ++ [t] }) hq3 hR3 hf3 hP hpl hp0 ho3 h.hr h.hs h.h0 (Nat.le_trans h.hn hm3.size)).mono (by
        rintro e w' ⟨rfl, fx', k1, k2, k3⟩
        refine ⟨rfl, fx', _, k1, (hm3.mono ?_).trans k2 (fun x hx => .inl (.inl hx)), fun k hk => .inr (Nat.le_trans hm3.size (k3 k hk))⟩
        rintro k (hk | hk)
        · exact .inl hk
        · exact .inr (.inr (.inr hk)) :
        ∀ e w', _ → (e = .returned (.tuple #[]) ∧ ∃ fx' P', Rf n0 w' r bs fx' (.slice xa (s.D ++ [t]).length xcap) P' { s with D := s.D ++ [t] } ∧ Mod (FD r bs fx dp) w w' ∧ Newer w fx fx')))
      have cc4 : w2.cell? ⟨r, 4, none⟩ = some dp := hq2.cell 4 rfl
      have cf4 := hq2.frozen 4
      have HR := hidden hr
      rw [hva] at c4 cc4 HR
      have hl' : ((s.D.length : Nat) : Int) < 4096 := by omega
      have HND := hidden hNd
      have hlen : (s.D ++ [t]).length = s.D.length + 1 := by simp
      rw [hlen] at TI HND HR
      clear h hk AD hin hl e1 e2 e3 h1 h2 h3 hm2 hq2 hq3 hmr hm3 ho3 hnr hR3 hf3 hNd hr hva hp0 hlen
      generalize (t : Int) = tI at *
      go_enter Tryd.func24, Tryd.ntmps24
      go_wp2_with fail
      refine Calls.mono AI.out ?_
      rintro e w1 ⟨rfl, rfl⟩
      go_wp2_with (first | (at_builtin; refine Rg.wpList_app rfl _ _ 33 rfl rfl rfl HR.out ?_) | fail)
      refine Calls.mono TI.out ?_
      rintro e w3 ⟨rfl, fx', P', hF, hM, hN⟩
      go_wp2
      go_ret2
      exact ⟨fx', _, P', rfl, hF, hM, hN, HND.out⟩
    · rw [if_neg hl] at e3
      rw [e1, e2, e3]
      have TI := hidden ((tidy_ h.q h.a h.f hP hpl hp0 h.d h.hr h.hs h.h0 h.hn).mono (by
        rintro e w' ⟨rfl, fx', k1, k2, k3⟩
        exact ⟨rfl, fx', _, k1, k2.mono (fun k hk => .inl hk), fun k hk => .inr (k3 k hk)⟩ :
        ∀ e w', _ → (e = .returned (.tuple #[]) ∧ ∃ fx' P', Rf n0 w' r bs fx' dp P' s ∧ Mod (FD r bs fx dp) w w' ∧ Newer w fx fx')))
      obtain ⟨va, vcap, hva⟩ := Ba.own_len h.d
      have hl' : ¬ ((s.D.length : Nat) : Int) < 4096 := by omega
      rw [hva] at c4
      clear h hk AD hin hl e1 e2 e3 hp0 hva
      generalize (t : Int) = tI at *
      go_enter Tryd.func24, Tryd.ntmps24
      go_wp2_with fail
      refine Calls.mono AI.out ?_
      rintro e w1 ⟨rfl, rfl⟩
      go_wp2_with fail
      refine Calls.mono TI.out ?_
      rintro e w3 ⟨rfl, fx', P', hF, hM, hN⟩
      go_wp2
      go_ret2
      exact ⟨fx', _, P', rfl, hF, hM, hN, Newer.refl _ _⟩
  | false =>
    by_cases hfar : 65535 < ds s.c t
    · obtain ⟨e1, e2, e3⟩ := come_far hin hfar
      rw [e1, e2, e3]
      have AI : Hid (Calls Tryd.prog 49 #[.pointer (some ⟨bs, 0, none⟩), .int .u32 (t : Int)] w fun e w' => e = .returned (.tuple #[.bool false, .int .i64 31]) ∧ w = w') := AD.mono (by
        rintro e w' (⟨h2, _⟩ | ⟨_, _, rfl, rfl⟩ | ⟨d, _, h3, h4, _⟩)
        · rw [hin] at h2; cases h2
        · exact ⟨rfl, rfl⟩
        · have h3' : ds s.c t = (d : Int) := h3; omega)
      have FN := hidden h
      clear h hk AD hin hfar e1 e2 e3
      generalize (t : Int) = tI at *
      go_enter Tryd.func24, Tryd.ntmps24
      go_wp2_with fail
      refine Calls.mono AI.out ?_
      rintro e w' ⟨rfl, rfl⟩
      go_wp2
      go_ret2
      exact ⟨fx, dp, P, rfl, FN.out, Mod.refl _ _, Newer.refl _ _, Newer.refl _ _⟩
    · obtain ⟨d, d1', d2, d3, d4⟩ := not_in hk.c ht hin
      have d5 : d ≤ 65535 := by omega
      obtain ⟨e1, e2, e3⟩ := come_new hin d3 d5
      rw [e1, e2, e3]
      have AI : Hid (Calls Tryd.prog 49 #[.pointer (some ⟨bs, 0, none⟩), .int .u32 (t : Int)] w fun e w' => e = .returned (.tuple #[.bool true, .int .i64 0]) ∧ IsRef w' bs (ts s.c (addN d s.L)) (addL d s.L) ∧ w.grownBy w' (some bs)) := AD.mono (by
        rintro e w' (⟨h2, _⟩ | ⟨_, h3, _⟩ | ⟨d', _, h3, h4, _, _, rfl, h6, h7⟩)
        · rw [hin] at h2; cases h2
        · have h3' : 65535 < ds s.c t := h3; omega
        · have h3' : ds s.c t = (d' : Int) := h3
          obtain rfl : d' = d := by omega
          exact ⟨rfl, h6, h7⟩)
      have TI := hidden (fun (w1 : World) (hR : IsRef w1 bs (ts s.c (addN d s.L)) (addL d s.L)) (hg : w.grownBy w1 (some bs)) => (by
        have hm : Mod (fun k => k = bs) w w1 := Mod.grown hg (by rintro k e; cases e; rfl)
        refine (tidy_ (s := { s with c := ts s.c (addN d s.L), L := addL d s.L, F := sh (addN d s.L) s.F }) (hm.has h.q (show ¬ r = bs from g1)) hR (hm.own h.f (fun k hk => show ¬ k = bs from (g2 k hk).2)) hP hpl (h.p.tidy hk.c hk.F (add_lead_le hk.L)) (hm.own h.d (fun k hk => show ¬ k = bs from (g3 k hk).2)) h.hr h.hs h.h0 (Nat.le_trans h.hn hm.size)).mono ?_
        rintro e w' ⟨rfl, fx', k1, k2, k3⟩
        exact ⟨rfl, fx', _, k1, (hm.mono (fun k hk => .inr (.inl hk))).trans k2 (fun x hx => .inl (.inl hx)), fun k hk => .inr (Nat.le_trans hm.size (k3 k hk))⟩ :
        Calls Tryd.prog 50 #[.pointer (some ⟨r, 0, none⟩)] w1 fun e w' => e = .returned (.tuple #[]) ∧ ∃ fx' P', Rf n0 w' r bs fx' dp P' { s with c := ts s.c (addN d s.L), L := addL d s.L, F := sh (addN d s.L) s.F } ∧ Mod (FD r bs fx dp) w w' ∧ Newer w fx fx'))
      clear h hk AD hin hfar e1 e2 e3
      generalize (t : Int) = tI at *
      go_enter Tryd.func24, Tryd.ntmps24
      go_wp2_with fail
      refine Calls.mono AI.out ?_
      rintro e w1 ⟨rfl, hR, hg⟩
      go_wp2_with fail
      refine Calls.mono (TI.out _ hR hg) ?_
      rintro e w2 ⟨rfl, fx', P', hF, hM, hN⟩
      go_wp2
      go_ret2
      exact ⟨fx', dp, P', rfl, hF, hM, hN, Newer.refl _ _⟩
end
end Go.Proofs.YtdifceikfnnfeaaDoor.Sp.Inb
