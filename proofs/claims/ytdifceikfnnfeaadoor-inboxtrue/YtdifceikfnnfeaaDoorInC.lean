/-
  The code's set behind a box: a number is put in, fixed, taken out; cum of what is fixed follows.
  Conditions: the box was made by the package.
-/
import Derived.Test.YtdifceikfnnfeaaDoorInB
import Derived.Deep.LoopGhost
namespace Go.Proofs.YtdifceikfnnfeaaDoor.Sp.Inb
open Go.ChangeShapes Go.WideShapes Go.ChangeAt Go.RowKit
open Ba (hidden Has cell_lt heap_lt)
set_option linter.unusedVariables false
set_option maxRecDepth 20000

theorem u32_ne (a b : Nat) : ((a : Int) != (b : Int)) = decide (a ≠ b) := by
  by_cases h : a = b
  · subst h; simp
  · rw [decide_eq_true h]; simp; exact fun e => h (by omega)
theorem ts_add (c a m : Nat) : ts (ts c a) m = ts c (a + m) := by unfold ts; omega
/-- the next one is put in -/
theorem add_next {X : World} {b c : Nat} {G : List Nat} (h : IsSet X b c G) : Calls Tryd.prog 67 #[.pointer (some ⟨b, 0, none⟩), .int .u32 (ts c 1 : Nat)] X fun e w' => e = .returned (.tuple #[.bool true, .int .i64 0]) ∧ IsSet w' b (ts c (addN 1 G)) (addL 1 G) ∧ X.grownBy w' (some b) := by
  have hd : ds c (ts c 1) = 1 := ds_ts c 1 h.1 (by decide)
  have h1 : 1 ∉ G := fun hm => by have := h.2.1.2 1 hm; omega
  have hi : isIn c G (ts c 1) = false := by
    unfold isIn
    rw [show Ser.dist 4294967296 (c : Int) ((ts c 1 : Nat) : Int) = 1 from hd]
    simp [h1]
  refine (add_ (ts c 1) (ts_lt _ _) X h).mono ?_
  rintro e w' (⟨h2, _⟩ | ⟨_, h3, _⟩ | ⟨d, _, h3, _, _, _, rfl, hS, hg⟩)
  · rw [hi] at h2; cases h2
  · rw [show Ser.dist 4294967296 (c : Int) ((ts c 1 : Nat) : Int) = 1 from hd] at h3; omega
  · rw [show Ser.dist 4294967296 (c : Int) ((ts c 1 : Nat) : Int) = 1 from hd] at h3
    obtain rfl : d = 1 := by omega
    exact ⟨rfl, hS, hg⟩
theorem sam_grown {w X X' : World} {row : Option Nat} (h : Sam w X) (hg : X.grownBy X' row) : w.grownBy X' row :=
  ⟨hg.os.trans h.2.1, hg.tape.trans h.2.2.1, hg.output.trans h.2.2.2, by have := hg.size; rw [h.1] at this; exact this, fun k hk hn => (hg.block k (by rw [h.1]; exact hk) hn).trans (by rw [h.1])⟩
/-- cum of what is fixed moves to that of what came -/
theorem follow {w : World} {b bc bf c N : Nat} {M F : List Nat} (c0 : w.cell? ⟨b, 0, none⟩ = some (.pointer (some ⟨bc, 0, none⟩))) (c1 : w.cell? ⟨b, 1, none⟩ = some (.pointer (some ⟨bf, 0, none⟩)))
    (hne : b ≠ bf) (hcf : bc ≠ bf) (ha : IsSet w bc (ts c N) M) (hf : IsSet w bf c F) (hN : N ≤ 65535) (hstep : ∀ k, k < N → Good 2 (sh k F) → ∃ m, addN 1 (sh k F) = m ∧ 1 ≤ m ∧ k + m ≤ N ∧ addL 1 (sh k F) = sh (k + m) F) :
    Calls Tryd.prog 68 #[.pointer (some ⟨b, 0, none⟩)] w fun e w' => e = .returned (.tuple #[]) ∧ IsSet w' bf (ts c N) (sh N F) ∧ w.grownBy w' (some bf) := by
  have HS := hidden hstep
  have hc := hf.1
  have HF0 := hidden (show IsSet w bf (ts c 0) (sh 0 F) by rw [sh_zero hf.2.1, show ts c 0 = c by unfold ts; omega]; exact hf)
  have HA := hidden (fun (X : World) (hg : w.grownBy X (some bf)) => ha.grown hg (by intro e; cases e; exact hcf rfl))
  have HC := hidden (fun (X : World) (hg : w.grownBy X (some bf)) => (⟨(World.cell?_of_block (a := ⟨b, 0, none⟩) (hg.block b (cell_lt c0) (by intro e; cases e; exact hne rfl))).trans c0, (World.cell?_of_block (a := ⟨b, 1, none⟩) (hg.block b (cell_lt c1) (by intro e; cases e; exact hne rfl))).trans c1⟩ : X.cell? ⟨b, 0, none⟩ = some (.pointer (some ⟨bc, 0, none⟩)) ∧ X.cell? ⟨b, 1, none⟩ = some (.pointer (some ⟨bf, 0, none⟩))))
  clear hstep ha hf
  go_enter Tryd.func68, Tryd.ntmps68
  go_wp2_with fail
  go_loopg [] N (fun g wr => ∃ k, g = N - k ∧ k ≤ N ∧ IsSet wr bf (ts c k) (sh k F) ∧ w.grownBy wr (some bf))
  case atStart => exact ⟨0, by omega, by omega, HF0.out, World.grownBy.refl _ _⟩
  case round =>
    obtain ⟨k, hk0, hk, hS, hgr⟩ := hrel
    obtain ⟨d0, d1⟩ := HC.out _ hgr
    have hA := HA.out _ hgr
    have CUF : Hid (∀ n, Calls Tryd.prog 45 #[.pointer (some ⟨bf, 0, none⟩)] (wr.drewN n) fun e w' => e = .returned (.int .u32 (ts c k : Nat)) ∧ w' = wr.drewN n) := fun n => (cumS (w := wr.drewN n) (hS.ofHeap rfl)).mono fun e w' h => ⟨h.1, h.2.symm⟩
    have CUC : Hid (∀ n, Calls Tryd.prog 45 #[.pointer (some ⟨bc, 0, none⟩)] (wr.drewN n) fun e w' => e = .returned (.int .u32 (ts c N : Nat)) ∧ w' = wr.drewN n) := fun n => (cumS (w := wr.drewN n) (hA.ofHeap rfl)).mono fun e w' h => ⟨h.1, h.2.symm⟩
    by_cases he : k = N
    · subst he
      have HFIN := hidden (fun n => ⟨hS.ofHeap rfl, ⟨hgr.os, hgr.tape, hgr.output, hgr.size, hgr.block⟩⟩ : ∀ n, IsSet (wr.drewN n) bf (ts c k) (sh k F) ∧ w.grownBy (wr.drewN n) (some bf))
      clear hS hgr hA HA HC HF0 HS hk0
      generalize ((ts c k : Nat) : Int) = x at *
      go_wp2_with fail
      go_quiet (first | (go_at_call 45; first | with_reducible exact Calls.quiet_of_same (CUF.out _) | with_reducible exact Calls.quiet_of_same (CUC.out _)))
      go_wp2
      go_end0
      exact ⟨rfl, HFIN.out _⟩
    · have hlt : k < N := by omega
      have HE := hidden (show (((ts c k : Nat) : Int) == ((ts c N : Nat) : Int)) = false by
        rw [beq_eq_false_iff_ne]
        intro e
        have : ts c k = ts c N := by omega
        have h1 := ds_ts c k hc (by omega)
        have h2 := ds_ts c N hc (by omega)
        rw [this] at h1
        omega)
      obtain ⟨m, em, m1, m2, m3⟩ := HS.out k hlt hS.2.1
      have AD := hidden (fun (X : World) (hX : Sam wr X) => (add_next (hS.ofHeap hX.1)).mono (fun e w' h => (⟨h.1, by rw [← ts_add, ← m3]; exact em ▸ h.2.1, hgr.trans (sam_grown hX h.2.2)⟩ : e = .returned (.tuple #[.bool true, .int .i64 0]) ∧ IsSet w' bf (ts c (k + m)) (sh (k + m) F) ∧ w.grownBy w' (some bf))))
      have HK := hidden (fun (X : World) (hX : Sam wr X) => (⟨(World.cell?_of_block (a := ⟨b, 0, none⟩) (by rw [hX.1])).trans d0, (World.cell?_of_block (a := ⟨b, 1, none⟩) (by rw [hX.1])).trans d1⟩ : X.cell? ⟨b, 0, none⟩ = some (.pointer (some ⟨bc, 0, none⟩)) ∧ X.cell? ⟨b, 1, none⟩ = some (.pointer (some ⟨bf, 0, none⟩))))
      have CUX : Hid (∀ X, Sam wr X → Calls Tryd.prog 45 #[.pointer (some ⟨bf, 0, none⟩)] X fun e w' => e = .returned (.int .u32 (ts c k : Nat)) ∧ X = w') := fun X hX => cumS (hS.ofHeap hX.1)
      have hx : IntKind.u32.wrap (((ts c k : Nat) : Int) + 1) = ((ts (ts c k) 1 : Nat) : Int) := by show (((ts c k : Nat) : Int) + 1) % 4294967296 = _; unfold ts; omega
      clear hS hgr hA HA HF0 HS
      have hb := HE.out
      generalize ((ts c N : Nat) : Int) = y at *
      generalize ((ts (ts c k) 1 : Nat) : Int) = T at *
      generalize ((ts c k : Nat) : Int) = x at *
      go_wp2_with fail
      go_quiet (first | (go_at_call 45; first | with_reducible exact Calls.quiet_of_same (CUF.out _) | with_reducible exact Calls.quiet_of_same (CUC.out _)))
      go_wp2_with fail
      go_region_held3 (fun X => X.cell? ⟨b, 0, none⟩ = some (.pointer (some ⟨bc, 0, none⟩)) ∧ X.cell? ⟨b, 1, none⟩ = some (.pointer (some ⟨bf, 0, none⟩))) (first | exact HK.out _ ⟨rfl, rfl, rfl, rfl⟩ | exact HC.out _ (by assumption))
        (first
          | (go_at_call 45; refine Calls.mono (CUX.out _ ⟨rfl, rfl, rfl, rfl⟩) ?_; rintro e w' ⟨rfl, rfl⟩)
          | (go_at_call 67; refine Calls.mono (AD.out _ ⟨rfl, rfl, rfl, rfl⟩) ?_; rintro e X2 ⟨rfl, hS2, hg2⟩))
      go_wp2
      go_roundg (N - (k + m))
      case measure => omega
      case rel => exact ⟨k + m, rfl, m2, hS2, hg2⟩
section
variable {n0 : Nat} {w : World} {b bc bf : Nat} {v : Value} {s : St} {K : Nat}
theorem add_c (h : IsSet w bc s.c s.L) (t : Nat) (ht : t < 4294967296) : Calls Tryd.prog 67 #[.pointer (some ⟨bc, 0, none⟩), .int .u32 (t : Int)] w fun e w' =>
    e = .returned (.tuple #[.bool (comeB t s), .int .i64 (comeE t s)]) ∧ IsSet w' bc (putS t s).c (putS t s).L ∧ w.grownBy w' (some bc) := by
  refine (add_ t ht w h).mono ?_
  rintro e w' (⟨hi, rfl, rfl⟩ | ⟨hi, hfar, rfl, rfl⟩ | ⟨d, hi, hd, h1, h2, h3, rfl, hS, hg⟩)
  · obtain ⟨e1, e2, _⟩ := come_in hi
    rw [e1, e2, put_in hi]
    exact ⟨rfl, h, World.grownBy.refl _ _⟩
  · obtain ⟨e1, e2, _⟩ := come_far hi hfar
    rw [e1, e2, put_far hi hfar]
    exact ⟨rfl, h, World.grownBy.refl _ _⟩
  · obtain ⟨e1, e2, _⟩ := come_new hi hd h1
    rw [e1, e2, put_new hi hd h1]
    exact ⟨rfl, hS, hg⟩
/-- cum of what is fixed follows a number that was put in -/
theorem follow_put {w1 : World} (h : Cd n0 w b bc bf v s) (hk : Ok K s) (t : Nat) (ht : t < 4294967296) (h1 : IsSet w1 bc (putS t s).c (putS t s).L) (hg : w.grownBy w1 (some bc)) :
    Calls Tryd.prog 68 #[.pointer (some ⟨b, 0, none⟩)] w1 fun e w' => e = .returned (.tuple #[]) ∧ Cd n0 w' b bc bf v (putS t s) ∧ Mod (FC b bc bf v) w w' := by
  obtain ⟨g1, g2, g3⟩ := h.nb
  have hm1 : Mod (fun k => k = bc) w w1 := Mod.grown hg (by rintro k e; cases e; rfl)
  obtain ⟨z, hq, hz⟩ := h.q
  have hq1 := hm1.has hq (show ¬ b = bc from g1)
  have hf1 := hm1.isSet h.f (show ¬ bf = bc from fun e => h.ne e.symm)
  have fin : ∀ w' : World, IsSet w' bf (putS t s).c (putS t s).F → w1.grownBy w' (some bf) → Cd n0 w' b bc bf v (putS t s) ∧ Mod (FC b bc bf v) w w' := fun w' hf' hg' => by
    have hm2 : Mod (fun k => k = bc ∨ k = bf) w w' := (hm1.mono (fun k hk => .inl hk)).trans (Mod.grown (F := fun k => k = bf) hg' (by rintro k e; cases e; rfl)) (fun x hx => .inl (.inr hx))
    have hsame : (putS t s).n = s.n ∧ (putS t s).made = s.made ∧ (putS t s).delay = s.delay ∧ (putS t s).nr = s.nr ∧ (putS t s).D = s.D ∧ (putS t s).time = s.time := by
      unfold putS
      split
      · exact ⟨rfl, rfl, rfl, rfl, rfl, rfl⟩
      · split
        · exact ⟨rfl, rfl, rfl, rfl, rfl, rfl⟩
        · exact ⟨rfl, rfl, rfl, rfl, rfl, rfl⟩
    obtain ⟨s1, s2, s3, s4, s5, s6⟩ := hsame
    refine ⟨⟨⟨z, ?_, by rw [s1, s6]; exact hz⟩, (Mod.grown (F := fun k => k = bf) hg' (by rintro k e; cases e; rfl)).isSet h1 (show ¬ bc = bf from h.ne), hf', h.ne, ?_, fun i hi => hm2.cell (h.t i hi) ?_, h.hb, h.hc, h.hf, h.h0, Nat.le_trans h.hn hm2.size⟩, hm2.mono ?_⟩
    · rw [s1, s2, s3, s4]; exact hm2.has hq (fun hh => hh.elim g1 g2)
    · rw [s5]; exact hm2.own h.d (fun k hk hh => by have := g3 k hk; omega)
    · intro hh
      have := h.hc
      have := h.hf
      have := h.h0
      rcases hh with hh | hh
      · have : (0 : Nat) = bc := hh; omega
      · have : (0 : Nat) = bf := hh; omega
    · rintro k (hk | hk)
      · exact .inr (.inl hk)
      · exact .inr (.inr (.inl hk))
  have c0 : w1.cell? ⟨b, 0, none⟩ = some (.pointer (some ⟨bc, 0, none⟩)) := hq1.cell 0 rfl
  have c1 : w1.cell? ⟨b, 1, none⟩ = some (.pointer (some ⟨bf, 0, none⟩)) := hq1.cell 1 rfl
  have still : putS t s = s → Calls Tryd.prog 68 #[.pointer (some ⟨b, 0, none⟩)] w1 fun e w' => e = .returned (.tuple #[]) ∧ IsSet w' bf (putS t s).c (putS t s).F ∧ w1.grownBy w' (some bf) := fun hs => by
    rw [hs] at h1 ⊢
    have e0 : ts s.c 0 = s.c := by unfold ts; have := hk.c; omega
    have := follow (N := 0) c0 c1 g2 h.ne (by rw [e0]; exact h1) hf1 (by omega) (fun k hk => by omega)
    rw [e0, sh_zero hk.F] at this
    exact this
  have main : Calls Tryd.prog 68 #[.pointer (some ⟨b, 0, none⟩)] w1 fun e w' => e = .returned (.tuple #[]) ∧ IsSet w' bf (putS t s).c (putS t s).F ∧ w1.grownBy w' (some bf) := by
    cases hin : isIn s.c s.L t with
    | true => exact still (put_in hin)
    | false =>
      by_cases hfar : 65535 < ds s.c t
      · exact still (put_far hin hfar)
      · obtain ⟨d, d1, d2, d3, d4⟩ := not_in hk.c ht hin
        have d5 : d ≤ 65535 := by omega
        rw [put_new hin d3 d5] at h1 ⊢
        exact follow c0 c1 g2 h.ne h1 hf1 (addN_bound hk.L d1 d5 d4) (fun k hlt hG => follow_step hk.L hk.F hk.sub d1 d5 d4 hlt hG)
  exact main.mono fun e w' h => ⟨h.1, fin w' h.2.1 h.2.2⟩
theorem put_ (h : Cd n0 w b bc bf v s) (hk : Ok K s) (t : Nat) (ht : t < 4294967296) :
    Calls Tryd.prog 48 #[.pointer (some ⟨b, 0, none⟩), .int .u32 (t : Int)] w fun e w' => e = .returned (.tuple #[.bool (comeB t s), .int .i64 (comeE t s)]) ∧ Cd n0 w' b bc bf v (putS t s) ∧ Mod (FC b bc bf v) w w' := by
  obtain ⟨z, hq, hz, hz1, c0, c1, c2, c3, c4, c5, c6, c7, hf⟩ := h.cells
  have AC := hidden (add_c h.a t ht)
  have FO := hidden (fun (w1 : World) h1 hg => follow_put (w1 := w1) h hk t ht h1 hg)
  clear h hq hz hk
  generalize comeB t s = B at *
  generalize comeE t s = E at *
  generalize (t : Int) = tI at *
  go_enter Tryd.func48, Tryd.ntmps48
  go_wp2_with fail
  refine Calls.mono AC.out ?_
  rintro e w1 ⟨rfl, hS, hg⟩
  go_wp2_with fail
  refine Calls.mono (FO.out _ hS hg) ?_
  rintro e w2 ⟨rfl, hC, hM⟩
  go_wp2
  go_ret2
  exact ⟨rfl, hC, hM⟩
theorem come_dup {w1 w2 : World} {t : Nat} {v2 : Value} (hC : Cd n0 w1 b bc bf v s) (hM : Mod (FC b bc bf v) w w1) (h1 : w2.ownsRow n0 22 1 v2 (s.D ++ [t]).length (us (s.D ++ [t]))) (h2 : (w1.alloc (.cells #[.int .u32 (t : Int)] 22)).grownBy w2 v.ownBlock) (h3 : v2.ownBlock = v.ownBlock ∨ v2.ownBlock = some (w1.heap.size + 1)) (he : comeS t s = { s with D := s.D ++ [t] }) :
    w2.cell? ⟨b, 4, none⟩ = some v ∧ w2.frozen? ⟨b, 4, none⟩ = false ∧ (Cd n0 (w2.setCell ⟨b, 4, none⟩ v2) b bc bf v2 (comeS t s) ∧ Mod (FC b bc bf v) w (w2.setCell ⟨b, 4, none⟩ v2) ∧ (∀ k, v2.ownBlock = some k → v.ownBlock = some k ∨ w.heap.size ≤ k)) ∧ True := by
  obtain ⟨g1, g2, g3⟩ := hC.nb
  obtain ⟨z, hq, hz⟩ := hC.q
  have hm2 : Mod (fun k => v.ownBlock = some k) w1 w2 := (Mod.of_below (below_new w1 _)).trans (Mod.grown (F := fun k => v.ownBlock = some k) h2 (fun k e => e)) (fun x hx => .inl hx)
  have hq2 := hm2.has hq (fun hk => (g3 _ hk).1 rfl)
  have hq3 := hq2.set 4 v2
  have hm3 : Mod (fun k => k = b ∨ v.ownBlock = some k) w1 (w2.setCell ⟨b, 4, none⟩ v2) := (hm2.mono fun k hk => .inr hk).trans (Mod.setCell (F := fun k => k = b) w2 (p := ⟨b, 4, none⟩) rfl _) (fun x hx => .inl (.inl hx))
  have hv2 : ∀ k, v2.ownBlock = some k → v.ownBlock = some k ∨ w1.heap.size ≤ k := fun k hk => by
    rcases h3 with e | e
    · exact .inl (e ▸ hk)
    · rw [e] at hk; cases hk; exact .inr (by omega)
  refine ⟨hq2.cell 4 rfl, hq2.frozen 4, ⟨?_, hM.trans hm3 ?_, fun k hk => (hv2 k hk).imp id fun h => Nat.le_trans hM.size h⟩, trivial⟩
  · rw [he]
    refine ⟨⟨z, hq3, hz⟩, hm3.isSet hC.a ?_, hm3.isSet hC.f ?_, hC.ne, ?_, fun i hi => hm3.cell (hC.t i hi) ?_, hC.hb, hC.hc, hC.hf, hC.h0, Nat.le_trans hC.hn hm3.size⟩
    · rintro (hh | hh)
      · exact g1 hh.symm
      · exact (g3 _ hh).2.1 rfl
    · rintro (hh | hh)
      · exact g2 hh.symm
      · exact (g3 _ hh).2.2 rfl
    · refine (Mod.setCell (F := fun k => k = b) w2 (p := ⟨b, 4, none⟩) rfl _).own h1 fun k hk hh => ?_
      rcases hv2 k hk with e | e
      · exact (g3 k e).1 hh
      · have := hq.lt
        have : k = b := hh
        omega
    · have := hC.hb
      have := hC.h0
      rintro (hh | hh)
      · have : (0 : Nat) = b := hh; omega
      · have := (own_type hC.d hh).2
        have : n0 ≤ 0 := this
        omega
  · rintro x (hx | hx)
    · exact .inl (.inl hx)
    · exact .inl (.inr (.inr (.inr hx)))
theorem take_fin {w' : World} {D : Nat} (h : Cd n0 w b bc bf v s) (hS : IsSet w' bc s.c (del D s.L)) (hg : w.grownBy w' (some bc)) : Cd n0 w' b bc bf v { s with L := del D s.L } ∧ Mod (FC b bc bf v) w w' := by
  obtain ⟨g1, g2, g3⟩ := h.nb
  obtain ⟨z, hq, hz⟩ := h.q
  have hm : Mod (fun k => k = bc) w w' := Mod.grown hg (by rintro k e; cases e; rfl)
  refine ⟨⟨⟨z, hm.has hq (show ¬ b = bc from g1), hz⟩, hS, hm.isSet h.f (show ¬ bf = bc from fun e => h.ne e.symm), h.ne, hm.own h.d (fun k hk => show ¬ k = bc from (g3 k hk).2.1), fun i hi => hm.cell (h.t i hi) (show ¬ 0 = bc by have := h.hc; have := h.h0; omega), h.hb, h.hc, h.hf, h.h0, Nat.le_trans h.hn hm.size⟩, hm.mono fun k hk => .inr (.inl hk)⟩
theorem fix_fin {w' : World} {M : List Nat} (h : Cd n0 w b bc bf v s) (hS : IsSet w' bf s.c M) (hg : w.grownBy w' (some bf)) : Cd n0 w' b bc bf v { s with F := M } ∧ Mod (FC b bc bf v) w w' := by
  obtain ⟨g1, g2, g3⟩ := h.nb
  obtain ⟨z, hq, hz⟩ := h.q
  have hm : Mod (fun k => k = bf) w w' := Mod.grown hg (by rintro k e; cases e; rfl)
  refine ⟨⟨⟨z, hm.has hq (show ¬ b = bf from g2), hz⟩, hm.isSet h.a (show ¬ bc = bf from h.ne), hS, h.ne, hm.own h.d (fun k hk => show ¬ k = bf from (g3 k hk).2.2), fun i hi => hm.cell (h.t i hi) (show ¬ 0 = bf by have := h.hf; have := h.h0; omega), h.hb, h.hc, h.hf, h.h0, Nat.le_trans h.hn hm.size⟩, hm.mono fun k hk => .inr (.inr (.inl hk))⟩
/-- a number comes -/
theorem Come_ (h : Cd n0 w b bc bf v s) (hk : Ok K s) (t : Nat) (ht : t < 4294967296) :
    Calls Tryd.prog 23 #[.pointer (some ⟨b, 0, none⟩), .int .u32 (t : Int)] w fun e w' => ∃ v', e = .returned (.tuple #[.bool (comeB t s), .int .i64 (comeE t s)]) ∧ Cd n0 w' b bc bf v' (comeS t s) ∧ Mod (FC b bc bf v) w w' ∧ (∀ k, v'.ownBlock = some k → v.ownBlock = some k ∨ w.heap.size ≤ k) := by
  have UM := hidden (unmade_ h)
  have PU := hidden (put_ h hk t ht)
  have HB := hidden (fun k => h.fc_ge k)
  have keep : comeS t s = putS t s → Hid (∀ w' : World, Cd n0 w' b bc bf v (putS t s) → Mod (FC b bc bf v) w w' → ∃ v', Cd n0 w' b bc bf v' (comeS t s) ∧ Mod (FC b bc bf v) w w' ∧ (∀ k, v'.ownBlock = some k → v.ownBlock = some k ∨ w.heap.size ≤ k)) :=
    fun e w' hC hM => ⟨v, by rw [e]; exact hC, hM, fun k hk => .inl hk⟩
  cases hin : isIn s.c s.L t with
  | true =>
    obtain ⟨e1, e2, e3⟩ := come_in hin
    have ep := put_in hin
    by_cases hl : s.D.length < 4096
    · rw [e1, e2] at PU ⊢
      rw [ep] at PU
      have hl' : ((s.D.length : Nat) : Int) < 4096 := by omega
      have FN := hidden (fun (w1 : World) (hC : Cd n0 w1 b bc bf v s) (hM : Mod (FC b bc bf v) w w1) (w2 : World) (v2 : Value) (h1 : w2.ownsRow n0 22 1 v2 (s.D ++ [t]).length (us (s.D ++ [t]))) (h2 : (w1.alloc (.cells #[.int .u32 (t : Int)] 22)).grownBy w2 v.ownBlock) (h3 : v2.ownBlock = v.ownBlock ∨ v2.ownBlock = some (w1.heap.size + 1)) => come_dup hC hM h1 h2 h3 (by rw [e3, if_pos hl]))
      have AP := hidden (fun (w1 : World) (hC : Cd n0 w1 b bc bf v s) => app1 t hC.d (by omega) hC.hn)
      clear h hk keep HB e1 e2 e3 ep hin
      generalize (t : Int) = tI at *
      go_enter Tryd.func23, Tryd.ntmps23
      go_wp2_with fail
      refine Calls.mono UM.out ?_
      rintro e w' ⟨rfl, rfl⟩
      go_wp2_with fail
      refine Calls.mono PU.out ?_
      rintro e w1 ⟨rfl, hC, hM⟩
      obtain ⟨v2, w2, hr, h1, h2, h3⟩ := AP.out _ hC
      obtain ⟨a2, cap2, rfl⟩ := Ba.own_len h1
      obtain ⟨f0, f1, f2, f3⟩ := FN.out _ hC hM _ _ h1 h2 h3
      have HR := hidden hr
      obtain ⟨a, cap, hv⟩ := Ba.own_len hC.d
      obtain ⟨z, -, -, -, c0, c1, c2, c3, c4, c5, c6, c7, hf⟩ := hC.cells
      rw [hv] at c4 HR
      rw [show (s.D ++ [t]).length = s.D.length + 1 by simp] at HR f2
      have F2 := hidden f2
      clear hC hM h1 h2 h3 hr AP FN UM PU hv f2
      go_wp2_with (at_builtin; refine Rg.wpList_app rfl _ _ 33 rfl rfl rfl HR.out ?_)
      go_ret2
      exact ⟨_, rfl, F2.out⟩
    · have KP := keep (by rw [e3, ep, if_neg hl])
      rw [e1, e2] at PU ⊢
      rw [ep] at PU KP
      have hl' : ¬ ((s.D.length : Nat) : Int) < 4096 := by omega
      clear h hk keep HB e1 e2 e3 ep hin
      generalize (t : Int) = tI at *
      go_enter Tryd.func23, Tryd.ntmps23
      go_wp2_with fail
      refine Calls.mono UM.out ?_
      rintro e w' ⟨rfl, rfl⟩
      go_wp2_with fail
      refine Calls.mono PU.out ?_
      rintro e w' ⟨rfl, hC, hM⟩
      obtain ⟨v', hv'⟩ := KP.out _ hC hM
      have HV := hidden hv'
      obtain ⟨a, cap, hv⟩ := Ba.own_len hC.d
      obtain ⟨z, -, -, -, c0, c1, c2, c3, c4, c5, c6, c7, hf⟩ := hC.cells
      rw [hv] at c4
      clear hC hM hv hv' KP UM PU
      go_wp2
      go_ret2
      exact ⟨v', rfl, HV.out⟩
  | false =>
    by_cases hfar : 65535 < ds s.c t
    · obtain ⟨e1, e2, e3⟩ := come_far hin hfar
      have KP := keep (by rw [e3, put_far hin hfar])
      rw [e1, e2] at PU ⊢
      clear h hk keep HB
      generalize (t : Int) = tI at *
      go_enter Tryd.func23, Tryd.ntmps23
      go_wp2_with fail
      refine Calls.mono UM.out ?_
      rintro e w' ⟨rfl, rfl⟩
      go_wp2_with fail
      refine Calls.mono PU.out ?_
      rintro e w' ⟨rfl, hC, hM⟩
      go_wp2
      go_ret2
      obtain ⟨v', hv'⟩ := KP.out _ hC hM
      exact ⟨v', rfl, hv'⟩
    · obtain ⟨d, d1, d2, d3, d4⟩ := not_in hk.c ht hin
      obtain ⟨e1, e2, e3⟩ := come_new hin d3 (by omega)
      have KP := keep (by rw [e3, put_new hin d3 (by omega)])
      rw [e1, e2] at PU ⊢
      clear h hk keep HB
      generalize (t : Int) = tI at *
      go_enter Tryd.func23, Tryd.ntmps23
      go_wp2_with fail
      refine Calls.mono UM.out ?_
      rintro e w' ⟨rfl, rfl⟩
      go_wp2_with fail
      refine Calls.mono PU.out ?_
      rintro e w' ⟨rfl, hC, hM⟩
      go_wp2
      go_ret2
      obtain ⟨v', hv'⟩ := KP.out _ hC hM
      exact ⟨v', rfl, hv'⟩
/-- a number is given up -/
theorem has_F (h : Cd n0 w b bc bf v s) (t : Nat) (ht : t < 4294967296) : Calls Tryd.prog 55 #[.pointer (some ⟨bf, 0, none⟩), .int .u32 (t : Int)] w fun e w' => e = .returned (.bool (isIn s.c s.F t)) ∧ w = w' := has t ht w h.f
theorem take_ (h : Cd n0 w b bc bf v s) (hk : Ok K s) (t : Nat) (ht : t < 4294967296) :
    Calls Tryd.prog 56 #[.pointer (some ⟨b, 0, none⟩), .int .u32 (t : Int)] w fun e w' => e = .returned (.bool (free t s)) ∧ Cd n0 w' b bc bf v (dropS t s) ∧ Mod (FC b bc bf v) w w' := by
  obtain ⟨z, hq, hz, hz1, c0, c1, c2, c3, c4, c5, c6, c7, hf⟩ := h.cells
  have HF := hidden (has_F h t ht)
  have DE := hidden (del_ t ht w h.a)
  have hD0 : 0 ∉ s.L := fun hm => by have := hk.L.2 0 hm; omega
  cases hin : isIn s.c s.F t with
  | true =>
    have e1 : free t s = false := free_not.2 (by
      unfold isIn at hin
      rcases Bool.or_eq_true _ _ ▸ hin with e | e
      · left
        have e := of_decide_eq_true e
        rw [show ds s.c t = Ser.dist 4294967296 (s.c : Int) (t : Int) from rfl, show (Ser.dist 4294967296 (s.c : Int) (t : Int)).toNat = 0 by omega]; exact hD0
      · exact .inr (of_decide_eq_true e))
    have e2 : dropS t s = s := by unfold dropS; rw [if_neg (by rw [e1]; simp)]
    rw [e1, e2]
    have FN := hidden (⟨h, Mod.refl _ _⟩ : Cd n0 w b bc bf v s ∧ Mod (FC b bc bf v) w w)
    rw [hin] at HF
    clear h hk DE hq hz hD0 e1 e2 hin
    generalize (t : Int) = tI at *
    go_enter Tryd.func56, Tryd.ntmps56
    go_wp2_with fail
    refine Calls.mono HF.out ?_
    rintro e w' ⟨rfl, rfl⟩
    go_wp2
    go_ret
    exact ⟨rfl, FN.out⟩
  | false =>
    have hnf : (ds s.c t).toNat ∉ s.F := fun hm => by
      unfold isIn at hin
      rw [show Ser.dist 4294967296 (s.c : Int) (t : Int) = ds s.c t from rfl, decide_eq_true hm, Bool.or_true] at hin
      cases hin
    have e1 : free t s = decide ((ds s.c t).toNat ∈ s.L) := by unfold free; rw [decide_eq_false hnf]; simp
    have e2 : dropS t s = { s with L := del (ds s.c t).toNat s.L } := by
      unfold dropS
      rw [e1]
      by_cases hm : (ds s.c t).toNat ∈ s.L
      · rw [if_pos (decide_eq_true hm)]
      · rw [if_neg (by simp [hm]), show del (ds s.c t).toNat s.L = s.L from List.filter_eq_self.2 fun x hx => by simp; rintro rfl; exact hm hx]
    rw [e1, e2]
    have FN := hidden (fun (w' : World) (hS : IsSet w' bc s.c (del (ds s.c t).toNat s.L)) (hg : w.grownBy w' (some bc)) => take_fin (D := (ds s.c t).toNat) h hS hg)
    rw [hin] at HF
    clear h hk hq hz hD0 e1 e2 hin hnf
    change Hid (Calls _ _ _ _ fun e w' => e = .returned (.bool (decide ((ds s.c t).toNat ∈ s.L))) ∧ IsSet w' bc s.c (del (ds s.c t).toNat s.L) ∧ w.grownBy w' (some bc)) at DE
    generalize (decide ((ds s.c t).toNat ∈ s.L)) = B at *
    generalize (ds s.c t).toNat = D at *
    generalize (t : Int) = tI at *
    go_enter Tryd.func56, Tryd.ntmps56
    go_wp2_with fail
    refine Calls.mono HF.out ?_
    rintro e w' ⟨rfl, rfl⟩
    go_wp2_with fail
    refine Calls.mono DE.out ?_
    rintro e w1 ⟨rfl, hS, hg⟩
    go_wp2
    go_ret
    exact ⟨rfl, FN.out _ hS hg⟩
theorem Drop_ (h : Cd n0 w b bc bf v s) (hk : Ok K s) (t : Nat) (ht : t < 4294967296) :
    Calls Tryd.prog 31 #[.pointer (some ⟨b, 0, none⟩), .int .u32 (t : Int)] w fun e w' => e = .returned (.bool (free t s)) ∧ Cd n0 w' b bc bf v (dropS t s) ∧ Mod (FC b bc bf v) w w' := by
  have UM := hidden (unmade_ h)
  have TA := hidden (take_ h hk t ht)
  clear h hk
  generalize free t s = B at *
  generalize (t : Int) = tI at *
  go_enter Tryd.func31, Tryd.ntmps31
  go_wp2_with fail
  refine Calls.mono UM.out ?_
  rintro e w' ⟨rfl, rfl⟩
  go_wp2_with fail
  refine Calls.mono TA.out ?_
  rintro e w1 ⟨rfl, hC, hM⟩
  go_wp2
  go_ret
  exact ⟨rfl, hC, hM⟩
end
end Go.Proofs.YtdifceikfnnfeaaDoor.Sp.Inb
