/-
  The first fault of a packet is caught; Decode and Head of package packet.
  Conditions: the numbers lie within their kinds, the cells hold them, the program's table holds its sixteen numbers.
-/
import Derived.Test.YtmnndkhdekpecaaGreatDoorPkD
namespace Go.Proofs.YtmnndkhdekpecaaGreatDoor.Pkt
open Go.ChangeShapes Go.WideShapes Go.ChangeAt Go.RowKit
open Chu (Ch Ck Cks Chk val cv cc ld n2 n4 gr_set gr_trans gr_drew gr_drewN gr_own gr_below AllOut)
open Par (hidden Bytes Row cell_lt cutA)
set_option linter.unusedVariables false
set_option maxRecDepth 20000

theorem catch_panicking (p q : Nat) (x y : Int) (f g : Int) (older : List PanicEntry) (w : World) (hc : w.cell? ⟨p, 0, none⟩ = some (.int .i64 x)) (hz : w.frozen? ⟨p, 0, none⟩ = false) (hd : w.cell? ⟨q, 0, none⟩ = some (.int .i64 y)) (hy : w.frozen? ⟨q, 0, none⟩ = false) (hne : p ≠ q) :
    CallsD Tryz.prog 56 #[.pointer (some ⟨p, 0, none⟩), .pointer (some ⟨q, 0, none⟩)] (.panicking ({ v := .iface 95 (.agg #[.int .i64 f, .int .i64 g]), recovered := false } :: older)) w fun e u' w' =>
      e = .returned (.tuple #[]) ∧ u' = .panicking ({ v := .iface 95 (.agg #[.int .i64 f, .int .i64 g]), recovered := true } :: older) ∧ w' = (((w.setCell ⟨p, 0, none⟩ (.int .i64 g)).setCell ⟨q, 0, none⟩ (.int .i64 f)).alloc (.cells #[.int .i64 f, .int .i64 g] 95)).drew := by
  have hta : ∀ w : World, (Instr.typeAssert (.iface 95 (.agg #[.int .i64 f, .int .i64 g])) 20 95 false).run Tryz.prog w = .ok (.agg #[.int .i64 f, .int .i64 g]) w := fun w => by rfl
  refine callsD_of_wpS Tryz.func56 rfl fun c₀ cs hu => ?_
  apply wpS_seq
  apply wpS_region
  simp [wpOpsS, go_sem, recoverD, hu, Tryz.ntmps56, Exit.thenS]
  refine wpS_of_wp ?_
  have l1 : p < w.heap.size := cell_lt hc
  have l2 : q < w.heap.size := cell_lt hd
  go_wp2
  go_region
  all_goals go_wp2
  all_goals simp [bodyPostS, results, Tryz.results56]
theorem catch_idle (p q : Nat) (w : World) :
    CallsD Tryz.prog 56 #[.pointer (some ⟨p, 0, none⟩), .pointer (some ⟨q, 0, none⟩)] .returning w fun e u' w' => e = .returned (.tuple #[]) ∧ u' = .returning ∧ w' = w := by
  refine callsD_of_wpS Tryz.func56 rfl fun c₀ cs hu => ?_
  apply wpS_seq
  apply wpS_region
  simp [wpOpsS, go_sem, recoverD, hu, Tryz.ntmps56, Exit.thenS]
  refine wpS_of_wp ?_
  go_wp2
  cases c₀
  simp_all [bodyPostS, results, Tryz.results56]
/-- what is caught -/
def CauO (w w' : World) (B : Nat) (G : Pk → Prop) (F : Nat → Int → Prop) (p : Pk) (q : Nat) (er : Int) : Prop :=
  w.grownBy w' (some B) ∧ ((er = 0 ∧ q = 0 ∧ PkOk (w.heap.size + 3) w' p ∧ G p) ∨ (er ≠ 0 ∧ p = zpk ∧ F q er))
theorem cell_at {w : World} {B : Nat} {t : TypeId} {x : Int} (h : w.heap[B]? = some (.cells #[.int .i64 x] t (0, 0))) : w.cell? ⟨B, 0, none⟩ = some (.int .i64 x) ∧ w.frozen? ⟨B, 0, none⟩ = false := by
  simp [World.cell?, World.frozen?, h]
theorem heap_gr {w w' : World} {k B : Nat} {o : Obj} (h : w.heap[k]? = some o) (hg : w.grownBy w' (some B)) (hne : k ≠ B) : w'.heap[k]? = some o :=
  (hg.block k (Array.getElem?_eq_some_iff.1 h).1 (fun e => hne (Option.some.inj e))).trans h
theorem res_caught {w : World} {p q r : Nat} {P : Pk} {x y : Int} {tmps : Array Value} (h0 : tmps.getD 2 undef = .pointer (some ⟨p, 0, none⟩)) (h1 : tmps.getD 3 undef = .pointer (some ⟨q, 0, none⟩)) (h2 : tmps.getD 4 undef = .pointer (some ⟨r, 0, none⟩))
    (hb : Pb w p P) (hq : w.cell? ⟨q, 0, none⟩ = some (.int .i64 x)) (hr : w.cell? ⟨r, 0, none⟩ = some (.int .i64 y)) : (results Tryz.f34 tmps).run Tryz.prog w = .ok (.tuple #[pkv P, .int .i64 x, .int .i64 y]) w := by
  have h0' : tmps[2]?.getD undef = .pointer (some ⟨p, 0, none⟩) := by simpa using h0
  have h1' : tmps[3]?.getD undef = .pointer (some ⟨q, 0, none⟩) := by simpa using h1
  have h2' : tmps[4]?.getD undef = .pointer (some ⟨r, 0, none⟩) := by simpa using h2
  simp [results, Tryz.results34, h0', h1', h2', asAddr, hb.load]
  simp [go_sem, hq, hr]
set_option maxHeartbeats 1000000 in
theorem caughtP (w : World) (B : Nat) (G : Pk → Prop) (F : Nat → Int → Prop) (hB : B < w.heap.size)
    (C : ∀ x : World, x.heap.size = w.heap.size + 3 → Below w.heap.size w x → Calls Tryz.prog 35 #[.pointer (some ⟨B, 0, none⟩)] x fun e x' => x.grownBy x' (some B) ∧ ((∃ p : Pk, e = .returned (pkv p) ∧ PkOk x.heap.size x' p ∧ G p) ∨ ∃ (q : Nat) (er : Int), e = thrown er (q : Int) ∧ er ≠ 0 ∧ F q er)) :
    Calls Tryz.prog 34 #[.func (.func 35) #[.pointer (some ⟨B, 0, none⟩)] #[]] w fun e w' => ∃ (p : Pk) (q : Nat) (er : Int), e = .returned (.tuple #[pkv p, .int .i64 (q : Int), .int .i64 er]) ∧ CauO w w' B G F p q er := by
  have hmf : ∀ (fn : Fn) (first cap : Array Value) (w : World), (Instr.makeFunc fn first cap).run Tryz.prog w = .ok (.func fn first cap) w := fun _ _ _ _ => rfl
  have hb0 : Below w.heap.size w (((w.alloc (.cells #[.int .u16 0, .int .u16 0, .int .u32 0, .slice none 0 0] 26)).alloc (.cells #[.int .i64 0] 3)).alloc (.cells #[.int .i64 0] 28)) :=
    (((Below.refl _ w).alloc (Nat.le_refl _) _).alloc (by simp) _).alloc (by simp; omega) _
  have hs0 : (((w.alloc (.cells #[.int .u16 0, .int .u16 0, .int .u32 0, .slice none 0 0] 26)).alloc (.cells #[.int .i64 0] 3)).alloc (.cells #[.int .i64 0] 28)).heap.size = w.heap.size + 3 := by simp
  have hp0 : (((w.alloc (.cells #[.int .u16 0, .int .u16 0, .int .u32 0, .slice none 0 0] 26)).alloc (.cells #[.int .i64 0] 3)).alloc (.cells #[.int .i64 0] 28)).heap[w.heap.size]? = some (.cells #[.int .u16 0, .int .u16 0, .int .u32 0, .slice none 0 0] 26 (0, 0)) := by
    rw [heap_alloc_old _ _ (by simp; omega), heap_alloc_old _ _ (by simp)]
    exact heap_alloc_new w _
  have hp1 : (((w.alloc (.cells #[.int .u16 0, .int .u16 0, .int .u32 0, .slice none 0 0] 26)).alloc (.cells #[.int .i64 0] 3)).alloc (.cells #[.int .i64 0] 28)).heap[w.heap.size + 1]? = some (.cells #[.int .i64 0] 3 (0, 0)) := by
    rw [heap_alloc_old _ _ (by simp)]
    have := heap_alloc_new (w.alloc (.cells #[.int .u16 0, .int .u16 0, .int .u32 0, .slice none 0 0] 26)) (.cells #[.int .i64 0] 3)
    rw [World.size_alloc] at this
    exact this
  have hp2 : (((w.alloc (.cells #[.int .u16 0, .int .u16 0, .int .u32 0, .slice none 0 0] 26)).alloc (.cells #[.int .i64 0] 3)).alloc (.cells #[.int .i64 0] 28)).heap[w.heap.size + 1 + 1]? = some (.cells #[.int .i64 0] 28 (0, 0)) := by
    have := heap_alloc_new ((w.alloc (.cells #[.int .u16 0, .int .u16 0, .int .u32 0, .slice none 0 0] 26)).alloc (.cells #[.int .i64 0] 3)) (.cells #[.int .i64 0] 28)
    rw [World.size_alloc, World.size_alloc] at this
    exact this
  have CC := hidden (C _ hs0 hb0)
  have HB0 := hidden hb0
  have HP0 := hidden hp0
  have HP1 := hidden hp1
  have HP2 := hidden hp2
  have hs0' := hs0
  clear C hb0 hp0 hp1 hp2
  go_enter_defers Tryz.func34, Tryz.ntmps34
  go_wp2_with fail
  generalize hW : World.alloc (World.alloc (World.alloc w _) _) _ = W at *
  clear hW
  refine Calls.mono CC.out ?_
  rintro e w1 ⟨hg, ⟨p, rfl, hp, hG⟩ | ⟨q, er, rfl, he, hF⟩⟩
  · have h0 : Pb w1 w.heap.size zpk := heap_gr (o := .cells (pkc zpk) 26 (0, 0)) HP0.out hg (by omega)
    have h1 := heap_gr HP1.out hg (by omega)
    have h2 := heap_gr HP2.out hg (by omega)
    have hs1 := hg.size
    obtain ⟨z0, z1, z2, z3⟩ := h0.px
    have k0 := h0.fr 0
    have k1 := h0.fr 1
    have k2 := h0.fr 2
    have k3 := h0.fr 3
    obtain ⟨x1, y1⟩ := cell_at h1
    obtain ⟨x2, y2⟩ := cell_at h2
    have gA := setW_gr w1 w.heap.size p
    have gB := gr_set (setW w1 w.heap.size p) (w.heap.size + 1) 0 (.int .i64 0)
    have gC := gr_set ((setW w1 w.heap.size p).setCell ⟨w.heap.size + 1, 0, none⟩ (.int .i64 0)) (w.heap.size + 1 + 1) 0 (.int .i64 0)
    have HS := hidden (((h0.set (p := p)).gr gB (by omega)).gr gC (by omega))
    have HX1 := hidden (cell_at (heap_gr (Chu.heap_set _ _ 0 (.int .i64 0) (heap_gr h1 gA (by omega))) gC (by omega))).1
    have HX2 := hidden (cell_at (Chu.heap_set _ _ 0 (.int .i64 0) (heap_gr (heap_gr h2 gA (by omega)) gB (by omega)))).1
    have HF := hidden (show CauO w (((setW w1 w.heap.size p).setCell ⟨w.heap.size + 1, 0, none⟩ (.int .i64 0)).setCell ⟨w.heap.size + 1 + 1, 0, none⟩ (.int .i64 0)) B G F p 0 0 from
      ⟨gr_own (gr_own (gr_own (gr_trans (gr_below HB0.out _) hg) gA (fun k hk => by cases hk; omega)) gB (fun k hk => by cases hk; omega)) gC (fun k hk => by cases hk; omega), .inl ⟨rfl, rfl, ⟨hp.1, hp.2.1, hp.2.2.1,
        (((Cks.setW (Cks.mono hp.2.2.2 (by omega)) (by omega) p).set (x := ⟨w.heap.size + 1, 0, none⟩) (by simp only; omega) _).set (x := ⟨w.heap.size + 1 + 1, 0, none⟩) (by simp only; omega) _)⟩, hG⟩⟩)
    clear h0 h1 h2 gA gB gC hp hG hg
    simp only [setW] at HS HX1 HX2 HF
    rw [show pkv p = .agg #[.int .u16 p.f, .int .u16 p.t, .int .u32 p.g, .slice p.a p.n p.c] from rfl]
    go_wp2
    refine leaves_cons (f := 56) (args := #[.pointer (some ⟨w.heap.size + 1, 0, none⟩), .pointer (some ⟨w.heap.size + 1 + 1, 0, none⟩)]) (by simp) (by simp [go_sem]) ?_
    refine (catch_idle (w.heap.size + 1) (w.heap.size + 1 + 1) _).mono ?_
    rintro e u' w3 ⟨rfl, rfl, rfl⟩
    exact ⟨.tuple #[pkv p, .int .i64 ((0 : Nat) : Int), .int .i64 0], by simpa using res_caught rfl rfl rfl HS.out HX1.out HX2.out, p, 0, 0, rfl, HF.out⟩
  · have h0 : Pb w1 w.heap.size zpk := heap_gr (o := .cells (pkc zpk) 26 (0, 0)) HP0.out hg (by omega)
    have h1 := heap_gr HP1.out hg (by omega)
    have h2 := heap_gr HP2.out hg (by omega)
    obtain ⟨x1, y1⟩ := cell_at h1
    obtain ⟨x2, y2⟩ := cell_at h2
    have gB := gr_set w1 (w.heap.size + 1) 0 (.int .i64 (q : Int))
    have gC := gr_set (w1.setCell ⟨w.heap.size + 1, 0, none⟩ (.int .i64 (q : Int))) (w.heap.size + 1 + 1) 0 (.int .i64 er)
    have gD : Below ((w1.setCell ⟨w.heap.size + 1, 0, none⟩ (.int .i64 (q : Int))).setCell ⟨w.heap.size + 1 + 1, 0, none⟩ (.int .i64 er)).heap.size ((w1.setCell ⟨w.heap.size + 1, 0, none⟩ (.int .i64 (q : Int))).setCell ⟨w.heap.size + 1 + 1, 0, none⟩ (.int .i64 er)) ((((w1.setCell ⟨w.heap.size + 1, 0, none⟩ (.int .i64 (q : Int))).setCell ⟨w.heap.size + 1 + 1, 0, none⟩ (.int .i64 er)).alloc (.cells #[.int .i64 er, .int .i64 (q : Int)] 95)).drew) := (below_new _ _).drew
    have HS := hidden (((h0.gr gB (by omega)).gr gC (by omega)).later gD)
    have hk1 := heap_gr (Chu.heap_set _ _ 0 (.int .i64 (q : Int)) h1) gC (by omega)
    have hk2 := Chu.heap_set _ _ 0 (.int .i64 er) (heap_gr h2 gB (by omega))
    have HX1 := hidden (cell_at ((gD.block _ (Array.getElem?_eq_some_iff.1 hk1).1).trans hk1)).1
    have HX2 := hidden (cell_at ((gD.block _ (Array.getElem?_eq_some_iff.1 hk2).1).trans hk2)).1
    have HF := hidden (show CauO w ((((w1.setCell ⟨w.heap.size + 1, 0, none⟩ (.int .i64 (q : Int))).setCell ⟨w.heap.size + 1 + 1, 0, none⟩ (.int .i64 er)).alloc (.cells #[.int .i64 er, .int .i64 (q : Int)] 95)).drew) B G F zpk q er from
      ⟨gr_trans (gr_own (gr_own (gr_trans (gr_below HB0.out _) hg) gB (fun k hk => by cases hk; omega)) gC (fun k hk => by cases hk; omega)) (gr_below gD _), .inr ⟨he, rfl, hF⟩⟩)
    clear h0 h1 h2 gB gC gD hk1 hk2 hg he hF
    refine leaves_cons (f := 56) (args := #[.pointer (some ⟨w.heap.size + 1, 0, none⟩), .pointer (some ⟨w.heap.size + 1 + 1, 0, none⟩)]) (by simp) (by simp [go_sem]) ?_
    refine (catch_panicking (w.heap.size + 1) (w.heap.size + 1 + 1) 0 0 er (q : Int) [] w1 x1 y1 x2 y2 (by omega)).mono ?_
    rintro e u' w3 ⟨rfl, rfl, rfl⟩
    exact ⟨.tuple #[pkv zpk, .int .i64 (q : Int), .int .i64 er], by simpa using res_caught rfl rfl rfl HS.out HX1.out HX2.out, zpk, q, er, rfl, HF.out⟩
set_option maxHeartbeats 1000000 in
theorem caughtH (w : World) (B : Nat) (G : Pk → Prop) (F : Nat → Int → Prop) (hB : B < w.heap.size)
    (C : ∀ x : World, x.heap.size = w.heap.size + 3 → Below w.heap.size w x → Calls Tryz.prog 37 #[.pointer (some ⟨B, 0, none⟩)] x fun e x' => x.grownBy x' (some B) ∧ ((∃ p : Pk, e = .returned (pkv p) ∧ PkOk x.heap.size x' p ∧ G p) ∨ ∃ (q : Nat) (er : Int), e = thrown er (q : Int) ∧ er ≠ 0 ∧ F q er)) :
    Calls Tryz.prog 34 #[.func (.func 37) #[.pointer (some ⟨B, 0, none⟩)] #[]] w fun e w' => ∃ (p : Pk) (q : Nat) (er : Int), e = .returned (.tuple #[pkv p, .int .i64 (q : Int), .int .i64 er]) ∧ CauO w w' B G F p q er := by
  have hmf : ∀ (fn : Fn) (first cap : Array Value) (w : World), (Instr.makeFunc fn first cap).run Tryz.prog w = .ok (.func fn first cap) w := fun _ _ _ _ => rfl
  have hb0 : Below w.heap.size w (((w.alloc (.cells #[.int .u16 0, .int .u16 0, .int .u32 0, .slice none 0 0] 26)).alloc (.cells #[.int .i64 0] 3)).alloc (.cells #[.int .i64 0] 28)) :=
    (((Below.refl _ w).alloc (Nat.le_refl _) _).alloc (by simp) _).alloc (by simp; omega) _
  have hs0 : (((w.alloc (.cells #[.int .u16 0, .int .u16 0, .int .u32 0, .slice none 0 0] 26)).alloc (.cells #[.int .i64 0] 3)).alloc (.cells #[.int .i64 0] 28)).heap.size = w.heap.size + 3 := by simp
  have hp0 : (((w.alloc (.cells #[.int .u16 0, .int .u16 0, .int .u32 0, .slice none 0 0] 26)).alloc (.cells #[.int .i64 0] 3)).alloc (.cells #[.int .i64 0] 28)).heap[w.heap.size]? = some (.cells #[.int .u16 0, .int .u16 0, .int .u32 0, .slice none 0 0] 26 (0, 0)) := by
    rw [heap_alloc_old _ _ (by simp; omega), heap_alloc_old _ _ (by simp)]
    exact heap_alloc_new w _
  have hp1 : (((w.alloc (.cells #[.int .u16 0, .int .u16 0, .int .u32 0, .slice none 0 0] 26)).alloc (.cells #[.int .i64 0] 3)).alloc (.cells #[.int .i64 0] 28)).heap[w.heap.size + 1]? = some (.cells #[.int .i64 0] 3 (0, 0)) := by
    rw [heap_alloc_old _ _ (by simp)]
    have := heap_alloc_new (w.alloc (.cells #[.int .u16 0, .int .u16 0, .int .u32 0, .slice none 0 0] 26)) (.cells #[.int .i64 0] 3)
    rw [World.size_alloc] at this
    exact this
  have hp2 : (((w.alloc (.cells #[.int .u16 0, .int .u16 0, .int .u32 0, .slice none 0 0] 26)).alloc (.cells #[.int .i64 0] 3)).alloc (.cells #[.int .i64 0] 28)).heap[w.heap.size + 1 + 1]? = some (.cells #[.int .i64 0] 28 (0, 0)) := by
    have := heap_alloc_new ((w.alloc (.cells #[.int .u16 0, .int .u16 0, .int .u32 0, .slice none 0 0] 26)).alloc (.cells #[.int .i64 0] 3)) (.cells #[.int .i64 0] 28)
    rw [World.size_alloc, World.size_alloc] at this
    exact this
  have CC := hidden (C _ hs0 hb0)
  have HB0 := hidden hb0
  have HP0 := hidden hp0
  have HP1 := hidden hp1
  have HP2 := hidden hp2
  have hs0' := hs0
  clear C hb0 hp0 hp1 hp2
  go_enter_defers Tryz.func34, Tryz.ntmps34
  go_wp2_with fail
  generalize hW : World.alloc (World.alloc (World.alloc w _) _) _ = W at *
  clear hW
  refine Calls.mono CC.out ?_
  rintro e w1 ⟨hg, ⟨p, rfl, hp, hG⟩ | ⟨q, er, rfl, he, hF⟩⟩
  · have h0 : Pb w1 w.heap.size zpk := heap_gr (o := .cells (pkc zpk) 26 (0, 0)) HP0.out hg (by omega)
    have h1 := heap_gr HP1.out hg (by omega)
    have h2 := heap_gr HP2.out hg (by omega)
    have hs1 := hg.size
    obtain ⟨z0, z1, z2, z3⟩ := h0.px
    have k0 := h0.fr 0
    have k1 := h0.fr 1
    have k2 := h0.fr 2
    have k3 := h0.fr 3
    obtain ⟨x1, y1⟩ := cell_at h1
    obtain ⟨x2, y2⟩ := cell_at h2
    have gA := setW_gr w1 w.heap.size p
    have gB := gr_set (setW w1 w.heap.size p) (w.heap.size + 1) 0 (.int .i64 0)
    have gC := gr_set ((setW w1 w.heap.size p).setCell ⟨w.heap.size + 1, 0, none⟩ (.int .i64 0)) (w.heap.size + 1 + 1) 0 (.int .i64 0)
    have HS := hidden (((h0.set (p := p)).gr gB (by omega)).gr gC (by omega))
    have HX1 := hidden (cell_at (heap_gr (Chu.heap_set _ _ 0 (.int .i64 0) (heap_gr h1 gA (by omega))) gC (by omega))).1
    have HX2 := hidden (cell_at (Chu.heap_set _ _ 0 (.int .i64 0) (heap_gr (heap_gr h2 gA (by omega)) gB (by omega)))).1
    have HF := hidden (show CauO w (((setW w1 w.heap.size p).setCell ⟨w.heap.size + 1, 0, none⟩ (.int .i64 0)).setCell ⟨w.heap.size + 1 + 1, 0, none⟩ (.int .i64 0)) B G F p 0 0 from
      ⟨gr_own (gr_own (gr_own (gr_trans (gr_below HB0.out _) hg) gA (fun k hk => by cases hk; omega)) gB (fun k hk => by cases hk; omega)) gC (fun k hk => by cases hk; omega), .inl ⟨rfl, rfl, ⟨hp.1, hp.2.1, hp.2.2.1,
        (((Cks.setW (Cks.mono hp.2.2.2 (by omega)) (by omega) p).set (x := ⟨w.heap.size + 1, 0, none⟩) (by simp only; omega) _).set (x := ⟨w.heap.size + 1 + 1, 0, none⟩) (by simp only; omega) _)⟩, hG⟩⟩)
    clear h0 h1 h2 gA gB gC hp hG hg
    simp only [setW] at HS HX1 HX2 HF
    rw [show pkv p = .agg #[.int .u16 p.f, .int .u16 p.t, .int .u32 p.g, .slice p.a p.n p.c] from rfl]
    go_wp2
    refine leaves_cons (f := 56) (args := #[.pointer (some ⟨w.heap.size + 1, 0, none⟩), .pointer (some ⟨w.heap.size + 1 + 1, 0, none⟩)]) (by simp) (by simp [go_sem]) ?_
    refine (catch_idle (w.heap.size + 1) (w.heap.size + 1 + 1) _).mono ?_
    rintro e u' w3 ⟨rfl, rfl, rfl⟩
    exact ⟨.tuple #[pkv p, .int .i64 ((0 : Nat) : Int), .int .i64 0], by simpa using res_caught rfl rfl rfl HS.out HX1.out HX2.out, p, 0, 0, rfl, HF.out⟩
  · have h0 : Pb w1 w.heap.size zpk := heap_gr (o := .cells (pkc zpk) 26 (0, 0)) HP0.out hg (by omega)
    have h1 := heap_gr HP1.out hg (by omega)
    have h2 := heap_gr HP2.out hg (by omega)
    obtain ⟨x1, y1⟩ := cell_at h1
    obtain ⟨x2, y2⟩ := cell_at h2
    have gB := gr_set w1 (w.heap.size + 1) 0 (.int .i64 (q : Int))
    have gC := gr_set (w1.setCell ⟨w.heap.size + 1, 0, none⟩ (.int .i64 (q : Int))) (w.heap.size + 1 + 1) 0 (.int .i64 er)
    have gD : Below ((w1.setCell ⟨w.heap.size + 1, 0, none⟩ (.int .i64 (q : Int))).setCell ⟨w.heap.size + 1 + 1, 0, none⟩ (.int .i64 er)).heap.size ((w1.setCell ⟨w.heap.size + 1, 0, none⟩ (.int .i64 (q : Int))).setCell ⟨w.heap.size + 1 + 1, 0, none⟩ (.int .i64 er)) ((((w1.setCell ⟨w.heap.size + 1, 0, none⟩ (.int .i64 (q : Int))).setCell ⟨w.heap.size + 1 + 1, 0, none⟩ (.int .i64 er)).alloc (.cells #[.int .i64 er, .int .i64 (q : Int)] 95)).drew) := (below_new _ _).drew
    have HS := hidden (((h0.gr gB (by omega)).gr gC (by omega)).later gD)
    have hk1 := heap_gr (Chu.heap_set _ _ 0 (.int .i64 (q : Int)) h1) gC (by omega)
    have hk2 := Chu.heap_set _ _ 0 (.int .i64 er) (heap_gr h2 gB (by omega))
    have HX1 := hidden (cell_at ((gD.block _ (Array.getElem?_eq_some_iff.1 hk1).1).trans hk1)).1
    have HX2 := hidden (cell_at ((gD.block _ (Array.getElem?_eq_some_iff.1 hk2).1).trans hk2)).1
    have HF := hidden (show CauO w ((((w1.setCell ⟨w.heap.size + 1, 0, none⟩ (.int .i64 (q : Int))).setCell ⟨w.heap.size + 1 + 1, 0, none⟩ (.int .i64 er)).alloc (.cells #[.int .i64 er, .int .i64 (q : Int)] 95)).drew) B G F zpk q er from
      ⟨gr_trans (gr_own (gr_own (gr_trans (gr_below HB0.out _) hg) gB (fun k hk => by cases hk; omega)) gC (fun k hk => by cases hk; omega)) (gr_below gD _), .inr ⟨he, rfl, hF⟩⟩)
    clear h0 h1 h2 gB gC gD hk1 hk2 hg he hF
    refine leaves_cons (f := 56) (args := #[.pointer (some ⟨w.heap.size + 1, 0, none⟩), .pointer (some ⟨w.heap.size + 1 + 1, 0, none⟩)]) (by simp) (by simp [go_sem]) ?_
    refine (catch_panicking (w.heap.size + 1) (w.heap.size + 1 + 1) 0 0 er (q : Int) [] w1 x1 y1 x2 y2 (by omega)).mono ?_
    rintro e u' w3 ⟨rfl, rfl, rfl⟩
    exact ⟨.tuple #[pkv zpk, .int .i64 (q : Int), .int .i64 er], by simpa using res_caught rfl rfl rfl HS.out HX1.out HX2.out, zpk, q, er, rfl, HF.out⟩
end Go.Proofs.YtmnndkhdekpecaaGreatDoor.Pkt
