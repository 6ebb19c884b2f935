/-
  Runs of package frag, as it is called.
  Conditions: as at each lemma.
-/
import Derived.Test.YteomkmbaoaahoaaFrI
namespace Go.Proofs.Yteomkmbaoaahoaa.Fr
open Go.ChangeShapes Go.WideShapes Go.ChangeAt Go.RowKit
open Ba (hidden Has Only cell_lt heap_lt)
open Ow (Own)
set_option linter.unusedVariables false
set_option maxRecDepth 20000

theorem results_tmp4 {fn : Func} {t u v x : Tmp} (h : fn.results = #[.tmp t, .tmp u, .tmp v, .tmp x]) (tmps : Array Value) (P : Program) (w : World) :
    (results fn tmps).run P w = .ok (.tuple #[tmps.getD t undef, tmps.getD u undef, tmps.getD v undef, tmps.getD x undef]) w := by
  simp [results, h]
theorem LT.stay {base : Nat} {w w' : World} {v : Value} {ts : List T} {F : List Nat} (h : LT base w v ts) (ho : Only F w w') (hF : ∀ k ∈ F, k < base) : LT base w' v ts :=
  ⟨Ba.own_stay h.1 ho (fun k hk hf => by have := (h.1.lt k hk).1; have := hF k hf; omega), fun t ht => ⟨Ba.own_stay (h.2 t ht).1 ho (fun k hk hf => by have := ((h.2 t ht).1.lt k hk).1; have := hF k hf; omega), (h.2 t ht).2⟩⟩
/-- what the function handed to caught leaves -/
def R1G (p1 p2 : Nat) (vs : List V) (x x' : World) : Prop := Only [p1, p2] x x' ∧ ∃ (v : Value) (ts : List T) (left : Nat), Has x' p1 #[v] 41 ∧ Has x' p2 #[.int .i64 (left : Int)] 3 ∧ LT x.heap.size x' v ts ∧ RO vs (ts.map (·.2)) left 0 0
def R1T (vs : List V) (x x' : World) (er q : Int) : Prop := ∃ i : Nat, q = (i : Int) ∧ Below x.heap.size x x' ∧ RO vs [] 0 i er
theorem LT.form {base : Nat} {w : World} {v : Value} {ts : List T} (h : LT base w v ts) : ∃ a cap, v = .slice a ts.length cap := Ba.own_len h.1
section
variable {w : World} {pa : Option Addr} {n pcap : Nat} {vs : List V}
theorem runs1 {x : World} {p0 p1 p2 : Nat} (h0 : Has x p0 #[.slice pa n pcap] 23) (h1 : Has x p1 #[.slice none 0 0] 41) (h2 : Has x p2 #[.int .i64 0] 3) (hp : Pcs x pa n vs) (hc : n ≤ pcap) :
    Calls Try.prog 24 #[.pointer (some ⟨p0, 0, none⟩), .pointer (some ⟨p1, 0, none⟩), .pointer (some ⟨p2, 0, none⟩)] x fun e x' => (e = .returned (.tuple #[]) ∧ R1G p1 p2 vs x x') ∨ ∃ er q : Int, e = thrown er q ∧ R1T vs x x' er q := by
  have SV := hidden (several hp hc)
  have c0 := h0.cell 0 rfl
  have H1 := hidden h1
  have H2 := hidden h2
  have hne : p1 ≠ p2 := h1.ne h2 (by decide)
  clear h0 h1 h2 hp
  go_enter Try.func24, Try.ntmps24
  go_wp2_with fail
  refine Calls.mono SV.out ?_
  rintro e w1 ⟨b1, ⟨v, ts, left, rfl, hv, hj⟩ | ⟨er, i, rfl, hj⟩⟩
  · obtain ⟨a, cap, rfl⟩ := hv.form
    have h1 := H1.out.later b1
    have h2 := H2.out.later b1
    have d0 := h1.cell 0 rfl
    have d1 := h1.frozen 0
    have d2 := h2.cell 0 rfl
    have d3 := h2.frozen 0
    have l1 := h1.lt
    have l2 := h2.lt
    have k1 := H1.out.lt
    have k2 := H2.out.lt
    have hO := (Only.setCell (F := [p1, p2]) w1 (p := ⟨p1, 0, none⟩) (by simp) (.slice a ts.length cap)).then (Only.setCell _ (p := ⟨p2, 0, none⟩) (by simp) (.int .i64 (left : Int)))
    have HF : Hid (R1G p1 p2 vs x ((w1.setCell ⟨p1, 0, none⟩ (.slice a ts.length cap)).setCell ⟨p2, 0, none⟩ (.int .i64 (left : Int)))) :=
      ⟨(Only.of_below b1).then hO, _, ts, left, (h1.set 0 _).set_other (p := ⟨p2, 0, none⟩) hne _, (h2.set_other (p := ⟨p1, 0, none⟩) (Ne.symm hne) _).set 0 _, hv.stay hO (by simp; omega), hj⟩
    clear hv hj h1 h2 hO b1 SV
    go_wp2
    go_end0
    exact .inl ⟨rfl, HF.out⟩
  · exact ⟨rfl, .inr ⟨er, (i : Int), rfl, i, rfl, b1, hj⟩⟩
/-- what Runs tells -/
def RunsO (w : World) (vs : List V) (e : Ending) (w' : World) : Prop := ∃ (v : Value) (ts : List T) (left i : Nat) (er : Int), e = .returned (.tuple #[v, .int .i64 (left : Int), .int .i64 (i : Int), .int .i64 er]) ∧ RO vs (ts.map (·.2)) left i er ∧ LT w.heap.size w' v ts ∧ Below w.heap.size w w'
theorem RunsO.drewN {w w' : World} {vs : List V} {e : Ending} (h : RunsO w vs e w') (n : Nat) : RunsO w vs e (w'.drewN n) := by
  obtain ⟨v, ts, left, i, er, rfl, h1, h2, h3⟩ := h
  exact ⟨v, ts, left, i, er, rfl, h1, h2, ⟨h3.os, h3.tape, h3.output, h3.size, h3.block⟩⟩
set_option maxHeartbeats 2000000 in
theorem runs (hp : Pcs w pa n vs) (hc : n ≤ pcap) : Calls Try.prog 17 #[.slice pa n pcap] w fun e w' => RunsO w vs e w' := by
  have hmf : ∀ (fn : Fn) (first cap : Array Value) (w : World), (Instr.makeFunc fn first cap).run Try.prog w = .ok (.func fn first cap) w := fun _ _ _ _ => rfl
  have O := (((Own.refl w).alloc #[.slice pa n pcap] 23).alloc #[.slice none 0 0] 41).alloc #[.int .i64 0] 3
  have hs0 : (((w.alloc (.cells #[.slice pa n pcap] 23)).alloc (.cells #[.slice none 0 0] 41)).alloc (.cells #[.int .i64 0] 3)).heap.size = w.heap.size + 3 := by simp
  have hp0 := O.has (b := w.heap.size) (.tail _ (.tail _ (.head _)))
  have hp1 := O.has (b := (w.alloc (.cells #[.slice pa n pcap] 23)).heap.size) (.tail _ (.head _))
  have hp2 := O.has (b := ((w.alloc (.cells #[.slice pa n pcap] 23)).alloc (.cells #[.slice none 0 0] 41)).heap.size) (.head _)
  rw [World.size_alloc] at hp1
  rw [World.size_alloc, World.size_alloc] at hp2
  have CA := hidden (caught_R (((w.alloc (.cells #[.slice pa n pcap] 23)).alloc (.cells #[.slice none 0 0] 41)).alloc (.cells #[.int .i64 0] 3)) w.heap.size (w.heap.size + 1) (w.heap.size + 1 + 1) (R1G (w.heap.size + 1) (w.heap.size + 1 + 1) vs) (R1T vs) (fun x hx hb => (runs1 (hp0.later hb) (hp1.later hb) (hp2.later hb) ((hp.later O.below).later hb) hc).mono (by
    rintro e x' (⟨rfl, hG⟩ | ⟨er, q, rfl, hT⟩)
    · refine ⟨⟨hG.1.size, hG.1.block _ (by omega) (by simp <;> omega), hG.1.block _ (by omega) (by simp <;> omega)⟩, .inl ⟨rfl, hG⟩⟩
    · obtain ⟨i, rfl, b1, hj⟩ := hT
      exact ⟨⟨b1.size, b1.block _ (by omega), b1.block _ (by omega)⟩, .inr ⟨_, _, rfl, i, rfl, b1, hj⟩⟩)))
  have HB0 := hidden O.below
  have HP1 := hidden hp1
  have HP2 := hidden hp2
  clear O hp0 hp1 hp2 hp hc
  go_enter Try.func17, Try.ntmps17
  go_wp2_with fail
  generalize hW : World.alloc (World.alloc (World.alloc w _) _) _ = W at *
  clear hW
  refine Calls.mono CA.out ?_
  rintro e w1 ⟨x, x', q, er, rfl, hx, hb, ho, ⟨rfl, rfl, hG⟩ | ⟨i, rfl, b1, hj⟩⟩
  · obtain ⟨hO, v, ts, left, hh, hk, hv, hj⟩ := hG
    have c1 := (hh.stay ho (by simp <;> omega)).cell 0 rfl
    have c2 := (hk.stay ho (by simp <;> omega)).cell 0 rfl
    obtain ⟨a, cap, rfl⟩ := hv.form
    have hbw : Below w.heap.size w x := HB0.out.trans (hb.mono (by omega))
    have HF : Hid (RunsO w vs (.returned (.tuple #[.slice a ts.length cap, .int .i64 (left : Int), .int .i64 ((0 : Nat) : Int), .int .i64 0])) w1) :=
      ⟨_, ts, left, 0, 0, rfl, hj, (hv.stay ho (by simp <;> omega)).le (by omega), (hbw.trans (hO.below (by omega) (by simp <;> omega))).trans (ho.below (by have := hO.size; omega) (by simp <;> omega))⟩
    clear hh hk hv hj hO ho hb hbw CA
    go_wp2
    go_quiet (fail)
    have HF2 := hidden (HF.out.drewN nq)
    clear HF
    go_wp2
    (try simp only [Exit.inBlock, Exit.then])
    refine bodyPost_ret (results_tmp4 rfl _ _ _) rfl ?_
    exact HF2.out
  · have c1 := (((HP1.out.later hb).later b1).stay ho (by simp <;> omega)).cell 0 rfl
    have c2 := (((HP2.out.later hb).later b1).stay ho (by simp <;> omega)).cell 0 rfl
    have hbw : Below w.heap.size w x := HB0.out.trans (hb.mono (by omega))
    have HF : Hid (RunsO w vs (.returned (.tuple #[.slice none 0 0, .int .i64 ((0 : Nat) : Int), .int .i64 (i : Int), .int .i64 er])) w1) :=
      ⟨_, [], 0, i, er, rfl, hj, LT.nil _ _, (hbw.trans (b1.mono (by omega))).trans (ho.below (by have := b1.size; omega) (by simp <;> omega))⟩
    clear hj ho hb b1 hbw CA
    go_wp2
    go_quiet (fail)
    have HF2 := hidden (HF.out.drewN nq)
    clear HF
    go_wp2
    (try simp only [Exit.inBlock, Exit.then])
    refine bodyPost_ret (results_tmp4 rfl _ _ _) rfl ?_
    exact HF2.out
end
end Go.Proofs.Yteomkmbaoaahoaa.Fr
