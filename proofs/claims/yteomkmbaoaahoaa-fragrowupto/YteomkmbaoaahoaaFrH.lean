/-
  Join of package frag, as it is called.
  Conditions: as at each lemma.
-/
import Derived.Test.YteomkmbaoaahoaaFrG
namespace Go.Proofs.Yteomkmbaoaahoaa.Fr
open Go.ChangeShapes Go.WideShapes Go.ChangeAt Go.RowKit
open Ba (hidden Has Only cell_lt heap_lt)
open Ow (Own)
set_option linter.unusedVariables false
set_option maxRecDepth 20000

theorem Mine.stay {base : Nat} {w w' : World} {v : Value} {zs : List Int} {F : List Nat} (h : Mine base w v zs) (ho : Only F w w') (hF : ∀ k ∈ F, k < base) : Mine base w' v zs :=
  ⟨Ba.own_stay h.1 ho (fun k hk hf => by have := (h.1.lt k hk).1; have := hF k hf; omega), h.2⟩
theorem Mine.nil (base : Nat) (w : World) : Mine base w (.slice none 0 0) [] := ⟨World.ownsRow_nil _ _ _ _, Bytes.nil, by simp⟩
/-- what the function handed to caught leaves -/
def J1G (p1 : Nat) (vs : List V) (x x' : World) : Prop := Only [p1] x x' ∧ ∃ v, Has x' p1 #[v] 22 ∧ Mine x.heap.size x' v (flat vs) ∧ JO vs (flat vs) 0 0
def J1T (vs : List V) (x x' : World) (er q : Int) : Prop := ∃ i : Nat, q = (i : Int) ∧ Below x.heap.size x x' ∧ JO vs [] i er
section
variable {w : World} {pa : Option Addr} {n pcap : Nat} {vs : List V}
theorem join1 {x : World} {p0 p1 : Nat} (h0 : Has x p0 #[.slice pa n pcap] 23) (h1 : Has x p1 #[.slice none 0 0] 22) (hp : Pcs x pa n vs) (ht : (flat vs).length ≤ 140737488355328) :
    Calls Try.prog 22 #[.pointer (some ⟨p0, 0, none⟩), .pointer (some ⟨p1, 0, none⟩)] x fun e x' => (e = .returned (.tuple #[]) ∧ J1G p1 vs x x') ∨ ∃ er q : Int, e = thrown er q ∧ J1T vs x x' er q := by
  have WH := hidden (whole (pcap := pcap) hp ht)
  have c0 := h0.cell 0 rfl
  have H1 := hidden h1
  clear h0 h1 hp ht
  go_enter Try.func22, Try.ntmps22
  go_wp2_with fail
  refine Calls.mono WH.out ?_
  rintro e w1 ⟨b1, ⟨v, rfl, hv, hj⟩ | ⟨er, i, rfl, hj⟩⟩
  · obtain ⟨a, cap, rfl, _⟩ := hv.row
    have h1 := H1.out.later b1
    have d0 := h1.cell 0 rfl
    have d1 := h1.frozen 0
    have hs := h1.lt
    have hlt := H1.out.lt
    have hO := Only.setCell (F := [p1]) w1 (p := ⟨p1, 0, none⟩) (by simp) (.slice a (flat vs).length cap)
    have HF : Hid (J1G p1 vs x (w1.setCell ⟨p1, 0, none⟩ (.slice a (flat vs).length cap))) := ⟨(Only.of_below b1).then hO, _, h1.set 0 _, hv.stay hO (by simpa using hlt), hj⟩
    clear hv hj h1 hO b1 WH
    go_wp2
    go_end0
    exact .inl ⟨rfl, HF.out⟩
  · exact ⟨rfl, .inr ⟨er, (i : Int), rfl, i, rfl, b1, hj⟩⟩
/-- what Join tells -/
def JoinO (w : World) (vs : List V) (e : Ending) (w' : World) : Prop := ∃ (v : Value) (bs : List Int) (i : Nat) (er : Int), e = .returned (.tuple #[v, .int .i64 (i : Int), .int .i64 er]) ∧ JO vs bs i er ∧ Mine w.heap.size w' v bs ∧ Below w.heap.size w w'
set_option maxHeartbeats 2000000 in
theorem join (hp : Pcs w pa n vs) (ht : (flat vs).length ≤ 140737488355328) : Calls Try.prog 15 #[.slice pa n pcap] w fun e w' => JoinO w vs e w' := by
  have hmf : ∀ (fn : Fn) (first cap : Array Value) (w : World), (Instr.makeFunc fn first cap).run Try.prog w = .ok (.func fn first cap) w := fun _ _ _ _ => rfl
  have O := ((Own.refl w).alloc #[.slice pa n pcap] 23).alloc #[.slice none 0 0] 22
  have hs0 : ((w.alloc (.cells #[.slice pa n pcap] 23)).alloc (.cells #[.slice none 0 0] 22)).heap.size = w.heap.size + 2 := by simp
  have hp0 := O.has (b := w.heap.size) (.tail _ (.head _))
  have hp1 := O.has (b := (w.alloc (.cells #[.slice pa n pcap] 23)).heap.size) (.head _)
  rw [World.size_alloc] at hp1
  have CA := hidden (caught_J ((w.alloc (.cells #[.slice pa n pcap] 23)).alloc (.cells #[.slice none 0 0] 22)) w.heap.size (w.heap.size + 1) (J1G (w.heap.size + 1) vs) (J1T vs) (fun x hx hb => (join1 (hp0.later hb) (hp1.later hb) ((hp.later O.below).later hb) ht).mono (by
    rintro e x' (⟨rfl, hG⟩ | ⟨er, q, rfl, hT⟩)
    · refine ⟨⟨hG.1.size, hG.1.block _ (by omega) (by simp <;> omega), hG.1.block _ (by omega) (by simp <;> omega)⟩, .inl ⟨rfl, hG⟩⟩
    · obtain ⟨i, rfl, b1, hj⟩ := hT
      exact ⟨⟨b1.size, b1.block _ (by omega), b1.block _ (by omega)⟩, .inr ⟨_, _, rfl, i, rfl, b1, hj⟩⟩)))
  have HB0 := hidden O.below
  have HP1 := hidden hp1
  clear O hp0 hp1 hp ht
  go_enter Try.func15, Try.ntmps15
  go_wp2_with fail
  generalize hW : World.alloc (World.alloc w _) _ = W at *
  clear hW
  refine Calls.mono CA.out ?_
  rintro e w1 ⟨x, x', q, er, rfl, hx, hb, ho, ⟨rfl, rfl, hG⟩ | ⟨i, rfl, b1, hj⟩⟩
  · obtain ⟨hO, v, hh, hv, hj⟩ := hG
    have hh1 := hh.stay ho (by simp <;> omega)
    have c1 := hh1.cell 0 rfl
    obtain ⟨a, cap, rfl, _⟩ := hv.row
    have hbw : Below w.heap.size w x := HB0.out.trans (hb.mono (by omega))
    have HF : Hid (JoinO w vs (.returned (.tuple #[.slice a (flat vs).length cap, .int .i64 ((0 : Nat) : Int), .int .i64 0])) w1) :=
      ⟨_, _, 0, 0, rfl, hj, (hv.stay ho (by simp <;> omega)).le (by omega), (hbw.trans (hO.below (by omega) (by simp))).trans (ho.below (by have := hO.size; omega) (by simp <;> omega))⟩
    clear hh hh1 hv hj hO ho hb hbw CA
    go_wp2
    go_ret3
    exact HF.out
  · have hh1 := ((HP1.out.later hb).later b1).stay ho (by simp <;> omega)
    have c1 := hh1.cell 0 rfl
    have hbw : Below w.heap.size w x := HB0.out.trans (hb.mono (by omega))
    have HF : Hid (JoinO w vs (.returned (.tuple #[.slice none 0 0, .int .i64 (i : Int), .int .i64 er])) w1) :=
      ⟨_, _, i, er, rfl, hj, Mine.nil _ _, (hbw.trans (b1.mono (by omega))).trans (ho.below (by have := b1.size; omega) (by simp <;> omega))⟩
    clear hh1 hj ho hb b1 hbw CA
    go_wp2
    go_ret3
    exact HF.out
end
end Go.Proofs.Yteomkmbaoaahoaa.Fr
