/-
  How many chunks can be handed in.
  Conditions: they were laid as arguments are.
-/
import Derived.Test.YtmnndkhdekpecaaGreatDoorChArgs
namespace Go.Proofs.YtmnndkhdekpecaaGreatDoor.Pkt
open Go.ChangeShapes Go.WideShapes Go.ChangeAt Go.RowKit Go.Deep
set_option linter.unusedVariables false
theorem chunks_len {H : Type} {enc : TypeId × Value → H} {W : World} {base : Nat} {held : Bool} {fuel : Nat} {a : Option Addr} {n cap : Nat} {x : DataW H × List MemPlace}
    (h : DataW.trod enc Tryz.prog W base (fun _ => true) held fuel 24 (Value.slice a n cap).cells.toList = some x)
    (hsz : (x.1.weights Tryz.prog 24).all (· ≤ reachBytes) = true) : n * 152 ≤ 140737488351232 := by
  have hb : Tryz.prog.bytesOf 59 = 152 := by kernel_rfl
  rcases open_slice Tryz.underlying24 h with ⟨hcs, _⟩ | ⟨ad, l, c, m, k, D, Pl, hcs, _, hl, hm, hmm, rfl, hx⟩
  · simp [Value.cells] at hcs
    obtain ⟨rfl, rfl, rfl⟩ := hcs
    omega
  · simp [Value.cells] at hcs
    obtain ⟨rfl, rfl, rfl⟩ := hcs
    simp only [if_pos] at hmm
    subst hmm
    simp only [DataW.weights, Tryz.underlying24, List.all_cons, Bool.and_eq_true, decide_eq_true_eq, hb, List.all_append, List.length_map, List.length_range] at hsz
    obtain ⟨hs1, hs2, _⟩ := hsz
    unfold reachBytes at hs1
    omega
end Go.Proofs.YtmnndkhdekpecaaGreatDoor.Pkt
