/-
  What came in: packets.
  Conditions: as at each lemma.
-/
import Derived.Test.YtmnndkhdekpecaaGreatDoorPkA
import Derived.Test.YtmnndkhdekpecaaGreatDoorChArgs
namespace Go.Proofs.YtmnndkhdekpecaaGreatDoor.Pkt
open Go.ChangeShapes Go.WideShapes Go.ChangeAt Go.RowKit Go.Deep
open Chu (Ck Cks)
set_option linter.unusedVariables false
set_option maxRecDepth 20000

theorem fieldsP : ∃ fs : Array Field, Tryz.prog.underlying 26 = some (.struct fs) ∧ fs.map (fun f => (f.offset, f.type)) = #[(0, 22), (1, 22), (2, 23), (3, 24)] := ⟨_, Tryz.underlying26, by simp⟩
theorem list4 {α : Type} {l : List α} (h : l.length = 4) : ∃ v0 v1 v2 v3, l = [v0, v1, v2, v3] := by
  match l, h with
  | [v0, v1, v2, v3], _ => exact ⟨v0, v1, v2, v3, rfl⟩
section
variable {H : Type} {enc : TypeId × Value → H} {W : World} {base : Nat} {held : Bool} {fuel : Nat} {cl : List Value} {x : DataW H × List MemPlace}
theorem packet_of (h : DataW.trod enc Tryz.prog W base (fun _ => true) held fuel 26 cl = some x) (hsz : (x.1.weights Tryz.prog 26).all (· ≤ reachBytes) = true) :
    ∃ p : Pk, cl = (pkc p).toList ∧ PkOk 0 W p ∧ ∀ c ∈ p.l, c.bl ≤ 140737488351232 := by
  obtain ⟨fs, hu, hfs⟩ := fieldsP
  obtain ⟨xs, n, hf, hx, hcl, hxl, hfield⟩ := DataW.trod_struct hu h
  have hc4 : Tryz.prog.cellsOf 26 = 4 := by kernel_rfl
  rw [hc4] at hcl
  have hfl : fs.size = 4 := by
    have := congrArg Array.size hfs
    simpa using this
  rw [hfl] at hxl
  subst hx
  simp only [DataW.weights, hu] at hsz
  have htypes : fs.toList.map (fun f => f.type) = [22, 22, 23, 24] := by
    have := congrArg (fun l => l.toList.map (·.2)) hfs
    simpa [Function.comp_def] using this
  rw [htypes] at hsz
  have wt : ∀ (i : Nat) (t : TypeId) (y : DataW H × List MemPlace), ([22, 22, 23, 24] : List TypeId)[i]? = some t → xs[i]? = some y → (y.1.weights Tryz.prog t).all (· ≤ reachBytes) = true := by
    intro i t y ht hy
    refine List.all_eq_true.2 fun m hm => List.all_eq_true.1 hsz m (DataW.weights_mem_each (j := i) ht (by rw [List.getElem?_map, hy]; rfl) m hm)
  obtain ⟨v0, v1, v2, v3, rfl⟩ := list4 hcl
  obtain ⟨y0, y1, y2, y3, rfl⟩ := list4 hxl
  obtain ⟨q0, k0, o0, t0⟩ := Chu.field_at hfs (i := 0) (o := 0) (t := 22) rfl
  have g0 := hfield 0 q0 k0
  rw [o0, t0, show Tryz.prog.cellsOf 22 = 1 by kernel_rfl] at g0
  simp only [List.drop_zero, List.take_succ_cons, List.take_zero, List.getElem?_cons_zero] at g0
  obtain ⟨n0, e0, _, w0⟩ := DataW.trod_int Tryz.underlying22 g0
  obtain rfl : v0 = .int .u16 n0 := by simpa using e0
  obtain ⟨q1, k1, o1, t1⟩ := Chu.field_at hfs (i := 1) (o := 1) (t := 22) rfl
  have g1 := hfield 1 q1 k1
  rw [o1, t1, show Tryz.prog.cellsOf 22 = 1 by kernel_rfl] at g1
  simp only [List.drop_zero, List.drop_succ_cons, List.take_succ_cons, List.take_zero, List.getElem?_cons_zero, List.getElem?_cons_succ] at g1
  obtain ⟨n1, e1, _, w1⟩ := DataW.trod_int Tryz.underlying22 g1
  obtain rfl : v1 = .int .u16 n1 := by simpa using e1
  obtain ⟨q2, k2, o2, t2⟩ := Chu.field_at hfs (i := 2) (o := 2) (t := 23) rfl
  have g2 := hfield 2 q2 k2
  rw [o2, t2, show Tryz.prog.cellsOf 23 = 1 by kernel_rfl] at g2
  simp only [List.drop_zero, List.drop_succ_cons, List.take_succ_cons, List.take_zero, List.getElem?_cons_zero, List.getElem?_cons_succ] at g2
  obtain ⟨n2, e2, _, w2⟩ := DataW.trod_int Tryz.underlying23 g2
  obtain rfl : v2 = .int .u32 n2 := by simpa using e2
  obtain ⟨q3, k3, o3, t3⟩ := Chu.field_at hfs (i := 3) (o := 3) (t := 24) rfl
  have g3 := hfield 3 q3 k3
  rw [o3, t3, show Tryz.prog.cellsOf 24 = 1 by kernel_rfl] at g3
  simp only [List.drop_zero, List.drop_succ_cons, List.take_succ_cons, List.take_zero, List.getElem?_cons_zero, List.getElem?_cons_succ] at g3
  obtain ⟨a, m, cap, rfl⟩ : ∃ a m cap, v3 = .slice a m cap := by
    rcases open_slice Tryz.underlying24 g3 with ⟨hcs, _⟩ | ⟨ad, l, c, m, k, D, Pl, hcs, _⟩
    · exact ⟨none, 0, 0, by simpa using hcs⟩
    · exact ⟨some ad, l, c, by simpa using hcs⟩
  obtain ⟨l, hl, hbl⟩ := Chu.chunks_arg' (a := a) (n := m) (cap := cap) g3 (wt 3 24 y3 rfl rfl)
  exact ⟨⟨n0, n1, n2, a, m, cap, l⟩, rfl, ⟨Par.u16_bounds w0, Par.u16_bounds w1, Chu.u32_bounds w2, hl⟩, hbl⟩
end
theorem packet_arg {H : Type} {enc : TypeId × Value → H} {W : World} {base : Nat} {held : Bool} {fuel : Nat} {v : Value} {x : DataW H × List MemPlace} {b0 : Nat} {r : Reach}
    (hval : Value.okWide Tryz.prog W r b0 26 v) (h : DataW.trod enc Tryz.prog W base (fun _ => true) held fuel 26 v.cells.toList = some x)
    (hsz : (x.1.weights Tryz.prog 26).all (· ≤ reachBytes) = true) : ∃ p : Pk, v = pkv p ∧ PkOk 0 W p ∧ ∀ c ∈ p.l, c.bl ≤ 140737488351232 := by
  obtain ⟨c, hc, hk⟩ := packet_of h hsz
  refine ⟨c, ?_, hk⟩
  obtain ⟨cs, rfl, _⟩ := okWide_struct Tryz.underlying26 hval
  have e : cs.toList = (pkc c).toList := hc
  rw [Array.toList_inj] at e
  rw [e]
  rfl
end Go.Proofs.YtmnndkhdekpecaaGreatDoor.Pkt
