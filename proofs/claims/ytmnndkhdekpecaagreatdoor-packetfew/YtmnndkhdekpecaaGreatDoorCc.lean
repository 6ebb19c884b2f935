/-
  The reader of package chunk: its smallest functions. The reader of package chunk: lists of gaps and of numbers, counts. The reader of package chunk: parameters; reports. The reader of package chunk: what it leaves alone; lists that it makes. The reader of package chunk: reports. The reader of package chunk: a value.
  Conditions: as at each lemma.
-/
import Derived.Test.YtmnndkhdekpecaaGreatDoorCb
import Derived.Test.YtmnndkhdekpecaaGreatDoorPb
namespace Go.Proofs.YtmnndkhdekpecaaGreatDoor.Chu
open Go.ChangeShapes Go.WideShapes Go.ChangeAt Go.RowKit
open Par (hidden Bytes Row Prm Prms cell_lt Cap cells_new cutA thrown)
set_option linter.unusedVariables false

/-- block B is a reader of these bytes, which lie in the older world w0 -/
def Rdr (base : Nat) (w0 w : World) (B : Nat) (zs : List Int) : Prop :=
  ∃ a len cap, w.heap[B]? = some (.cells #[.slice a len cap] 144 (0, 0)) ∧ Row base w0 a len zs ∧ len ≤ cap ∧ (a = none → len = 0 ∧ cap = 0)
theorem Rdr.lt {base : Nat} {w0 w : World} {B : Nat} {zs : List Int} (h : Rdr base w0 w B zs) : B < w.heap.size := by
  obtain ⟨a, len, cap, h1, _⟩ := h
  exact (Array.getElem?_eq_some_iff.1 h1).1
theorem Rdr.same {base : Nat} {w0 w w' : World} {B : Nat} {zs : List Int} (h : Rdr base w0 w B zs) (e : w'.heap[B]? = w.heap[B]?) : Rdr base w0 w' B zs := by
  obtain ⟨a, len, cap, h1, h2⟩ := h
  exact ⟨a, len, cap, e.trans h1, h2⟩
theorem rd_c {w : World} {B : Nat} {a : Option Addr} {len cap : Nat} (h : w.heap[B]? = some (.cells #[.slice a len cap] 144 (0, 0))) : w.cell? ⟨B, 0, none⟩ = some (.slice a len cap) ∧ w.frozen? ⟨B, 0, none⟩ = false := by
  simp [World.cell?, World.frozen?, h]
theorem gr_set (w : World) (B i : Nat) (v : Value) : w.grownBy (w.setCell ⟨B, i, none⟩ v) (some B) :=
  ⟨rfl, rfl, rfl, by simp [World.setCell], fun k hk hne => by
    have : B ≠ k := fun e => hne (by rw [e])
    simp [World.setCell, Array.getElem?_modify, this]⟩
theorem gr_drew {w w' : World} {g : Nat} (h : w.grownBy w' (some g)) : w.grownBy w'.drew (some g) := by obtain ⟨a1, a2, a3, a4, a5⟩ := h; exact ⟨a1, a2, a3, a4, a5⟩
theorem gr_drewN {w w' : World} {g : Nat} (h : w.grownBy w' (some g)) (n : Nat) : w.grownBy (w'.drewN n) (some g) := by obtain ⟨a1, a2, a3, a4, a5⟩ := h; exact ⟨a1, a2, a3, a4, a5⟩
theorem row_take {base : Nat} {w : World} {a : Option Addr} {len : Nat} {zs : List Int} (h : Row base w a len zs) (n : Nat) (hn : n ≤ len) : Row base w a n (zs.take n) := by
  obtain ⟨h1, h2, h3, h4⟩ := h
  refine ⟨by rw [List.length_take]; omega, fun x hx => h2 x (List.mem_of_mem_take hx), by omega, ?_⟩
  rcases h4 with h0 | ⟨b, off, e, hb, hc⟩
  · exact .inl (by omega)
  · refine .inr ⟨b, off, e, hb, fun j hj => ?_⟩
    rw [hc j (by omega), List.getD_eq_getElem?_getD, List.getD_eq_getElem?_getD, List.getElem?_take, if_pos hj]

theorem empty_ (a : Option Addr) (len cap : Nat) (w : World) : Calls Tryz.prog 131 #[.slice a len cap] w fun e w' => e = .returned (.bool (decide (len = 0))) ∧ w = w' := by
  by_cases h : len = 0
  · subst h
    go_enter Tryz.func131, Tryz.ntmps131
    go_wp2
    go_ret
    exact ⟨rfl, rfl⟩
  · rw [decide_eq_false h]
    have h2 : ((len : Int) == 0) = false := by simp; omega
    go_enter Tryz.func131, Tryz.ntmps131
    go_wp2
    go_ret
    exact ⟨rfl, rfl⟩
theorem has (a : Option Addr) (len cap n : Nat) (w : World) : Calls Tryz.prog 121 #[.slice a len cap, .int .i64 (n : Int)] w fun e w' => e = .returned (.bool (decide (n ≤ len))) ∧ w = w' := by
  have h2 : decide ((n : Int) ≤ (len : Int)) = decide (n ≤ len) := by rw [decide_eq_decide]; omega
  go_enter Tryz.func121, Tryz.ntmps121
  go_wp2
  go_ret
  exact ⟨rfl, rfl⟩
theorem need_ok (f : Int) (w : World) : Calls Tryz.prog 120 #[.bool true, .int .i64 f] w fun e w' => e = .returned (.tuple #[]) ∧ w = w' := by
  go_enter Tryz.func120, Tryz.ntmps120
  go_wp2
  go_end0
  exact ⟨rfl, rfl⟩
theorem need_bad (f : Int) (w : World) : Calls Tryz.prog 120 #[.bool false, .int .i64 f] w fun e w' => e = thrown f ∧ w = w' := by
  go_enter Tryz.func120, Tryz.ntmps120
  go_wp2
  exact ⟨rfl, rfl, rfl⟩
/-- so many bytes are cut off -/
theorem cut (base : Nat) (w0 w : World) (B n : Nat) (zs : List Int) (hR : Rdr base w0 w B zs) (hn : n ≤ zs.length) :
    Calls Tryz.prog 124 #[.pointer (some ⟨B, 0, none⟩), .int .i64 (n : Int)] w fun e w' => ∃ a cap, e = .returned (.slice a n cap) ∧ Row base w0 a n (zs.take n) ∧ n ≤ cap ∧ (a = none → n = 0 ∧ cap = 0) ∧ Rdr base w0 w' B (zs.drop n) ∧ w.grownBy w' (some B) := by
  obtain ⟨a, len, cap, h1, hrow, hlc, hnn⟩ := hR
  obtain ⟨c0, f0⟩ := rd_c h1
  have hl := hrow.1
  have hlim := hrow.2.2.1
  have H1 := hidden h1
  have i1 : (n : Int) ≤ (cap : Int) := by omega
  have i2 : (n : Int) ≤ (len : Int) := by omega
  have HR := hidden hrow
  clear h1 hrow
  go_enter Tryz.func124, Tryz.ntmps124
  have HN := hidden (show Rdr base w0 (w.setCell ⟨B, 0, none⟩ (.slice (cutA a cap n) (len - n) (cap - n))) B (zs.drop n) from
    ⟨_, _, _, heap_set w B 0 _ H1.out, Par.cutA_row HR.out (by omega) hlc hnn, by omega, Par.cutA_none hnn⟩)
  have HT := hidden (row_take HR.out n (by omega))
  have HNN := hidden (show a = none → n = 0 ∧ cap = 0 from fun h => by have := hnn h; omega)
  clear hnn
  go_wp2
  all_goals go_ret
  · have e : cutA a cap n = a := by unfold cutA; rw [if_pos h]
    rw [e, show cap - n = 0 by omega] at HN
    subst h
    exact ⟨a, cap, rfl, HT.out, Nat.le_refl _, HNN.out, HN.out, gr_set _ _ _ _⟩
  · have e : cutA a cap n = a.map (fun x => x.add n) := by unfold cutA; rw [if_neg h]
    rw [e] at HN
    exact ⟨a, cap, rfl, HT.out, by omega, HNN.out, HN.out, gr_set _ _ _ _⟩
/-- the numbers that stand at a place -/
def n2 (zs : List Int) (p : Nat) : Int := zs.getD p 0 * 256 + zs.getD (p + 1) 0
def n4 (zs : List Int) (p : Nat) : Int := n2 zs p * 65536 + n2 zs (p + 2)
theorem n2_bound {zs : List Int} (h : Bytes zs) (p : Nat) : 0 ≤ n2 zs p ∧ n2 zs p < 65536 := by
  have h1 := Par.at_bound zs h p
  have h2 := Par.at_bound zs h (p + 1)
  unfold n2
  omega
theorem n4_bound {zs : List Int} (h : Bytes zs) (p : Nat) : 0 ≤ n4 zs p ∧ n4 zs p < 4294967296 := by
  have h1 := n2_bound h p
  have h2 := n2_bound h (p + 2)
  unfold n4
  omega
/-- a reader that stands at a place -/
def Rp (base : Nat) (w0 w : World) (B : Nat) (v : List Int) (p : Nat) : Prop := Rdr base w0 w B (v.drop p) ∧ p ≤ v.length ∧ Bytes v ∧ Below w0.heap.size w0 w ∧ w0.heap.size ≤ B
theorem Rp.grown {base : Nat} {w0 w w' : World} {B p : Nat} {v : List Int} (h : Rp base w0 w B v p) {q : Nat} (hq : q ≤ v.length) (hR : Rdr base w0 w' B (v.drop q)) (hg : w.grownBy w' (some B)) : Rp base w0 w' B v q :=
  ⟨hR, hq, h.2.2.1, h.2.2.2.1.grown hg h.2.2.2.1.size (fun k hk => by cases hk; exact h.2.2.2.2), h.2.2.2.2⟩
theorem getD_drop (v : List Int) (p j : Nat) : (v.drop p).getD j 0 = v.getD (p + j) 0 := by
  rw [List.getD_eq_getElem?_getD, List.getD_eq_getElem?_getD, List.getElem?_drop]
theorem getD_take (v : List Int) {n j : Nat} (h : j < n) : (v.take n).getD j 0 = v.getD j 0 := by
  rw [List.getD_eq_getElem?_getD, List.getD_eq_getElem?_getD, List.getElem?_take, if_pos h]
theorem row_cell {base : Nat} {w0 w : World} {a : Option Addr} {n : Nat} {zs : List Int} (h : Row base w0 a n zs) (hb : Below w0.heap.size w0 w) {j : Nat} (hj : j < n) : ∃ b off, a = some ⟨b, off, none⟩ ∧ w.cell? ⟨b, off + j, none⟩ = some (.int .u8 (zs.getD j 0)) := by
  obtain ⟨b, off, e, _, hc⟩ := h.2.2.2.resolve_left (by omega)
  exact ⟨b, off, e, (hb.cell (cell_lt (hc j hj))).trans (hc j hj)⟩
theorem one (base : Nat) (w0 w : World) (B p : Nat) (v : List Int) (h : Rp base w0 w B v p) (hp : p + 1 ≤ v.length) :
    Calls Tryz.prog 122 #[.pointer (some ⟨B, 0, none⟩)] w fun e w' => e = .returned (.int .u8 (v.getD p 0)) ∧ Rp base w0 w' B v (p + 1) ∧ w.grownBy w' (some B) := by
  have C := hidden (cut base w0 w B 1 _ h.1 (by rw [List.length_drop]; omega))
  have HR := hidden h
  clear h
  go_enter Tryz.func122, Tryz.ntmps122
  go_wp2_with fail
  refine Calls.mono C.out ?_
  rintro e w1 ⟨a, cap, rfl, hrow, _, _, hR, hg⟩
  rw [List.drop_drop] at hR
  have h1 := HR.out.grown hp hR hg
  obtain ⟨b, off, rfl, hc⟩ := row_cell hrow h1.2.2.2.1 (j := 0) (by omega)
  rw [getD_take _ (by omega), getD_drop, Nat.add_zero, Nat.add_zero] at hc
  have H1 := hidden h1
  have HG := hidden hg
  clear C hrow hR hg h1
  go_wp2
  go_ret
  exact ⟨rfl, H1.out, HG.out⟩
theorem two (base : Nat) (w0 w : World) (B p : Nat) (v : List Int) (h : Rp base w0 w B v p) (hp : p + 2 ≤ v.length) :
    Calls Tryz.prog 123 #[.pointer (some ⟨B, 0, none⟩)] w fun e w' => e = .returned (.int .u16 (n2 v p)) ∧ Rp base w0 w' B v (p + 2) ∧ w.grownBy w' (some B) := by
  have C := hidden (cut base w0 w B 2 _ h.1 (by rw [List.length_drop]; omega))
  have HR := hidden h
  have x1 := Par.at_bound v h.2.2.1 p
  have x2 := Par.at_bound v h.2.2.1 (p + 1)
  have HE := hidden (show n2 v p = v.getD p 0 * 256 + v.getD (p + 1) 0 from rfl)
  clear h
  go_enter Tryz.func123, Tryz.ntmps123
  go_wp2_with fail
  refine Calls.mono C.out ?_
  rintro e w1 ⟨a, cap, rfl, hrow, _, _, hR, hg⟩
  rw [List.drop_drop] at hR
  have h1 := HR.out.grown hp hR hg
  obtain ⟨b, off, rfl, c0⟩ := row_cell hrow h1.2.2.2.1 (j := 0) (by omega)
  obtain ⟨b', off', e, c1⟩ := row_cell hrow h1.2.2.2.1 (j := 1) (by omega)
  cases e
  rw [getD_take _ (by omega), getD_drop, Nat.add_zero, Nat.add_zero] at c0
  rw [getD_take _ (by omega), getD_drop] at c1
  have H1 := hidden h1
  have HG := hidden hg
  clear C hrow hR hg h1
  generalize v.getD p 0 = x at *
  generalize v.getD (p + 1) 0 = y at *
  have ho : bits .or .u16 (x * 256) y = x * 256 + y := by
    obtain ⟨X, rfl⟩ : ∃ X : Nat, x = (X : Int) := ⟨x.toNat, by omega⟩
    obtain ⟨Y, rfl⟩ : ∃ Y : Nat, y = (Y : Int) := ⟨y.toNat, by omega⟩
    rw [show (X : Int) * 256 = ((X * 256 : Nat) : Int) by omega, u16_or_nat (X * 256) Y (by omega) (by omega)]
    have := Nat.two_pow_add_eq_or_of_lt (i := 8) (b := Y) (by omega) X
    rw [Nat.mul_comm X, ← this]
    omega
  go_wp2
  go_quiet (fail)
  have H2 := hidden (show Rp base w0 (w1.drewN nq) B v (p + 2) from ⟨H1.out.1, H1.out.2.1, H1.out.2.2.1, Par.below_drewN H1.out.2.2.2.1 nq, H1.out.2.2.2.2⟩)
  have HG2 := hidden (gr_drewN HG.out nq)
  go_wp2
  go_ret
  exact ⟨by rw [HE.out]; rfl, H2.out, HG2.out⟩
theorem four (base : Nat) (w0 w : World) (B p : Nat) (v : List Int) (h : Rp base w0 w B v p) (hp : p + 4 ≤ v.length) :
    Calls Tryz.prog 129 #[.pointer (some ⟨B, 0, none⟩)] w fun e w' => e = .returned (.int .u32 (n4 v p)) ∧ Rp base w0 w' B v (p + 4) ∧ w.grownBy w' (some B) := by
  have C := hidden (two base w0 w B p v h (by omega))
  have x1 := n2_bound h.2.2.1 p
  have x2 := n2_bound h.2.2.1 (p + 2)
  have HE := hidden (show n4 v p = n2 v p * 65536 + n2 v (p + 2) from rfl)
  clear h
  generalize n2 v p = x at *
  go_enter Tryz.func129, Tryz.ntmps129
  go_wp2_with fail
  refine Calls.mono C.out ?_
  rintro e w1 ⟨rfl, h1, g1⟩
  have C2 := hidden (two base w0 w1 B (p + 2) v h1 (by omega))
  have HG := hidden g1
  clear C h1 g1
  generalize n2 v (p + 2) = y at *
  have ho : bits .or .u32 (x * 65536) y = x * 65536 + y := by
    obtain ⟨X, rfl⟩ : ∃ X : Nat, x = (X : Int) := ⟨x.toNat, by omega⟩
    obtain ⟨Y, rfl⟩ : ∃ Y : Nat, y = (Y : Int) := ⟨y.toNat, by omega⟩
    rw [show (X : Int) * 65536 = ((X * 65536 : Nat) : Int) by omega, u32_or_nat (X * 65536) Y (by omega) (by omega)]
    have := Nat.two_pow_add_eq_or_of_lt (i := 16) (b := Y) (by omega) X
    rw [Nat.mul_comm X, ← this]
    omega
  go_wp2_with fail
  refine Calls.mono C2.out ?_
  rintro e w2 ⟨rfl, h2, g2⟩
  have H2 := hidden h2
  have HG2 := hidden (gr_trans HG.out g2)
  clear C2 h2 g2
  go_wp2
  go_ret
  exact ⟨by rw [HE.out]; rfl, H2.out, HG2.out⟩
theorem skip (base : Nat) (w0 w : World) (B p n : Nat) (v : List Int) (h : Rp base w0 w B v p) (hn : n ≤ 140737488355328) :
    Calls Tryz.prog 126 #[.pointer (some ⟨B, 0, none⟩), .int .i64 (n : Int)] w fun e w' => e = .returned (.tuple #[]) ∧ Rp base w0 w' B v (p + min n (v.length - p)) ∧ w.grownBy w' (some B) := by
  have HR := hidden h
  obtain ⟨⟨a, len, cap, h1, hrow, hlc, hnn⟩, hpl, _, _, _⟩ := h
  obtain ⟨c0, f0⟩ := rd_c h1
  have hl := hrow.1
  rw [List.length_drop] at hl
  have hlim := hrow.2.2.1
  clear h1 hrow hnn
  by_cases hlt : len < n
  · have C := hidden (cut base w0 w B len _ HR.out.1 (by rw [List.length_drop]; omega))
    have HM := hidden (show p + min n (v.length - p) = p + len by omega)
    have HML := hidden (show p + len ≤ v.length by omega)
    clear hl
    go_enter Tryz.func126, Tryz.ntmps126
    go_wp2_with fail
    refine Calls.mono C.out ?_
    rintro e w1 ⟨a', cap', rfl, _, _, _, hR, hg⟩
    rw [List.drop_drop] at hR
    have H1 := hidden (HR.out.grown HML.out hR hg)
    have HG := hidden hg
    clear hR hg C
    go_wp2
    go_end0
    exact ⟨rfl, by rw [HM.out]; exact H1.out, HG.out⟩
  · have C := hidden (cut base w0 w B n _ HR.out.1 (by rw [List.length_drop]; omega))
    have HM := hidden (show p + min n (v.length - p) = p + n by omega)
    have HML := hidden (show p + n ≤ v.length by omega)
    clear hl
    go_enter Tryz.func126, Tryz.ntmps126
    go_wp2_with fail
    refine Calls.mono C.out ?_
    rintro e w1 ⟨a', cap', rfl, _, _, _, hR, hg⟩
    rw [List.drop_drop] at hR
    have H1 := hidden (HR.out.grown HML.out hR hg)
    have HG := hidden hg
    clear hR hg C
    go_wp2
    go_end0
    exact ⟨rfl, by rw [HM.out]; exact H1.out, HG.out⟩
end Go.Proofs.YtmnndkhdekpecaaGreatDoor.Chu
namespace Go.Proofs.YtmnndkhdekpecaaGreatDoor.Chu
open Go.ChangeShapes Go.WideShapes Go.ChangeAt Go.RowKit
open Par (hidden Bytes Row Prm Prms cell_lt Cap cells_new cutA thrown form_of)
set_option linter.unusedVariables false

theorem infoG : (Tryz.prog.info? 106).map (fun i => (i.zero, i.size, i.bytes)) = some (some (.agg #[.int .u16 0, .int .u16 0]), 2, 4) := by kernel_rfl
theorem info32 : (Tryz.prog.info? 23).map (fun i => (i.zero, i.size, i.bytes)) = some (some (.int .u32 0), 1, 4) := by kernel_rfl
/-- gaps and numbers that stand at a place -/
def gapsAt (v : List Int) (p n : Nat) : List (Int × Int) := (List.range n).map fun i => (n2 v (p + 4 * i), n2 v (p + 4 * i + 2))
def foursAt (v : List Int) (p n : Nat) : List Int := (List.range n).map fun i => n4 v (p + 4 * i)
theorem gapsAt_succ (v : List Int) (p n : Nat) : gapsAt v p (n + 1) = gapsAt v p n ++ [(n2 v (p + 4 * n), n2 v (p + 4 * n + 2))] := by unfold gapsAt; rw [List.range_succ, List.map_append]; rfl
theorem foursAt_succ (v : List Int) (p n : Nat) : foursAt v p (n + 1) = foursAt v p n ++ [n4 v (p + 4 * n)] := by unfold foursAt; rw [List.range_succ, List.map_append]; rfl
theorem gapsAt_len (v : List Int) (p n : Nat) : (gapsAt v p n).length = n := by unfold gapsAt; simp
theorem foursAt_len (v : List Int) (p n : Nat) : (foursAt v p n).length = n := by unfold foursAt; simp
theorem gcs_append (xs ys : List (Int × Int)) : gcs (xs ++ ys) = gcs xs ++ gcs ys := by unfold gcs; rw [List.flatMap_append]
theorem dcs_append (xs ys : List Int) : dcs (xs ++ ys) = dcs xs ++ dcs ys := by unfold dcs; rw [List.map_append]
theorem gr_own {w w1 w2 : World} {B : Nat} {row : Option Nat} (h : w.grownBy w1 (some B)) (h2 : w1.grownBy w2 row) (hr : ∀ k, row = some k → w.heap.size ≤ k) : w.grownBy w2 (some B) := by
  obtain ⟨a1, a2, a3, a4, a5⟩ := h
  obtain ⟨b1, b2, b3, b4, b5⟩ := h2
  exact ⟨b1.trans a1, b2.trans a2, b3.trans a3, Nat.le_trans a4 b4, fun k hk hne => (b5 k (Nat.lt_of_lt_of_le hk a4) (fun e => absurd (hr k e.symm) (Nat.not_le.2 hk))).trans (a5 k hk hne)⟩
theorem Rp.own {base : Nat} {w0 w w1 w2 : World} {B p : Nat} {v : List Int} {row : Option Nat} (h : Rp base w0 w1 B v p) (hB : B < w.heap.size) (hw : w0.heap.size ≤ w.heap.size) (h2 : w1.grownBy w2 row) (hr : ∀ k, row = some k → w.heap.size ≤ k) : Rp base w0 w2 B v p := by
  refine ⟨h.1.same ?_, h.2.1, h.2.2.1, h.2.2.2.1.grown h2 h.2.2.2.1.size (fun k hk => Nat.le_trans hw (hr k hk)), h.2.2.2.2⟩
  obtain ⟨b1, b2, b3, b4, b5⟩ := h2
  exact b5 B h.1.lt (fun e => absurd (hr B e.symm) (Nat.not_le.2 hB))
theorem own_keep {w w1 : World} {base e s n B : Nat} {v : Value} {xs : List Value} (h : w.ownsRow base e s v n xs) (hB : B < base) (hg : w.grownBy w1 (some B)) : w1.ownsRow base e s v n xs := by
  refine h.kept hg ?_
  rcases hv : v.ownBlock with _ | k
  · exact .inl rfl
  · refine .inr (fun e => ?_)
    cases e
    exact absurd (h.lt _ hv).1 (Nat.not_le.2 hB)
theorem Rp.alloc {base : Nat} {w0 w : World} {B p : Nat} {v : List Int} (h : Rp base w0 w B v p) (o : Obj) : Rp base w0 (w.alloc o) B v p :=
  ⟨h.1.same (heap_alloc_old w o h.1.lt), h.2.1, h.2.2.1, h.2.2.2.1.alloc h.2.2.2.1.size o, h.2.2.2.2⟩
set_option maxRecDepth 20000 in
theorem gaps (base : Nat) (w0 w : World) (B p n : Nat) (v : List Int) (h : Rp base w0 w B v p) (hn : n ≤ 4096) (hp : p + 4 * n ≤ v.length) :
    Calls Tryz.prog 134 #[.pointer (some ⟨B, 0, none⟩), .int .i64 (n : Int)] w fun e w' => ∃ u, e = .returned u ∧ w'.ownsRow w.heap.size 106 2 u n (gcs (gapsAt v p n)) ∧ Rp base w0 w' B v (p + 4 * n) ∧ w.grownBy w' (some B) := by
  obtain ⟨i0, hi, hz0, hz1, hz2⟩ := info_parts infoG
  have HR := hidden h
  have hB := h.1.lt
  have HW := hidden h.2.2.2.1.size
  clear h
  go_enter Tryz.func134, Tryz.ntmps134
  go_wp2_with fail
  go_loopw [5, 8] (fun u i wr => ∃ k : Nat, k ≤ n ∧ i = .int .i64 k ∧ wr.ownsRow w.heap.size 106 2 u k (gcs (gapsAt v p k)) ∧ Rp base w0 wr B v (p + 4 * k) ∧ w.grownBy wr (some B)) (fun _ i _ => n - (intOf i).toNat)
  case atStart => exact ⟨0, Nat.zero_le _, rfl, World.ownsRow_nil _ _ _ _, HR.out, World.grownBy.refl _ _⟩
  case round =>
    obtain ⟨k, hk, rfl, ho, hR, hg⟩ := hrel
    rcases Nat.lt_or_ge k n with hlt | hge
    · obtain ⟨va, vc, rfl⟩ := form_of ho
      have T1 := hidden (two base w0 wr B (p + 4 * k) v hR (by omega))
      have HO := hidden ho
      have HG := hidden hg
      clear ho hR hg
      have HS := hidden (gapsAt_succ v p k)
      go_wp2_with fail
      refine Calls.mono T1.out ?_
      rintro e w1 ⟨rfl, h1, g1⟩
      have T2 := hidden (two base w0 w1 B (p + 4 * k + 2) v h1 (by omega))
      have HO1 := hidden (own_keep HO.out hB g1)
      have HG1 := hidden (gr_trans HG.out g1)
      clear T1 h1 g1 HO HG
      go_wp2_with fail
      refine Calls.mono T2.out ?_
      rintro e w2 ⟨rfl, h2, g2⟩
      have HR2 := hidden h2
      have HO2 := hidden (own_keep HO1.out hB g2)
      have HG2 := hidden (gr_trans HG1.out g2)
      have hs2 : w.heap.size ≤ w2.heap.size := by obtain ⟨_, _, _, h, _⟩ := HG2.out; exact h
      clear T2 h2 g2 HO1 HG1
      generalize n2 v (p + 4 * k) = x at *
      generalize n2 v (p + 4 * k + 2) = y at *
      go_wp2_with (at_builtin; refine wpList_append_own _ rfl _ _ 55 rfl w.heap.size 106 i0 (.agg #[.int .u16 0, .int .u16 0]) 2 4 Tryz.underlying55 hi hz0 hz1 hz2 rfl (by decide) _ _ _ rfl (HO2.out.alloc _) ⟨w2.heap.size, 0, none⟩ 1 1 [.int .u16 x, .int .u16 y] rfl rfl (cells_new w2 _ 106) ?c2 ?c3 ?c4 ?c5 ?_)
      case c2 =>
        intro u hu
        simp only [List.mem_cons, List.not_mem_nil, or_false] at hu
        rcases hu with rfl | rfl <;> rfl
      case c3 => unfold maxLen; omega
      case c4 => omega
      case c5 => simp; omega
      intro v' w3 ho3 hg3 _
      have hrw := fun k hk => (HO2.out.lt k hk).1
      have HO3 := hidden ho3
      have g3 := gr_own (gr_own HG2.out (World.grownBy_alloc w2 (.cells #[.int .u16 x, .int .u16 y] 106) none) (fun k hk => by cases hk)) hg3 hrw
      have HG3 := hidden g3
      have HR3 := hidden ((HR2.out.alloc (.cells #[.int .u16 x, .int .u16 y] 106)).own hB HW.out hg3 hrw)
      clear ho3 hg3 g3 hrw
      go_wp2
      go_roundw
      case rel => exact ⟨k + 1, by omega, by go_num, by rw [HS.out, gcs_append]; exact HO3.out, by rw [show p + 4 * (k + 1) = p + 4 * k + 2 + 2 by omega]; exact HR3.out, HG3.out⟩
      case measure => simp [intOf]; omega
    · obtain rfl : n = k := by omega
      have HO := hidden ho
      have HRR := hidden hR
      have HG := hidden hg
      clear ho hR hg
      go_wp2
      go_ret
      exact ⟨_, rfl, HO.out, HRR.out, HG.out⟩
set_option maxRecDepth 20000 in
theorem foursR (base : Nat) (w0 w : World) (B p n : Nat) (v : List Int) (h : Rp base w0 w B v p) (hn : n ≤ 4096) (hp : p + 4 * n ≤ v.length) :
    Calls Tryz.prog 135 #[.pointer (some ⟨B, 0, none⟩), .int .i64 (n : Int)] w fun e w' => ∃ u, e = .returned u ∧ w'.ownsRow w.heap.size 23 1 u n (dcs (foursAt v p n)) ∧ Rp base w0 w' B v (p + 4 * n) ∧ w.grownBy w' (some B) := by
  obtain ⟨i0, hi, hz0, hz1, hz2⟩ := info_parts info32
  have HR := hidden h
  have hB := h.1.lt
  have HW := hidden h.2.2.2.1.size
  clear h
  go_enter Tryz.func135, Tryz.ntmps135
  go_wp2_with fail
  go_loopw [5, 7] (fun u i wr => ∃ k : Nat, k ≤ n ∧ i = .int .i64 k ∧ wr.ownsRow w.heap.size 23 1 u k (dcs (foursAt v p k)) ∧ Rp base w0 wr B v (p + 4 * k) ∧ w.grownBy wr (some B)) (fun _ i _ => n - (intOf i).toNat)
  case atStart => exact ⟨0, Nat.zero_le _, rfl, World.ownsRow_nil _ _ _ _, HR.out, World.grownBy.refl _ _⟩
  case round =>
    obtain ⟨k, hk, rfl, ho, hR, hg⟩ := hrel
    rcases Nat.lt_or_ge k n with hlt | hge
    · obtain ⟨va, vc, rfl⟩ := form_of ho
      have T1 := hidden (four base w0 wr B (p + 4 * k) v hR (by omega))
      have HO := hidden ho
      have HG := hidden hg
      clear ho hR hg
      have HS := hidden (foursAt_succ v p k)
      go_wp2_with fail
      refine Calls.mono T1.out ?_
      rintro e w2 ⟨rfl, h2, g2⟩
      have HR2 := hidden h2
      have HO2 := hidden (own_keep HO.out hB g2)
      have HG2 := hidden (gr_trans HG.out g2)
      have hs2 : w.heap.size ≤ w2.heap.size := by obtain ⟨_, _, _, h, _⟩ := HG2.out; exact h
      clear T1 h2 g2 HO HG
      generalize n4 v (p + 4 * k) = x at *
      go_wp2_with (at_builtin; refine wpList_append_own _ rfl _ _ 56 rfl w.heap.size 23 i0 (.int .u32 0) 1 4 Tryz.underlying56 hi hz0 hz1 hz2 rfl (by decide) _ _ _ rfl (HO2.out.alloc _) ⟨w2.heap.size, 0, none⟩ 1 1 [.int .u32 x] rfl rfl (cells_new w2 _ 23) ?c2 ?c3 ?c4 ?c5 ?_)
      case c2 =>
        intro u hu
        simp only [List.mem_cons, List.not_mem_nil, or_false] at hu
        subst hu
        rfl
      case c3 => unfold maxLen; omega
      case c4 => omega
      case c5 => simp; omega
      intro v' w3 ho3 hg3 _
      have hrw := fun k hk => (HO2.out.lt k hk).1
      have HO3 := hidden ho3
      have g3 := gr_own (gr_own HG2.out (World.grownBy_alloc w2 (.cells #[.int .u32 x] 23) none) (fun k hk => by cases hk)) hg3 hrw
      have HG3 := hidden g3
      have HR3 := hidden ((HR2.out.alloc (.cells #[.int .u32 x] 23)).own hB HW.out hg3 hrw)
      clear ho3 hg3 g3 hrw
      go_wp2
      go_roundw
      case rel => exact ⟨k + 1, by omega, by go_num, by rw [HS.out, dcs_append]; exact HO3.out, by rw [show p + 4 * (k + 1) = p + 4 * k + 4 by omega]; exact HR3.out, HG3.out⟩
      case measure => simp [intOf]; omega
    · obtain rfl : n = k := by omega
      have HO := hidden ho
      have HRR := hidden hR
      have HG := hidden hg
      clear ho hR hg
      go_wp2
      go_ret
      exact ⟨_, rfl, HO.out, HRR.out, HG.out⟩
theorem counts3 (base : Nat) (w0 w : World) (B p : Nat) (v : List Int) (h : Rp base w0 w B v p) (hp : p + 4 ≤ v.length) :
    Calls Tryz.prog 133 #[.pointer (some ⟨B, 0, none⟩), .int .u8 3] w fun e w' => e = .returned (.tuple #[.int .i64 (n2 v p), .int .i64 0, .int .i64 (n2 v (p + 2))]) ∧ Rp base w0 w' B v (p + 4) ∧ w.grownBy w' (some B) := by
  have T1 := hidden (two base w0 w B p v h (by omega))
  have x1 := n2_bound h.2.2.1 p
  have x2 := n2_bound h.2.2.1 (p + 2)
  clear h
  go_enter Tryz.func133, Tryz.ntmps133
  go_wp2_with fail
  refine Calls.mono T1.out ?_
  rintro e w1 ⟨rfl, h1, g1⟩
  have T2 := hidden (two base w0 w1 B (p + 2) v h1 (by omega))
  have HG := hidden g1
  clear T1 h1 g1
  go_wp2_with fail
  refine Calls.mono T2.out ?_
  rintro e w2 ⟨rfl, h2, g2⟩
  have H2 := hidden h2
  have HG2 := hidden (gr_trans HG.out g2)
  clear T2 h2 g2
  go_wp2
  go_ret3
  exact ⟨rfl, H2.out, HG2.out⟩
theorem counts16 (base : Nat) (w0 w : World) (B p : Nat) (v : List Int) (h : Rp base w0 w B v p) (hp : p + 8 ≤ v.length) :
    Calls Tryz.prog 133 #[.pointer (some ⟨B, 0, none⟩), .int .u8 16] w fun e w' => e = .returned (.tuple #[.int .i64 (n2 v p), .int .i64 (n2 v (p + 2)), .int .i64 (n2 v (p + 4))]) ∧ Rp base w0 w' B v (p + 8) ∧ w.grownBy w' (some B) := by
  have T1 := hidden (two base w0 w B p v h (by omega))
  have x1 := n2_bound h.2.2.1 p
  have x2 := n2_bound h.2.2.1 (p + 2)
  have x3 := n2_bound h.2.2.1 (p + 4)
  clear h
  go_enter Tryz.func133, Tryz.ntmps133
  go_wp2_with fail
  refine Calls.mono T1.out ?_
  rintro e w1 ⟨rfl, h1, g1⟩
  have T2 := hidden (two base w0 w1 B (p + 2) v h1 (by omega))
  have HG := hidden g1
  clear T1 h1 g1
  go_wp2_with fail
  refine Calls.mono T2.out ?_
  rintro e w2 ⟨rfl, h2, g2⟩
  have T3 := hidden (two base w0 w2 B (p + 4) v h2 (by omega))
  have HG2 := hidden (gr_trans HG.out g2)
  clear T2 h2 g2
  go_wp2_with fail
  refine Calls.mono T3.out ?_
  rintro e w3 ⟨rfl, h3, g3⟩
  have SK := hidden (skip base w0 w3 B (p + 6) 2 v h3 (by omega))
  have HG3 := hidden (gr_trans HG2.out g3)
  clear T3 h3 g3
  go_wp2_with fail
  refine Calls.mono SK.out ?_
  rintro e w4 ⟨rfl, h4, g4⟩
  rw [show p + 6 + min 2 (v.length - (p + 6)) = p + 8 by omega] at h4
  have H4 := hidden h4
  have HG4 := hidden (gr_trans HG3.out g4)
  clear SK h4 g4
  go_wp2
  go_ret3
  exact ⟨rfl, H4.out, HG4.out⟩
theorem gr_below {w w' : World} (h : Below w.heap.size w w') (row : Option Nat) : w.grownBy w' row := ⟨h.os, h.tape, h.output, h.size, fun k hk _ => h.block k hk⟩
theorem Rp.later {base : Nat} {w0 w w' : World} {B p : Nat} {v : List Int} (h : Rp base w0 w B v p) (hb : Below w.heap.size w w') : Rp base w0 w' B v p :=
  ⟨h.1.same (hb.block B h.1.lt), h.2.1, h.2.2.1, h.2.2.2.1.trans (hb.mono h.2.2.2.1.size), h.2.2.2.2⟩
/-- all that is left, new -/
theorem rest (base : Nat) (w0 w : World) (B p : Nat) (v : List Int) (h : Rp base w0 w B v p) :
    Calls Tryz.prog 132 #[.pointer (some ⟨B, 0, none⟩)] w fun e w' => ∃ u, e = .returned u ∧ w'.ownsRow w.heap.size 5 1 u (v.length - p) (Par.cs (v.drop p)) ∧ Rp base w0 w' B v v.length ∧ w.grownBy w' (some B) := by
  have HR := hidden h
  obtain ⟨⟨a, len, cap, h1, hrow, hlc, hnn⟩, hpl, _, _, _⟩ := h
  obtain ⟨c0, f0⟩ := rd_c h1
  have hl := hrow.1
  rw [List.length_drop] at hl
  have C := hidden (cut base w0 w B len _ HR.out.1 (by rw [List.length_drop]; omega))
  clear h1 hrow hnn
  go_enter Tryz.func132, Tryz.ntmps132
  go_wp2_with fail
  have CUT := hidden (show ∀ x : World, (∃ m, x = w.drewN m) → Calls Tryz.prog 124 #[.pointer (some ⟨B, 0, none⟩), .int .i64 (len : Int)] x fun e w' => ∃ a' cap', e = .returned (.slice a' len cap') ∧ Row base w0 a' len (v.drop p) ∧ len ≤ cap' ∧ (a' = none → len = 0 ∧ cap' = 0) ∧ Rp base w0 w' B v v.length ∧ w.grownBy w' (some B) by
    rintro x ⟨m, rfl⟩
    refine (cut base w0 (w.drewN m) B len _ HR.out.1 (by rw [List.length_drop]; omega)).mono ?_
    rintro e w1 ⟨a', cap', rfl, hr, h2, h3, h4, h5⟩
    rw [List.take_of_length_le (by rw [List.length_drop]; omega)] at hr
    rw [List.drop_drop, show p + len = v.length by omega] at h4
    have g : w.grownBy w1 (some B) := by obtain ⟨a1, a2, a3, a4, a5⟩ := h5; exact ⟨a1, a2, a3, a4, a5⟩
    exact ⟨a', cap', rfl, hr, h2, h3, HR.out.grown (Nat.le_refl _) h4 g, g⟩)
  clear C
  go_region_with (first
    | (go_at_call 124; refine Calls.mono (CUT.out _ ⟨_, rfl⟩) ?_; rintro e w1 ⟨a', cap', rfl, hr, h2, h3, h4, h5⟩)
    | (go_at_call 137; refine Calls.mono (Par.clone base w1 a' len cap' (v.drop p) (hr.later h4.2.2.2.1) h3) ?_; rintro e w2 ⟨u, rfl, hu, b2⟩))
  have hs1 : w.heap.size ≤ w1.heap.size := by obtain ⟨_, _, _, h, _⟩ := h5; exact h
  have HU := hidden (Par.own_mono hu hs1)
  have H4 := hidden (h4.later b2)
  have HG := hidden (gr_trans h5 (gr_below b2 _))
  have HL := hidden hl
  clear hu h4 h5 b2 hl hr h2 h3
  go_wp2
  go_ret
  exact ⟨u, rfl, by rw [HL.out]; exact HU.out, H4.out, HG.out⟩
end Go.Proofs.YtmnndkhdekpecaaGreatDoor.Chu
namespace Go.Proofs.YtmnndkhdekpecaaGreatDoor.Chu
open Go.ChangeShapes Go.WideShapes Go.ChangeAt Go.RowKit
open Par (hidden Bytes Row Prm Prms cell_lt Cap cells_new cutA thrown form_of)
set_option linter.unusedVariables false

theorem prms_mono {base base' : Nat} {w : World} {pa : Option Addr} {n : Nat} {ps : List Prm} (h : Prms base w pa n ps) (hb : base' ≤ base) : Prms base' w pa n ps := by
  obtain ⟨h1, h2, h3, h4⟩ := h
  refine ⟨h1, h2, fun p hp => (h3 p hp).mono hb, h4.imp id ?_⟩
  rintro ⟨b, off, rfl, hbb, hc⟩
  exact ⟨b, off, rfl, Nat.le_trans hb hbb, hc⟩
theorem params (base : Nat) (w0 w : World) (B p : Nat) (v : List Int) (h : Rp base w0 w B v p) :
    Calls Tryz.prog 130 #[.pointer (some ⟨B, 0, none⟩)] w fun e w' =>
      (∃ pa n pcap ps q, e = .returned (.slice pa n pcap) ∧ Prms w.heap.size w' pa n ps ∧ Par.Out (v.drop p) (ps.map Par.val) q 0 ∧ Rp base w0 w' B v v.length ∧ w.grownBy w' (some B)) ∨
      (∃ l q c, e = thrown c ∧ c ≠ 0 ∧ Par.Out (v.drop p) l q c ∧ w.grownBy w' (some B)) := by
  have HR := hidden h
  obtain ⟨⟨a, len, cap, h1, hrow, hlc, hnn⟩, hpl, _, _, _⟩ := h
  obtain ⟨c0, f0⟩ := rd_c h1
  have hl := hrow.1
  rw [List.length_drop] at hl
  clear h1 hrow hnn
  have CUT := hidden (show ∀ x : World, (∃ m, x = w.drewN m) → Calls Tryz.prog 124 #[.pointer (some ⟨B, 0, none⟩), .int .i64 (len : Int)] x fun e w' => ∃ a' cap', e = .returned (.slice a' len cap') ∧ Row base w0 a' len (v.drop p) ∧ len ≤ cap' ∧ (a' = none → len = 0 ∧ cap' = 0) ∧ Rp base w0 w' B v v.length ∧ w.grownBy w' (some B) by
    rintro x ⟨m, rfl⟩
    refine (cut base w0 (w.drewN m) B len _ HR.out.1 (by rw [List.length_drop]; omega)).mono ?_
    rintro e w1 ⟨a', cap', rfl, hr, h2, h3, h4, h5⟩
    rw [List.take_of_length_le (by rw [List.length_drop]; omega)] at hr
    rw [List.drop_drop, show p + len = v.length by omega] at h4
    have g : w.grownBy w1 (some B) := by obtain ⟨a1, a2, a3, a4, a5⟩ := h5; exact ⟨a1, a2, a3, a4, a5⟩
    exact ⟨a', cap', rfl, hr, h2, h3, HR.out.grown (Nat.le_refl _) h4 g, g⟩)
  go_enter Tryz.func130, Tryz.ntmps130
  go_wp2_with fail
  go_region_with (first
    | (go_at_call 124; refine Calls.mono (CUT.out _ ⟨_, rfl⟩) ?_; rintro e w1 ⟨a', cap', rfl, hr, h2, h3, h4, h5⟩)
    | (go_at_call 136; refine Calls.mono (Par.decode w1 a' len cap' (v.drop p) ((hr.later h4.2.2.2.1).mono (Nat.zero_le _)) h2 h3) ?_; rintro e w2 ⟨pa, n, pcap, ps, q, c, rfl, hP, _, hO, b2⟩))
  have hs1 : w.heap.size ≤ w1.heap.size := by obtain ⟨_, _, _, h, _⟩ := h5; exact h
  have HP := hidden (prms_mono hP hs1)
  have HO := hidden hO
  have H4 := hidden (h4.later b2)
  have HG := hidden (gr_trans h5 (gr_below b2 _))
  clear hP hO h4 h5 b2 hl hr h2 h3
  by_cases hc : c = 0
  · subst hc
    go_wp2_with fail
    refine Calls.mono (need_ok 0 _) ?_
    rintro e w3 ⟨rfl, rfl⟩
    go_wp2
    go_ret
    exact .inl ⟨pa, n, pcap, ps, q, rfl, HP.out, HO.out, H4.out, HG.out⟩
  · have e0 := beq_f hc
    have HC := hidden hc
    clear hc
    go_wp2_with fail
    refine Calls.mono (need_bad c _) ?_
    rintro e w3 ⟨rfl, rfl⟩
    exact ⟨rfl, .inr ⟨_, _, c, rfl, HC.out, HO.out, HG.out⟩⟩
end Go.Proofs.YtmnndkhdekpecaaGreatDoor.Chu
namespace Go.Proofs.YtmnndkhdekpecaaGreatDoor.Chu
open Go.ChangeShapes Go.WideShapes Go.ChangeAt Go.RowKit
open Par (hidden Bytes Row Prm Prms cell_lt Cap cells_new cutA thrown form_of)
set_option linter.unusedVariables false

/-- but for the blocks B and C all is as it was -/
def Tch (B C : Nat) (w w' : World) : Prop := w'.os = w.os ∧ w'.tape = w.tape ∧ w'.output = w.output ∧ w.heap.size ≤ w'.heap.size ∧ ∀ k, k < w.heap.size → k ≠ B → k ≠ C → w'.heap[k]? = w.heap[k]?
theorem Tch.refl (B C : Nat) (w : World) : Tch B C w w := ⟨rfl, rfl, rfl, Nat.le_refl _, fun _ _ _ _ => rfl⟩
theorem Tch.trans {B C : Nat} {w w1 w2 : World} (h : Tch B C w w1) (h2 : Tch B C w1 w2) : Tch B C w w2 :=
  ⟨h2.1.trans h.1, h2.2.1.trans h.2.1, h2.2.2.1.trans h.2.2.1, Nat.le_trans h.2.2.2.1 h2.2.2.2.1, fun k hk hB hC => (h2.2.2.2.2 k (Nat.lt_of_lt_of_le hk h.2.2.2.1) hB hC).trans (h.2.2.2.2 k hk hB hC)⟩
theorem Tch.ofB {B C : Nat} {w w' : World} (h : w.grownBy w' (some B)) : Tch B C w w' := by
  obtain ⟨a1, a2, a3, a4, a5⟩ := h
  exact ⟨a1, a2, a3, a4, fun k hk hB _ => a5 k hk (by simpa using hB)⟩
theorem Tch.ofC {B C : Nat} {w w' : World} (h : w.grownBy w' (some C)) : Tch B C w w' := by
  obtain ⟨a1, a2, a3, a4, a5⟩ := h
  exact ⟨a1, a2, a3, a4, fun k hk _ hC => a5 k hk (by simpa using hC)⟩
theorem Tch.below {B C n : Nat} {w0 w w' : World} (hb : Below n w0 w) (hn : n ≤ w.heap.size) (hB : n ≤ B) (hC : n ≤ C) (h : Tch B C w w') : Below n w0 w' := by
  have h1 : Below n w w' := ⟨h.1, h.2.1, h.2.2.1, h.2.2.2.1, fun k hk => h.2.2.2.2 k (Nat.lt_of_lt_of_le hk hn) (by omega) (by omega)⟩
  exact hb.trans h1
theorem Tch.cell {B C : Nat} {w w' : World} (h : Tch B C w w') {b o : Nat} {u : Value} (hc : w.cell? ⟨b, o, none⟩ = some u) (hB : b ≠ B) (hC : b ≠ C) : w'.cell? ⟨b, o, none⟩ = some u := by
  have e := h.2.2.2.2 b (cell_lt hc) hB hC
  simp only [World.cell?, e] at *
  exact hc
theorem Lies.tch {B C n : Nat} {w w' : World} (hB : B < n) (hC : C < n) (h : Tch B C w w') {a : Option Addr} {xs : List Value} (hl : Lies n w a xs) : Lies n w' a xs := by
  refine hl.imp id ?_
  rintro ⟨b, off, rfl, hbb, hc⟩
  exact ⟨b, off, rfl, hbb, fun j u hj => h.cell (hc j u hj) (by omega) (by omega)⟩
theorem row_tch {B C n : Nat} {w w' : World} (hB : B < n) (hC : C < n) (h : Tch B C w w') {a : Option Addr} {len : Nat} {zs : List Int} (hr : Row n w a len zs) : Row n w' a len zs := by
  obtain ⟨h1, h2, h3, h4⟩ := hr
  refine ⟨h1, h2, h3, h4.imp id ?_⟩
  rintro ⟨b, off, rfl, hbb, hc⟩
  exact ⟨b, off, rfl, hbb, fun j hj => h.cell (hc j hj) (by omega) (by omega)⟩
theorem prms_tch {B C n : Nat} {w w' : World} (hB : B < n) (hC : C < n) (h : Tch B C w w') {a : Option Addr} {len : Nat} {ps : List Prm} (hr : Prms n w a len ps) : Prms n w' a len ps := by
  obtain ⟨h1, h2, h3, h4⟩ := hr
  refine ⟨h1, h2, fun p hp => ⟨(h3 p hp).1, row_tch hB hC h (h3 p hp).2.1, (h3 p hp).2.2⟩, h4.imp id ?_⟩
  rintro ⟨b, off, rfl, hbb, hc⟩
  exact ⟨b, off, rfl, hbb, fun j p hj => ⟨h.cell (hc j p hj).1 (by omega) (by omega), h.cell (hc j p hj).2 (by omega) (by omega)⟩⟩
theorem Gaps.tch {B C n : Nat} {w w' : World} (hB : B < n) (hC : C < n) (h : Tch B C w w') {a : Option Addr} {len : Nat} {gs : List (Int × Int)} (hr : Gaps n w a len gs) : Gaps n w' a len gs := ⟨hr.1, hr.2.1, hr.2.2.1, hr.2.2.2.tch hB hC h⟩
theorem Fours.tch {B C n : Nat} {w w' : World} (hB : B < n) (hC : C < n) (h : Tch B C w w') {a : Option Addr} {len : Nat} {ds : List Int} (hr : Fours n w a len ds) : Fours n w' a len ds := ⟨hr.1, hr.2.1, hr.2.2.1, hr.2.2.2.tch hB hC h⟩
theorem Lsts.tch {B C n : Nat} {w w' : World} (hB : B < n) (hC : C < n) (h : Tch B C w w') {c : Ck} (hl : Lsts n w c) : Lsts n w' c :=
  ⟨hl.1.tch hB hC h, hl.2.1.tch hB hC h, hl.2.2.1.tch hB hC h, row_tch hB hC h hl.2.2.2.1, hl.2.2.2.2.1, prms_tch hB hC h hl.2.2.2.2.2⟩
/-- a row of the call's own -/
theorem lies_own {w : World} {base e s n : Nat} {v : Value} {xs : List Value} (h : w.ownsRow base e s v n xs) : ∃ a cap, v = .slice a n cap ∧ Lies base w a xs ∧ n ≤ cap ∧ (a = none → n = 0 ∧ cap = 0) := by
  obtain ⟨hl, h⟩ := h
  rcases h with ⟨rfl, rfl⟩ | ⟨g, cap, cur, rfl, hg, hh, hcap, hcm, hsz, htake⟩
  · rw [Nat.zero_mul] at hl
    exact ⟨none, 0, rfl, .inl (nil_of_len hl), Nat.le_refl _, fun _ => ⟨rfl, rfl⟩⟩
  · refine ⟨_, cap, rfl, .inr ⟨g, 0, rfl, hg, fun j u hj => ?_⟩, hcap, fun h => by cases h⟩
    have hjl : j < xs.length := (List.getElem?_eq_some_iff.1 hj).1
    rw [← htake, List.getElem?_take, if_pos (by rw [← hl]; exact hjl)] at hj
    simp only [World.cell?, hh, Nat.zero_add]
    simpa using hj
theorem gapsAt_in {v : List Int} (hv : Bytes v) (p n : Nat) : ∀ g ∈ gapsAt v p n, (0 ≤ g.1 ∧ g.1 < 65536) ∧ (0 ≤ g.2 ∧ g.2 < 65536) := by
  intro g hg
  obtain ⟨i, _, rfl⟩ := List.mem_map.1 hg
  exact ⟨n2_bound hv _, n2_bound hv _⟩
theorem foursAt_in {v : List Int} (hv : Bytes v) (p n : Nat) : ∀ d ∈ foursAt v p n, 0 ≤ d ∧ d < 4294967296 := by
  intro d hd
  obtain ⟨i, _, rfl⟩ := List.mem_map.1 hd
  exact n4_bound hv _
theorem gaps_own {w : World} {base n : Nat} {u : Value} {v : List Int} {p : Nat} (hv : Bytes v) (hn : n ≤ 4096) (h : w.ownsRow base 106 2 u n (gcs (gapsAt v p n))) : ∃ a cap, u = .slice a n cap ∧ Gaps base w a n (gapsAt v p n) := by
  obtain ⟨a, cap, rfl, hl, _⟩ := lies_own h
  exact ⟨a, cap, rfl, gapsAt_len _ _ _, by omega, gapsAt_in hv p n, hl⟩
theorem fours_own {w : World} {base n : Nat} {u : Value} {v : List Int} {p : Nat} (hv : Bytes v) (hn : n ≤ 4096) (h : w.ownsRow base 23 1 u n (dcs (foursAt v p n))) : ∃ a cap, u = .slice a n cap ∧ Fours base w a n (foursAt v p n) := by
  obtain ⟨a, cap, rfl, hl, _⟩ := lies_own h
  exact ⟨a, cap, rfl, foursAt_len _ _ _, by omega, foursAt_in hv p n, hl⟩
/-- the reader at B stands at a place, the chunk at C is this; their lists lie from n on -/
def Fl (base n : Nat) (w0 w : World) (B C : Nat) (v : List Int) (p : Nat) (c : Ck) : Prop :=
  Rp base w0 w B v p ∧ Bx w C c ∧ Lsts n w c ∧ B ≠ C ∧ B < n ∧ C < n ∧ w0.heap.size ≤ C ∧ n ≤ w.heap.size
/-- the reader has read -/
theorem Fl.read {base n : Nat} {w0 w w' : World} {B C p q : Nat} {v : List Int} {c : Ck} (h : Fl base n w0 w B C v p c) (hR : Rp base w0 w' B v q) (hg : w.grownBy w' (some B)) : Fl base n w0 w' B C v q c := by
  have hs : w.heap.size ≤ w'.heap.size := by obtain ⟨_, _, _, h, _⟩ := hg; exact h
  exact ⟨hR, h.2.1.grown hg (Ne.symm h.2.2.2.1), h.2.2.1.tch h.2.2.2.2.1 h.2.2.2.2.2.1 (Tch.ofB hg), h.2.2.2.1, h.2.2.2.2.1, h.2.2.2.2.2.1, h.2.2.2.2.2.2.1, Nat.le_trans h.2.2.2.2.2.2.2 hs⟩
/-- a field of the chunk is stored -/
theorem Fl.store {base n : Nat} {w0 w : World} {B C p i : Nat} {v : List Int} {c c' : Ck} {u : Value} (h : Fl base n w0 w B C v p c) (hx : Bx (w.setCell ⟨C, i, none⟩ u) C c') (hl : Lsts n w c → Lsts n w c') : Fl base n w0 (w.setCell ⟨C, i, none⟩ u) B C v p c' := by
  obtain ⟨h1, h2, h3, h4, h5, h6, h7, h8⟩ := h
  have hg := gr_set w C i u
  have hT := Tch.ofC (B := B) hg
  refine ⟨⟨h1.1.same ?_, h1.2.1, h1.2.2.1, hT.below h1.2.2.2.1 h1.2.2.2.1.size h1.2.2.2.2 h7, h1.2.2.2.2⟩, hx, (hl h3).tch h5 h6 hT, h4, h5, h6, h7, by simpa [World.setCell] using h8⟩
  obtain ⟨a1, a2, a3, a4, a5⟩ := hg
  exact a5 B h1.1.lt (by simpa using h4)
end Go.Proofs.YtmnndkhdekpecaaGreatDoor.Chu
namespace Go.Proofs.YtmnndkhdekpecaaGreatDoor.Chu
open Go.ChangeShapes Go.WideShapes Go.ChangeAt Go.RowKit
open Par (hidden Bytes Row Prm Prms cell_lt Cap cells_new cutA thrown form_of)
set_option linter.unusedVariables false

theorem Fl.rd {base n : Nat} {w0 w : World} {B C p : Nat} {v : List Int} {c : Ck} (h : Fl base n w0 w B C v p c) : ∃ a len cap, w.cell? ⟨B, 0, none⟩ = some (.slice a len cap) ∧ len = v.length - p := by
  obtain ⟨⟨⟨a, len, cap, h1, hrow, _, _⟩, _⟩, _⟩ := h
  exact ⟨a, len, cap, (rd_c h1).1, by rw [← hrow.1, List.length_drop]⟩
theorem max3' (a b d : Int) : ∃ M : Int, (∀ (ts : Array TypeId) (t : TypeId) (w : World), (Builtin.max_ ts t #[.int .i64 a, .int .i64 b, .int .i64 d]).run Tryz.prog w = .ok (.int .i64 M) w) ∧ (M ≤ 4096 ↔ a ≤ 4096 ∧ b ≤ 4096 ∧ d ≤ 4096) := by
  obtain ⟨M, h1, h2⟩ := max3 a b d
  exact ⟨M, h1, by omega⟩
/-- how many of each -/
def cG (v : List Int) : Nat := (n2 v 8).toNat
def cN (k : Int) (v : List Int) : Nat := if k = 16 then (n2 v 10).toNat else 0
def cD (k : Int) (v : List Int) : Nat := if k = 16 then (n2 v 12).toNat else (n2 v 10).toNat
/-- what a report says -/
def repV (k : Int) (v : List Int) (x : Ch) : Ch :=
  { x with tsn := n4 v 0, win := n4 v 4, gs := gapsAt v (nb k) (cG v), ns := gapsAt v (nb k + 4 * cG v) (cN k v), ds := foursAt v (nb k + 4 * cG v + 4 * cN k v) (cD k v) }

set_option maxHeartbeats 2000000 in
set_option maxRecDepth 20000 in
theorem report3 (base n : Nat) (w0 w : World) (B C : Nat) (v : List Int) (c : Ck) (h : Fl base n w0 w B C v 0 c) (hk : c.kind = 3) (hv : 12 ≤ v.length) (hlim : v.length ≤ 140737488355328) :
    Calls Tryz.prog 128 #[.pointer (some ⟨B, 0, none⟩), .pointer (some ⟨C, 0, none⟩)] w fun e w' => Tch B C w w' ∧
      ((e = thrown 3 ∧ (∃ c', Bx w' C c') ∧ ¬ (cG v ≤ 4096 ∧ cN 3 v ≤ 4096 ∧ cD 3 v ≤ 4096)) ∨
       (e = thrown 61 ∧ (∃ c', Bx w' C c') ∧ (cG v ≤ 4096 ∧ cN 3 v ≤ 4096 ∧ cD 3 v ≤ 4096) ∧ v.length < 12 + 4 * (cG v + cN 3 v + cD 3 v)) ∨
       (e = .returned (.tuple #[]) ∧ (cG v ≤ 4096 ∧ cN 3 v ≤ 4096 ∧ cD 3 v ≤ 4096) ∧ ∃ c', Fl base n w0 w' B C v (12 + 4 * (cG v + cN 3 v + cD 3 v)) c' ∧ val c' = repV 3 v (val c))) := by
  have hby := h.1.2.2.1
  have x1 := n2_bound hby 8
  have x2 := n2_bound hby 10
  have x3 := n2_bound hby 12
  have HBY := hidden hby
  have HK := hidden hk
  have F1 := hidden (four base w0 w B 0 v h.1 (by omega))
  have HF := hidden h
  have hBC := h.2.2.2.1
  have HBC := hidden hBC
  have hCB := hidden (Ne.symm hBC)
  clear h hk hby hBC
  go_enter Tryz.func128, Tryz.ntmps128
  go_wp2_with fail
  refine Calls.mono F1.out ?_
  rintro e w1 ⟨rfl, r1, g1⟩
  have f1 := HF.out.read r1 g1
  have q2 := f1.2.1.c2
  have fr2 := f1.2.1.fr 2
  have f2 := f1.store (f1.2.1.s2 (n4 v 0)) (fun h => h)
  have T2 := hidden ((Tch.ofB (C := C) g1).trans (Tch.ofC (gr_set w1 C 2 (.int .u32 (n4 v 0)))))
  have F2 := hidden (four base w0 _ B 4 v f2.1 (by omega))
  have HF2 := hidden f2
  clear r1 g1 f1 f2 F1 HF
  go_wp2_with fail
  refine Calls.mono F2.out ?_
  rintro e w2 ⟨rfl, r2, g2⟩
  clear q2 fr2
  have f3 := HF2.out.read r2 g2
  have q7 := f3.2.1.c7
  have fr7 := f3.2.1.fr 7
  have f4 := f3.store (f3.2.1.s7 (n4 v 4)) (fun h => h)
  have T4 := hidden (T2.out.trans ((Tch.ofB (C := C) g2).trans (Tch.ofC (gr_set w2 C 7 (.int .u32 (n4 v 4))))))
  have CT := hidden (counts3 base w0 _ B 8 v f4.1 (by omega))
  have q0 := f4.2.1.c0
  simp only [HK.out] at q0
  have HF4 := hidden f4
  clear r2 g2 f3 f4 F2 HF2 T2
  simp only [Nat.reduceAdd] at CT
  go_wp2_with fail
  refine Calls.mono CT.out ?_
  rintro e w3 ⟨rfl, r3, g3⟩
  clear q7 fr7 q0
  have f5 := HF4.out.read r3 g3
  have T5 := hidden (T4.out.trans (Tch.ofB (C := C) g3))
  obtain ⟨G, hG⟩ : ∃ G : Nat, n2 v 8 = (G : Int) := ⟨(n2 v 8).toNat, by omega⟩
  obtain ⟨D, hD⟩ : ∃ D : Nat, n2 v 10 = (D : Int) := ⟨(n2 v 10).toNat, by omega⟩
  have HcN := hidden (show cN 3 v = 0 from rfl)
  have HcD := hidden (show cD 3 v = D by show (n2 v 10).toNat = D; omega)
  have HcG := hidden (show cG v = G by unfold cG; omega)
  have hGl : G < 65536 := by omega
  have hDl : D < 65536 := by omega
  obtain ⟨M, hM, hMi⟩ := max3' (G : Int) 0 (D : Int)
  have HF5 := hidden f5
  clear r3 g3 f5 CT HF4 T4 x1 x2 x3
  by_cases hm : M ≤ 4096
  rotate_left
  · have HL := hidden (show ¬ (cG v ≤ 4096 ∧ cN 3 v ≤ 4096 ∧ cD 3 v ≤ 4096) by rw [HcG.out, HcN.out, HcD.out]; intro hx; exact hm (hMi.2 (by omega)))
    have dm : decide (M ≤ 4096) = false := decide_eq_false hm
    clear hMi
    go_wp2_with fail
    refine Calls.mono (need_bad 3 _) ?_
    rintro e w4 ⟨rfl, rfl⟩
    exact ⟨rfl, T5.out, .inl ⟨rfl, ⟨_, HF5.out.2.1⟩, HL.out⟩⟩
  have hle : G ≤ 4096 ∧ 0 ≤ 4096 ∧ D ≤ 4096 := by have := hMi.1 hm; omega
  have HL := hidden (show cG v ≤ 4096 ∧ cN 3 v ≤ 4096 ∧ cD 3 v ≤ 4096 by rw [HcG.out, HcN.out, HcD.out]; exact hle)
  obtain ⟨hl1, hl2, hl3⟩ := hle
  have dm : decide (M ≤ 4096) = true := decide_eq_true hm
  clear hMi hm
  obtain ⟨a, len, cap, qr, hlen⟩ := HF5.out.rd
  have HLE := hidden hlen
  clear hlen
  have HS := hidden (has a len cap (4 * (G + D)) w3)
  rw [show ((4 * (G + D) : Nat) : Int) = 4 * ((G : Int) + (D : Int)) by omega] at HS
  go_wp2_with fail
  refine Calls.mono (need_ok 3 _) ?_
  rintro e w4 ⟨rfl, rfl⟩
  go_wp2_with fail
  refine Calls.mono HS.out ?_
  rintro e w4 ⟨rfl, rfl⟩
  by_cases hh : 4 * (G + D) ≤ len
  rotate_left
  · rw [decide_eq_false hh]
    have HH := hidden (show v.length < 12 + 4 * (cG v + cN 3 v + cD 3 v) by rw [HcG.out, HcN.out, HcD.out]; have := HLE.out; omega)
    go_wp2_with fail
    refine Calls.mono (need_bad 61 _) ?_
    rintro e w4 ⟨rfl, rfl⟩
    exact ⟨rfl, T5.out, .inr (.inl ⟨rfl, ⟨_, HF5.out.2.1⟩, HL.out, HH.out⟩)⟩
  rw [decide_eq_true hh]
  have hvl : 12 + 4 * (G + D) ≤ v.length := by have := HLE.out; omega
  clear HS qr hh dm hM
  have GA := hidden (gaps base w0 w3 B 12 G v HF5.out.1 hl1 (by omega))
  go_wp2_with fail
  refine Calls.mono (need_ok 61 _) ?_
  rintro e w4 ⟨rfl, rfl⟩
  go_wp2_with fail
  refine Calls.mono GA.out ?_
  rintro e w4 ⟨u1, rfl, o1, r4, g4⟩
  obtain ⟨a1, k1, rfl, hg1⟩ := gaps_own HBY.out hl1 o1
  have f6 := HF5.out.read r4 g4
  have hg1' := hg1.mono HF5.out.2.2.2.2.2.2.2
  have q10 := f6.2.1.c10
  have fr10 := f6.2.1.fr 10
  have f7 := f6.store (f6.2.1.s10 a1 G k1 (gapsAt v 12 G)) (fun h => ⟨hg1', h.2⟩)
  have T7 := hidden (T5.out.trans ((Tch.ofB (C := C) g4).trans (Tch.ofC (gr_set w4 C 10 (.slice a1 G k1)))))
  have GB := hidden (gaps base w0 _ B (12 + 4 * G) 0 v f7.1 hl2 (by omega))
  have HF7 := hidden f7
  clear o1 r4 g4 f6 f7 hg1 hg1' GA HF5 T5
  go_wp2_with fail
  refine Calls.mono GB.out ?_
  rintro e w5 ⟨u2, rfl, o2, r5, g5⟩
  obtain ⟨a2, k2, rfl, hg2⟩ := gaps_own HBY.out hl2 o2
  clear q10 fr10
  have f8 := HF7.out.read r5 g5
  have hg2' := hg2.mono HF7.out.2.2.2.2.2.2.2
  have q11 := f8.2.1.c11
  have fr11 := f8.2.1.fr 11
  have f9 := f8.store (f8.2.1.s11 a2 0 k2 (gapsAt v (12 + 4 * G) 0)) (fun h => ⟨h.1, hg2', h.2.2⟩)
  have T9 := hidden (T7.out.trans ((Tch.ofB (C := C) g5).trans (Tch.ofC (gr_set w5 C 11 (.slice a2 0 k2)))))
  have GC := hidden (foursR base w0 _ B (12 + 4 * G + 4 * 0) D v f9.1 hl3 (by omega))
  have HF9 := hidden f9
  clear o2 r5 g5 f8 f9 hg2 hg2' GB HF7 T7
  go_wp2_with fail
  refine Calls.mono GC.out ?_
  rintro e w6 ⟨u3, rfl, o3, r6, g6⟩
  obtain ⟨a3, k3, rfl, hg3⟩ := fours_own HBY.out hl3 o3
  clear q11 fr11
  have f10 := HF9.out.read r6 g6
  have hg3' := hg3.mono HF9.out.2.2.2.2.2.2.2
  have q12 := f10.2.1.c12
  have fr12 := f10.2.1.fr 12
  have f11 := f10.store (f10.2.1.s12 a3 D k3 (foursAt v (12 + 4 * G + 4 * 0) D)) (fun h => ⟨h.1, h.2.1, hg3', h.2.2.2⟩)
  have T11 := hidden (T9.out.trans ((Tch.ofB (C := C) g6).trans (Tch.ofC (gr_set w6 C 12 (.slice a3 D k3)))))
  have HF11 := hidden f11
  clear o3 r6 g6 f10 f11 hg3 hg3' GC HF9 T9
  go_wp2
  go_end0
  have HQ : 12 + 4 * G + 4 * 0 + 4 * D = 12 + 4 * (cG v + cN 3 v + cD 3 v) := by rw [HcG.out, HcN.out, HcD.out]; omega
  have HF12 := HF11.out
  rw [HQ] at HF12
  exact ⟨T11.out, .inr (.inr ⟨rfl, HL.out, _, HF12, by unfold repV; rw [HcG.out, HcN.out, HcD.out]; rfl⟩)⟩
set_option maxHeartbeats 2000000 in
set_option maxRecDepth 20000 in
theorem report16 (base n : Nat) (w0 w : World) (B C : Nat) (v : List Int) (c : Ck) (h : Fl base n w0 w B C v 0 c) (hk : c.kind = 16) (hv : 16 ≤ v.length) (hlim : v.length ≤ 140737488355328) :
    Calls Tryz.prog 128 #[.pointer (some ⟨B, 0, none⟩), .pointer (some ⟨C, 0, none⟩)] w fun e w' => Tch B C w w' ∧
      ((e = thrown 3 ∧ (∃ c', Bx w' C c') ∧ ¬ (cG v ≤ 4096 ∧ cN 16 v ≤ 4096 ∧ cD 16 v ≤ 4096)) ∨
       (e = thrown 61 ∧ (∃ c', Bx w' C c') ∧ (cG v ≤ 4096 ∧ cN 16 v ≤ 4096 ∧ cD 16 v ≤ 4096) ∧ v.length < 16 + 4 * (cG v + cN 16 v + cD 16 v)) ∨
       (e = .returned (.tuple #[]) ∧ (cG v ≤ 4096 ∧ cN 16 v ≤ 4096 ∧ cD 16 v ≤ 4096) ∧ ∃ c', Fl base n w0 w' B C v (16 + 4 * (cG v + cN 16 v + cD 16 v)) c' ∧ val c' = repV 16 v (val c))) := by
  have hby := h.1.2.2.1
  have x1 := n2_bound hby 8
  have x2 := n2_bound hby 10
  have x3 := n2_bound hby 12
  have HBY := hidden hby
  have HK := hidden hk
  have F1 := hidden (four base w0 w B 0 v h.1 (by omega))
  have HF := hidden h
  have hBC := h.2.2.2.1
  have HBC := hidden hBC
  have hCB := hidden (Ne.symm hBC)
  clear h hk hby hBC
  go_enter Tryz.func128, Tryz.ntmps128
  go_wp2_with fail
  refine Calls.mono F1.out ?_
  rintro e w1 ⟨rfl, r1, g1⟩
  have f1 := HF.out.read r1 g1
  have q2 := f1.2.1.c2
  have fr2 := f1.2.1.fr 2
  have f2 := f1.store (f1.2.1.s2 (n4 v 0)) (fun h => h)
  have T2 := hidden ((Tch.ofB (C := C) g1).trans (Tch.ofC (gr_set w1 C 2 (.int .u32 (n4 v 0)))))
  have F2 := hidden (four base w0 _ B 4 v f2.1 (by omega))
  have HF2 := hidden f2
  clear r1 g1 f1 f2 F1 HF
  go_wp2_with fail
  refine Calls.mono F2.out ?_
  rintro e w2 ⟨rfl, r2, g2⟩
  clear q2 fr2
  have f3 := HF2.out.read r2 g2
  have q7 := f3.2.1.c7
  have fr7 := f3.2.1.fr 7
  have f4 := f3.store (f3.2.1.s7 (n4 v 4)) (fun h => h)
  have T4 := hidden (T2.out.trans ((Tch.ofB (C := C) g2).trans (Tch.ofC (gr_set w2 C 7 (.int .u32 (n4 v 4))))))
  have CT := hidden (counts16 base w0 _ B 8 v f4.1 (by omega))
  have q0 := f4.2.1.c0
  simp only [HK.out] at q0
  have HF4 := hidden f4
  clear r2 g2 f3 f4 F2 HF2 T2
  simp only [Nat.reduceAdd] at CT
  go_wp2_with fail
  refine Calls.mono CT.out ?_
  rintro e w3 ⟨rfl, r3, g3⟩
  clear q7 fr7 q0
  have f5 := HF4.out.read r3 g3
  have T5 := hidden (T4.out.trans (Tch.ofB (C := C) g3))
  obtain ⟨G, hG⟩ : ∃ G : Nat, n2 v 8 = (G : Int) := ⟨(n2 v 8).toNat, by omega⟩
  obtain ⟨N, hN⟩ : ∃ N : Nat, n2 v 10 = (N : Int) := ⟨(n2 v 10).toNat, by omega⟩
  obtain ⟨D, hD⟩ : ∃ D : Nat, n2 v 12 = (D : Int) := ⟨(n2 v 12).toNat, by omega⟩
  have HcN := hidden (show cN 16 v = N by show (n2 v 10).toNat = N; omega)
  have HcD := hidden (show cD 16 v = D by show (n2 v 12).toNat = D; omega)
  have hNl : N < 65536 := by omega
  have HcG := hidden (show cG v = G by unfold cG; omega)
  have hGl : G < 65536 := by omega
  have hDl : D < 65536 := by omega
  obtain ⟨M, hM, hMi⟩ := max3' (G : Int) (N : Int) (D : Int)
  have HF5 := hidden f5
  clear r3 g3 f5 CT HF4 T4 x1 x2 x3
  by_cases hm : M ≤ 4096
  rotate_left
  · have HL := hidden (show ¬ (cG v ≤ 4096 ∧ cN 16 v ≤ 4096 ∧ cD 16 v ≤ 4096) by rw [HcG.out, HcN.out, HcD.out]; intro hx; exact hm (hMi.2 (by omega)))
    have dm : decide (M ≤ 4096) = false := decide_eq_false hm
    clear hMi
    go_wp2_with fail
    refine Calls.mono (need_bad 3 _) ?_
    rintro e w4 ⟨rfl, rfl⟩
    exact ⟨rfl, T5.out, .inl ⟨rfl, ⟨_, HF5.out.2.1⟩, HL.out⟩⟩
  have hle : G ≤ 4096 ∧ N ≤ 4096 ∧ D ≤ 4096 := by have := hMi.1 hm; omega
  have HL := hidden (show cG v ≤ 4096 ∧ cN 16 v ≤ 4096 ∧ cD 16 v ≤ 4096 by rw [HcG.out, HcN.out, HcD.out]; exact hle)
  obtain ⟨hl1, hl2, hl3⟩ := hle
  have dm : decide (M ≤ 4096) = true := decide_eq_true hm
  clear hMi hm
  obtain ⟨a, len, cap, qr, hlen⟩ := HF5.out.rd
  have HLE := hidden hlen
  clear hlen
  have HS := hidden (has a len cap (4 * (G + N + D)) w3)
  rw [show ((4 * (G + N + D) : Nat) : Int) = 4 * ((G : Int) + (N : Int) + (D : Int)) by omega] at HS
  go_wp2_with fail
  refine Calls.mono (need_ok 3 _) ?_
  rintro e w4 ⟨rfl, rfl⟩
  go_wp2_with fail
  refine Calls.mono HS.out ?_
  rintro e w4 ⟨rfl, rfl⟩
  by_cases hh : 4 * (G + N + D) ≤ len
  rotate_left
  · rw [decide_eq_false hh]
    have HH := hidden (show v.length < 16 + 4 * (cG v + cN 16 v + cD 16 v) by rw [HcG.out, HcN.out, HcD.out]; have := HLE.out; omega)
    go_wp2_with fail
    refine Calls.mono (need_bad 61 _) ?_
    rintro e w4 ⟨rfl, rfl⟩
    exact ⟨rfl, T5.out, .inr (.inl ⟨rfl, ⟨_, HF5.out.2.1⟩, HL.out, HH.out⟩)⟩
  rw [decide_eq_true hh]
  have hvl : 16 + 4 * (G + N + D) ≤ v.length := by have := HLE.out; omega
  clear HS qr hh dm hM
  have GA := hidden (gaps base w0 w3 B 16 G v HF5.out.1 hl1 (by omega))
  go_wp2_with fail
  refine Calls.mono (need_ok 61 _) ?_
  rintro e w4 ⟨rfl, rfl⟩
  go_wp2_with fail
  refine Calls.mono GA.out ?_
  rintro e w4 ⟨u1, rfl, o1, r4, g4⟩
  obtain ⟨a1, k1, rfl, hg1⟩ := gaps_own HBY.out hl1 o1
  have f6 := HF5.out.read r4 g4
  have hg1' := hg1.mono HF5.out.2.2.2.2.2.2.2
  have q10 := f6.2.1.c10
  have fr10 := f6.2.1.fr 10
  have f7 := f6.store (f6.2.1.s10 a1 G k1 (gapsAt v 16 G)) (fun h => ⟨hg1', h.2⟩)
  have T7 := hidden (T5.out.trans ((Tch.ofB (C := C) g4).trans (Tch.ofC (gr_set w4 C 10 (.slice a1 G k1)))))
  have GB := hidden (gaps base w0 _ B (16 + 4 * G) N v f7.1 hl2 (by omega))
  have HF7 := hidden f7
  clear o1 r4 g4 f6 f7 hg1 hg1' GA HF5 T5
  go_wp2_with fail
  refine Calls.mono GB.out ?_
  rintro e w5 ⟨u2, rfl, o2, r5, g5⟩
  obtain ⟨a2, k2, rfl, hg2⟩ := gaps_own HBY.out hl2 o2
  clear q10 fr10
  have f8 := HF7.out.read r5 g5
  have hg2' := hg2.mono HF7.out.2.2.2.2.2.2.2
  have q11 := f8.2.1.c11
  have fr11 := f8.2.1.fr 11
  have f9 := f8.store (f8.2.1.s11 a2 N k2 (gapsAt v (16 + 4 * G) N)) (fun h => ⟨h.1, hg2', h.2.2⟩)
  have T9 := hidden (T7.out.trans ((Tch.ofB (C := C) g5).trans (Tch.ofC (gr_set w5 C 11 (.slice a2 N k2)))))
  have GC := hidden (foursR base w0 _ B (16 + 4 * G + 4 * N) D v f9.1 hl3 (by omega))
  have HF9 := hidden f9
  clear o2 r5 g5 f8 f9 hg2 hg2' GB HF7 T7
  go_wp2_with fail
  refine Calls.mono GC.out ?_
  rintro e w6 ⟨u3, rfl, o3, r6, g6⟩
  obtain ⟨a3, k3, rfl, hg3⟩ := fours_own HBY.out hl3 o3
  clear q11 fr11
  have f10 := HF9.out.read r6 g6
  have hg3' := hg3.mono HF9.out.2.2.2.2.2.2.2
  have q12 := f10.2.1.c12
  have fr12 := f10.2.1.fr 12
  have f11 := f10.store (f10.2.1.s12 a3 D k3 (foursAt v (16 + 4 * G + 4 * N) D)) (fun h => ⟨h.1, h.2.1, hg3', h.2.2.2⟩)
  have T11 := hidden (T9.out.trans ((Tch.ofB (C := C) g6).trans (Tch.ofC (gr_set w6 C 12 (.slice a3 D k3)))))
  have HF11 := hidden f11
  clear o3 r6 g6 f10 f11 hg3 hg3' GC HF9 T9
  go_wp2
  go_end0
  have HQ : 16 + 4 * G + 4 * N + 4 * D = 16 + 4 * (cG v + cN 16 v + cD 16 v) := by rw [HcG.out, HcN.out, HcD.out]; omega
  have HF12 := HF11.out
  rw [HQ] at HF12
  exact ⟨T11.out, .inr (.inr ⟨rfl, HL.out, _, HF12, by unfold repV; rw [HcG.out, HcN.out, HcD.out]; rfl⟩)⟩
end Go.Proofs.YtmnndkhdekpecaaGreatDoor.Chu
namespace Go.Proofs.YtmnndkhdekpecaaGreatDoor.Chu
open Go.ChangeShapes Go.WideShapes Go.ChangeAt Go.RowKit
open Par (hidden Bytes Row Prm Prms cell_lt Cap cells_new cutA thrown form_of)
set_option linter.unusedVariables false

/-- the counts are not too high -/
def CntOk (k : Int) (v : List Int) : Prop := cG v ≤ 4096 ∧ cN k v ≤ 4096 ∧ cD k v ≤ 4096
/-- what a value is: the error, or (error 0) the chunk y; x is the chunk with its kind and flags alone -/
def Fil (k : Int) (v : List Int) (x : Ch) (e : Int) (y : Ch) : Prop :=
  if v.length < nb k then e = 61
  else if k = 3 ∨ k = 16 then (¬ CntOk k v ∧ e = 3) ∨ (CntOk k v ∧ v.length ≠ nb k + 4 * (cG v + cN k v + cD k v) ∧ e = 61) ∨ (CntOk k v ∧ v.length = nb k + 4 * (cG v + cN k v + cD k v) ∧ e = 0 ∧ y = repV k v x)
  else if k = 7 then (v.length ≠ 4 ∧ e = 61) ∨ (v.length = 4 ∧ e = 0 ∧ y = { x with tsn := n4 v 0 })
  else if k = 8 ∨ k = 11 ∨ k = 14 then (v.length ≠ 0 ∧ e = 61) ∨ (v.length = 0 ∧ e = 0 ∧ y = x)
  else if k = 1 ∨ k = 2 then ∃ l q c, Par.Out (v.drop 16) l q c ∧ ((c ≠ 0 ∧ e = c) ∨ (c = 0 ∧ e = 0 ∧ y = { x with tag := n4 v 0, win := n4 v 4, out := n2 v 8, inn := n2 v 10, tsn := n4 v 12, ps := l }))
  else if k = 4 ∨ k = 5 then ∃ l q c, Par.Out v l q c ∧ ((c ≠ 0 ∧ e = c) ∨ (c = 0 ∧ ¬ OneBeat l ∧ e = 61) ∨ (c = 0 ∧ OneBeat l ∧ e = 0 ∧ y = { x with ps := l }))
  else if k = 6 ∨ k = 9 then ∃ l q c, Par.Out v l q c ∧ ((c ≠ 0 ∧ e = c) ∨ (c = 0 ∧ e = 0 ∧ y = { x with ps := l }))
  else if k = 0 then (v.length = 12 ∧ e = 62) ∨ (v.length ≠ 12 ∧ e = 0 ∧ y = { x with tsn := n4 v 0, stream := n2 v 4, ssn := n2 v 6, proto := n4 v 8, bs := v.drop 12 })
  else e = 0 ∧ y = { x with bs := v }
theorem Fl.drewN {base n : Nat} {w0 w : World} {B C p : Nat} {v : List Int} {c : Ck} (h : Fl base n w0 w B C v p c) (m : Nat) : Fl base n w0 (w.drewN m) B C v p c :=
  ⟨⟨h.1.1, h.1.2.1, h.1.2.2.1, Par.below_drewN h.1.2.2.2.1 m, h.1.2.2.2.2⟩, h.2.1, h.2.2.1, h.2.2.2⟩
theorem tch_drewN (B C : Nat) (w : World) (m : Nat) : Tch B C w (w.drewN m) := ⟨rfl, rfl, rfl, Nat.le_refl _, fun _ _ _ _ => rfl⟩
theorem tch_drew (B C : Nat) (w : World) : Tch B C w w.drew := ⟨rfl, rfl, rfl, Nat.le_refl _, fun _ _ _ _ => rfl⟩
/-- what fill leaves -/
def Filled (base n : Nat) (w0 w : World) (B C : Nat) (v : List Int) (c : Ck) (e : Ending) (w' : World) : Prop :=
  Tch B C w w' ∧ ∃ er y, Fil c.kind v (val c) er y ∧ ((er ≠ 0 ∧ e = thrown er ∧ ∃ c', Bx w' C c') ∨ (er = 0 ∧ e = .returned (.tuple #[]) ∧ ∃ c' p, Fl base n w0 w' B C v p c' ∧ val c' = y))
theorem filled_bad {base n : Nat} {w0 w w' : World} {B C : Nat} {v : List Int} {c : Ck} {er : Int} (hT : Tch B C w w') (hx : ∃ c', Bx w' C c') (h : ∀ y, Fil c.kind v (val c) er y) (he : er ≠ 0) : Filled base n w0 w B C v c (thrown er) w' := ⟨hT, er, val c, h _, .inl ⟨he, rfl, hx⟩⟩
theorem filled_ok {base n : Nat} {w0 w w' : World} {B C p : Nat} {v : List Int} {c c' : Ck} (hT : Tch B C w w') (h : Fil c.kind v (val c) 0 (val c')) (hF : Fl base n w0 w' B C v p c') : Filled base n w0 w B C v c (.returned (.tuple #[])) w' := ⟨hT, 0, _, h, .inr ⟨rfl, rfl, c', p, hF, rfl⟩⟩

section
variable {a : Act} {o : Oper} {w : World}
theorem e_nb {u : Value} (x : Operand) (hu : a.eval x = u) (ho : o.op = .call { callee := .value (.func 97), args := #[x], argTypes := #[33] }) : (execOp a.eval o).run Tryz.prog w = .ok (.enter 97 #[u]) w := by
  unfold execOp
  rw [ho]
  go_simp
  cases x <;> simpa [Act.eval] using hu
theorem e_has {u v : Value} (x y : Operand) (hu : a.eval x = u) (hv : a.eval y = v) (ho : o.op = .call { callee := .value (.func 121), args := #[x, y], argTypes := #[142, 3] }) : (execOp a.eval o).run Tryz.prog w = .ok (.enter 121 #[u, v]) w := by
  unfold execOp
  rw [ho]
  go_simp
  exact ⟨by cases x <;> simpa [Act.eval] using hu, by cases y <;> simpa [Act.eval] using hv⟩
theorem e_need {u v : Value} (x y : Operand) (hu : a.eval x = u) (hv : a.eval y = v) (ho : o.op = .call { callee := .value (.func 120), args := #[x, y], argTypes := #[4, 28] }) : (execOp a.eval o).run Tryz.prog w = .ok (.enter 120 #[u, v]) w := by
  unfold execOp
  rw [ho]
  go_simp
  exact ⟨by cases x <;> simpa [Act.eval] using hu, by cases y <;> simpa [Act.eval] using hv⟩
theorem e_nil {B : Nat} (x : Operand) (hu : a.eval x = .pointer (some ⟨B, 0, none⟩)) (ho : o.op = .nilCheck x) : (execOp a.eval o).run Tryz.prog w = .ok (.value (.pointer (some ⟨B, 0, none⟩))) w := by
  unfold execOp
  rw [ho]
  simp only [hu]
  rfl
theorem e_fa {B S i j : Nat} (x : Operand) (hu : a.eval x = .pointer (some ⟨B, 0, none⟩)) (ho : o.op = .fieldAddr S x i) (hf : (Instr.fieldAt S (.pointer (some ⟨B, 0, none⟩)) i).run Tryz.prog w = .ok (.pointer (some ⟨B, j, none⟩)) w) : (execOp a.eval o).run Tryz.prog w = .ok (.value (.pointer (some ⟨B, j, none⟩))) w := by
  unfold execOp
  rw [ho]
  simp only [hu]
  exact Ord.run_v hf
theorem e_ld {t : TypeId} {p : Addr} {v : Value} (x : Operand) (hu : a.eval x = .pointer (some p)) (ho : o.op = .load t x) (hf : (Instr.loadAt t (.pointer (some p))).run Tryz.prog w = .ok v w) : (execOp a.eval o).run Tryz.prog w = .ok (.value v) w := by
  unfold execOp
  rw [ho]
  simp only [hu]
  exact Ord.run_v hf
end
theorem faR (w : World) (B : Nat) : (Instr.fieldAt 144 (.pointer (some ⟨B, 0, none⟩)) 0).run Tryz.prog w = .ok (.pointer (some ⟨B, 0, none⟩)) w := by simp [go_sem]
theorem ldL (w : World) (p : Addr) (a : Option Addr) (l k : Nat) (h : w.cell? p = some (.slice a l k)) : (Instr.loadAt 142 (.pointer (some p))).run Tryz.prog w = .ok (.slice a l k) w := by simp [go_sem, h]
/-- what the first statement of fill leaves, if the value is too short: nothing -/
def EsF (B C : Nat) (a : Option Addr) (len cap : Nat) (k : Int) : List (Value → World → Prop) :=
  [fun v _ => v = .pointer (some ⟨B, 0, none⟩), fun v _ => v = .pointer (some ⟨B, 0, none⟩), fun v _ => v = .pointer (some ⟨B, 0, none⟩), fun v _ => v = .slice a len cap,
   fun v _ => v = .pointer (some ⟨C, 0, none⟩), fun v _ => v = .pointer (some ⟨C, 0, none⟩), fun v _ => v = .pointer (some ⟨C, 0, none⟩), fun v _ => v = .int .u8 k, fun v _ => v = .int .i64 (nb k : Nat), fun v _ => v = .bool false, fun _ _ => False]
theorem staysF (B C : Nat) (a : Option Addr) (len cap : Nat) (k : Int) : ∀ j, Ord.Stays (Ord.fact (EsF B C a len cap k) j)
  | 0 => Ord.stays_eq _
  | 1 => Ord.stays_eq _
  | 2 => Ord.stays_eq _
  | 3 => Ord.stays_eq _
  | 4 => Ord.stays_eq _
  | 5 => Ord.stays_eq _
  | 6 => Ord.stays_eq _
  | 7 => Ord.stays_eq _
  | 8 => Ord.stays_eq _
  | 9 => Ord.stays_eq _
  | 10 => fun _ _ _ _ h => h
  | _ + 11 => fun _ _ _ _ h => h
set_option maxRecDepth 20000 in
theorem fill_short (base n : Nat) (w0 w : World) (B C : Nat) (v : List Int) (c : Ck) (h : Fl base n w0 w B C v 0 c) (hv : v.length < nb c.kind) :
    Calls Tryz.prog 125 #[.pointer (some ⟨B, 0, none⟩), .pointer (some ⟨C, 0, none⟩)] w fun e w' => Filled base n w0 w B C v c e w' := by
  obtain ⟨a, len, cap, qr, hlen⟩ := h.rd
  have QR := hidden qr
  have Q0 := hidden h.2.1.c0
  have HX := hidden h.2.1
  have HE := hidden (show ∀ y, Fil c.kind v (val c) 61 y from fun y => by unfold Fil; rw [if_pos hv])
  have HH := hidden (has a len cap (nb c.kind))
  rw [show decide (nb c.kind ≤ len) = false from decide_eq_false (by omega)] at HH
  clear h hlen qr
  go_enter Tryz.func125, Tryz.ntmps125
  go_wp2_with fail
  refine Ord.wp_region_slots (by kernel_rfl) 148 [(0, .pointer (some ⟨B, 0, none⟩)), (1, .pointer (some ⟨C, 0, none⟩))] [4, 5, 6, 7, 8, 9, 10, 11, 12, 13, 14] (EsF B C a len cap c.kind) w.drew (by kernel_rfl) (by kernel_rfl) (by kernel_rfl) rfl (staysF _ _ _ _ _ _) ?_ ?_ ?_
  case refine_3 => exact ⟨rfl, rfl, (fun p hp => by simp only [List.mem_cons, List.not_mem_nil, or_false] at hp; rcases hp with rfl | rfl <;> rfl), Below.refl _ _⟩
  case refine_2 =>
    intro a w' hG hF
    exact (hF 10 (by decide)).elim
  case refine_1 =>
    intro i o a' w' ho hG hdep
    obtain ⟨g1, g2, g3, g4⟩ := hG
    have qr : w'.cell? ⟨B, 0, none⟩ = some (.slice a len cap) := Par.keep_cell (w := w.drew) g4 QR.out
    have q0 : w'.cell? ⟨C, 0, none⟩ = some (.int .u8 c.kind) := Par.keep_cell (w := w.drew) g4 Q0.out
    match i, ho with
    | 0, ho =>
      cases ho
      exact Ord.by_value rfl rfl (v := a'.eval (.tmp 0)) rfl (Below.refl _ _) (g3 (0, _) (by simp))
    | 1, ho =>
      cases ho
      have da : a'.eval (.tmp 4) = .pointer (some ⟨B, 0, none⟩) := hdep ⟨0, .data⟩ (by simp) rfl
      exact Ord.by_value rfl rfl (e_nil _ da rfl) (Below.refl _ _) rfl
    | 2, ho =>
      cases ho
      have da : a'.eval (.tmp 5) = .pointer (some ⟨B, 0, none⟩) := hdep ⟨1, .data⟩ (by simp) rfl
      exact Ord.by_value rfl rfl (e_fa _ da rfl (faR _ _)) (Below.refl _ _) rfl
    | 3, ho =>
      cases ho
      have da : a'.eval (.tmp 6) = .pointer (some ⟨B, 0, none⟩) := hdep ⟨2, .data⟩ (by simp) rfl
      exact Ord.by_value rfl rfl (e_ld _ da rfl (ldL _ _ _ _ _ qr)) (Below.refl _ _) rfl
    | 4, ho =>
      cases ho
      exact Ord.by_value rfl rfl (v := a'.eval (.tmp 1)) rfl (Below.refl _ _) (g3 (1, _) (by simp))
    | 5, ho =>
      cases ho
      have da : a'.eval (.tmp 8) = .pointer (some ⟨C, 0, none⟩) := hdep ⟨4, .data⟩ (by simp) rfl
      exact Ord.by_value rfl rfl (e_nil _ da rfl) (Below.refl _ _) rfl
    | 6, ho =>
      cases ho
      have da : a'.eval (.tmp 9) = .pointer (some ⟨C, 0, none⟩) := hdep ⟨5, .data⟩ (by simp) rfl
      exact Ord.by_value rfl rfl (e_fa _ da rfl (fa0 _ _)) (Below.refl _ _) rfl
    | 7, ho =>
      cases ho
      have da : a'.eval (.tmp 10) = .pointer (some ⟨C, 0, none⟩) := hdep ⟨6, .data⟩ (by simp) rfl
      exact Ord.by_value rfl rfl (e_ld _ da rfl (ldK _ _ _ q0)) (Below.refl _ _) rfl
    | 8, ho =>
      cases ho
      have da : a'.eval (.tmp 11) = .int .u8 c.kind := hdep ⟨7, .data⟩ (by simp) rfl
      refine Ord.by_call rfl rfl (e_nb _ da rfl) (Calls.mono (numberBytes c.kind w') ?_)
      rintro e w3 ⟨rfl, rfl⟩
      exact ⟨_, rfl, Below.refl _ _, rfl⟩
    | 9, ho =>
      cases ho
      have da : a'.eval (.tmp 7) = .slice a len cap := hdep ⟨3, .data⟩ (by simp) rfl
      have db : a'.eval (.tmp 12) = .int .i64 (nb c.kind : Nat) := hdep ⟨8, .data⟩ (by simp) rfl
      refine Ord.by_call rfl rfl (e_has _ _ da db rfl) (Calls.mono (HH.out w') ?_)
      rintro e w3 ⟨rfl, rfl⟩
      exact ⟨_, rfl, Below.refl _ _, rfl⟩
    | 10, ho =>
      cases ho
      have da : a'.eval (.tmp 13) = .bool false := hdep ⟨9, .data⟩ (by simp) rfl
      refine Ord.wpOp_of rfl rfl ?_
      unfold Oper.wp
      rw [e_need (.tmp 13) (.const (.int .i64 61)) da rfl rfl]
      refine Calls.mono (need_bad 61 _) ?_
      rintro e w3 ⟨rfl, rfl⟩
      exact ⟨g2, filled_bad ⟨g4.os, g4.tape, g4.output, g4.size, fun k hk _ _ => g4.block k hk⟩ ⟨c, (show Bx w.drew C c from HX.out).later g4⟩ HE.out (by decide)⟩
end Go.Proofs.YtmnndkhdekpecaaGreatDoor.Chu
