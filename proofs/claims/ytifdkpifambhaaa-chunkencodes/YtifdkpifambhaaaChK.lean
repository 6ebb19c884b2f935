/-
  The reader of package chunk: its smallest functions.
  Conditions: the numbers lie within their kinds, the cells hold them; the bytes lie in the memory of an older world, which the reader does not touch.
-/
import Derived.Test.YtifdkpifambhaaaChJ
import Derived.Test.YtifdkpifambhaaaParL
namespace Go.Proofs.Ytifdkpifambhaaa.Chu
open Go.ChangeShapes Go.WideShapes Go.ChangeAt Go.RowKit
open Par (hidden Bytes Row Prm Prms cell_lt Cap cells_new cutA thrown)
set_option linter.unusedVariables false

/-- block B is a reader of these bytes, which lie in the older world w0 -/
def Rdr (base : Nat) (w0 w : World) (B : Nat) (zs : List Int) : Prop :=
  ∃ a len cap, w.heap[B]? = some (.cells #[.slice a len cap] 61 (0, 0)) ∧ Row base w0 a len zs ∧ len ≤ cap ∧ (a = none → len = 0 ∧ cap = 0)
theorem Rdr.lt {base : Nat} {w0 w : World} {B : Nat} {zs : List Int} (h : Rdr base w0 w B zs) : B < w.heap.size := by
  obtain ⟨a, len, cap, h1, _⟩ := h
  exact (Array.getElem?_eq_some_iff.1 h1).1
theorem Rdr.same {base : Nat} {w0 w w' : World} {B : Nat} {zs : List Int} (h : Rdr base w0 w B zs) (e : w'.heap[B]? = w.heap[B]?) : Rdr base w0 w' B zs := by
  obtain ⟨a, len, cap, h1, h2⟩ := h
  exact ⟨a, len, cap, e.trans h1, h2⟩
theorem rd_c {w : World} {B : Nat} {a : Option Addr} {len cap : Nat} (h : w.heap[B]? = some (.cells #[.slice a len cap] 61 (0, 0))) : w.cell? ⟨B, 0, none⟩ = some (.slice a len cap) ∧ w.frozen? ⟨B, 0, none⟩ = false := by
  simp [World.cell?, World.frozen?, h]
theorem gr_set (w : World) (B i : Nat) (v : Value) : w.grownBy (w.setCell ⟨B, i, none⟩ v) (some B) :=
  ⟨rfl, rfl, rfl, by simp [World.setCell], fun k hk hne => by
    have : B ≠ k := fun e => hne (by rw [e])
    simp [World.setCell, Array.getElem?_modify, this]⟩
theorem gr_drew {w w' : World} {g : Nat} (h : w.grownBy w' (some g)) : w.grownBy w'.drew (some g) := by obtain ⟨a1, a2, a3, a4, a5⟩ := h; exact ⟨a1, a2, a3, a4, a5⟩
theorem gr_drewN {w w' : World} {g : Nat} (h : w.grownBy w' (some g)) (n : Nat) : w.grownBy (w'.drewN n) (some g) := by obtain ⟨a1, a2, a3, a4, a5⟩ := h; exact ⟨a1, a2, a3, a4, a5⟩
theorem row_take {base : Nat} {w : World} {a : Option Addr} {len : Nat} {zs : List Int} (h : Row base w a len zs) (n : Nat) (hn : n ≤ len) : Row base w a n (zs.take n) := by
  obtain ⟨h1, h2, h3, h4⟩ := h
  refine ⟨by rw [List.length_take]; omega, fun x hx => h2 x (List.mem_of_mem_take hx), by omega, ?_⟩
  rcases h4 with h0 | ⟨b, off, e, hb, hc⟩
  · exact .inl (by omega)
  · refine .inr ⟨b, off, e, hb, fun j hj => ?_⟩
    rw [hc j (by omega), List.getD_eq_getElem?_getD, List.getD_eq_getElem?_getD, List.getElem?_take, if_pos hj]

theorem empty_ (a : Option Addr) (len cap : Nat) (w : World) : Calls Try.prog 76 #[.slice a len cap] w fun e w' => e = .returned (.bool (decide (len = 0))) ∧ w = w' := by
  by_cases h : len = 0
  · subst h
    go_enter Try.func76, Try.ntmps76
    go_wp2
    go_ret
    exact ⟨rfl, rfl⟩
  · rw [decide_eq_false h]
    have h2 : ((len : Int) == 0) = false := by simp; omega
    go_enter Try.func76, Try.ntmps76
    go_wp2
    go_ret
    exact ⟨rfl, rfl⟩
theorem has (a : Option Addr) (len cap n : Nat) (w : World) : Calls Try.prog 57 #[.slice a len cap, .int .i64 (n : Int)] w fun e w' => e = .returned (.bool (decide (n ≤ len))) ∧ w = w' := by
  have h2 : decide ((n : Int) ≤ (len : Int)) = decide (n ≤ len) := by rw [decide_eq_decide]; omega
  go_enter Try.func57, Try.ntmps57
  go_wp2
  go_ret
  exact ⟨rfl, rfl⟩
theorem need_ok (f : Int) (w : World) : Calls Try.prog 56 #[.bool true, .int .i64 f] w fun e w' => e = .returned (.tuple #[]) ∧ w = w' := by
  go_enter Try.func56, Try.ntmps56
  go_wp2
  go_end0
  exact ⟨rfl, rfl⟩
theorem need_bad (f : Int) (w : World) : Calls Try.prog 56 #[.bool false, .int .i64 f] w fun e w' => e = thrown f ∧ w = w' := by
  go_enter Try.func56, Try.ntmps56
  go_wp2
  exact ⟨rfl, rfl, rfl⟩
/-- so many bytes are cut off -/
theorem cut (base : Nat) (w0 w : World) (B n : Nat) (zs : List Int) (hR : Rdr base w0 w B zs) (hn : n ≤ zs.length) :
    Calls Try.prog 60 #[.pointer (some ⟨B, 0, none⟩), .int .i64 (n : Int)] w fun e w' => ∃ a cap, e = .returned (.slice a n cap) ∧ Row base w0 a n (zs.take n) ∧ n ≤ cap ∧ (a = none → n = 0 ∧ cap = 0) ∧ Rdr base w0 w' B (zs.drop n) ∧ w.grownBy w' (some B) := by
  obtain ⟨a, len, cap, h1, hrow, hlc, hnn⟩ := hR
  obtain ⟨c0, f0⟩ := rd_c h1
  have hl := hrow.1
  have hlim := hrow.2.2.1
  have H1 := hidden h1
  have i1 : (n : Int) ≤ (cap : Int) := by omega
  have i2 : (n : Int) ≤ (len : Int) := by omega
  have HR := hidden hrow
  clear h1 hrow
  go_enter Try.func60, Try.ntmps60
  have HN := hidden (show Rdr base w0 (w.setCell ⟨B, 0, none⟩ (.slice (cutA a cap n) (len - n) (cap - n))) B (zs.drop n) from
    ⟨_, _, _, heap_set w B 0 _ H1.out, Par.cutA_row HR.out (by omega) hlc hnn, by omega, Par.cutA_none hnn⟩)
  have HT := hidden (row_take HR.out n (by omega))
  have HNN := hidden (show a = none → n = 0 ∧ cap = 0 from fun h => by have := hnn h; omega)
  clear hnn
  go_wp2
  all_goals go_ret
  · have e : cutA a cap n = a := by unfold cutA; rw [if_pos h]
    rw [e, show cap - n = 0 by omega] at HN
    subst h
    exact ⟨a, cap, rfl, HT.out, Nat.le_refl _, HNN.out, HN.out, gr_set _ _ _ _⟩
  · have e : cutA a cap n = a.map (fun x => x.add n) := by unfold cutA; rw [if_neg h]
    rw [e] at HN
    exact ⟨a, cap, rfl, HT.out, by omega, HNN.out, HN.out, gr_set _ _ _ _⟩
/-- the numbers that stand at a place -/
def n2 (zs : List Int) (p : Nat) : Int := zs.getD p 0 * 256 + zs.getD (p + 1) 0
def n4 (zs : List Int) (p : Nat) : Int := n2 zs p * 65536 + n2 zs (p + 2)
theorem n2_bound {zs : List Int} (h : Bytes zs) (p : Nat) : 0 ≤ n2 zs p ∧ n2 zs p < 65536 := by
  have h1 := Par.at_bound zs h p
  have h2 := Par.at_bound zs h (p + 1)
  unfold n2
  omega
theorem n4_bound {zs : List Int} (h : Bytes zs) (p : Nat) : 0 ≤ n4 zs p ∧ n4 zs p < 4294967296 := by
  have h1 := n2_bound h p
  have h2 := n2_bound h (p + 2)
  unfold n4
  omega
/-- a reader that stands at a place -/
def Rp (base : Nat) (w0 w : World) (B : Nat) (v : List Int) (p : Nat) : Prop := Rdr base w0 w B (v.drop p) ∧ p ≤ v.length ∧ Bytes v ∧ Below w0.heap.size w0 w ∧ w0.heap.size ≤ B
theorem Rp.grown {base : Nat} {w0 w w' : World} {B p : Nat} {v : List Int} (h : Rp base w0 w B v p) {q : Nat} (hq : q ≤ v.length) (hR : Rdr base w0 w' B (v.drop q)) (hg : w.grownBy w' (some B)) : Rp base w0 w' B v q :=
  ⟨hR, hq, h.2.2.1, h.2.2.2.1.grown hg h.2.2.2.1.size (fun k hk => by cases hk; exact h.2.2.2.2), h.2.2.2.2⟩
theorem getD_drop (v : List Int) (p j : Nat) : (v.drop p).getD j 0 = v.getD (p + j) 0 := by
  rw [List.getD_eq_getElem?_getD, List.getD_eq_getElem?_getD, List.getElem?_drop]
theorem getD_take (v : List Int) {n j : Nat} (h : j < n) : (v.take n).getD j 0 = v.getD j 0 := by
  rw [List.getD_eq_getElem?_getD, List.getD_eq_getElem?_getD, List.getElem?_take, if_pos h]
theorem row_cell {base : Nat} {w0 w : World} {a : Option Addr} {n : Nat} {zs : List Int} (h : Row base w0 a n zs) (hb : Below w0.heap.size w0 w) {j : Nat} (hj : j < n) : ∃ b off, a = some ⟨b, off, none⟩ ∧ w.cell? ⟨b, off + j, none⟩ = some (.int .u8 (zs.getD j 0)) := by
  obtain ⟨b, off, e, _, hc⟩ := h.2.2.2.resolve_left (by omega)
  exact ⟨b, off, e, (hb.cell (cell_lt (hc j hj))).trans (hc j hj)⟩
theorem one (base : Nat) (w0 w : World) (B p : Nat) (v : List Int) (h : Rp base w0 w B v p) (hp : p + 1 ≤ v.length) :
    Calls Try.prog 58 #[.pointer (some ⟨B, 0, none⟩)] w fun e w' => e = .returned (.int .u8 (v.getD p 0)) ∧ Rp base w0 w' B v (p + 1) ∧ w.grownBy w' (some B) := by
  have C := hidden (cut base w0 w B 1 _ h.1 (by rw [List.length_drop]; omega))
  have HR := hidden h
  clear h
  go_enter Try.func58, Try.ntmps58
  go_wp2_with fail
  refine Calls.mono C.out ?_
  rintro e w1 ⟨a, cap, rfl, hrow, _, _, hR, hg⟩
  rw [List.drop_drop] at hR
  have h1 := HR.out.grown hp hR hg
  obtain ⟨b, off, rfl, hc⟩ := row_cell hrow h1.2.2.2.1 (j := 0) (by omega)
  rw [getD_take _ (by omega), getD_drop, Nat.add_zero, Nat.add_zero] at hc
  have H1 := hidden h1
  have HG := hidden hg
  clear C hrow hR hg h1
  go_wp2
  go_ret
  exact ⟨rfl, H1.out, HG.out⟩
theorem two (base : Nat) (w0 w : World) (B p : Nat) (v : List Int) (h : Rp base w0 w B v p) (hp : p + 2 ≤ v.length) :
    Calls Try.prog 59 #[.pointer (some ⟨B, 0, none⟩)] w fun e w' => e = .returned (.int .u16 (n2 v p)) ∧ Rp base w0 w' B v (p + 2) ∧ w.grownBy w' (some B) := by
  have C := hidden (cut base w0 w B 2 _ h.1 (by rw [List.length_drop]; omega))
  have HR := hidden h
  have x1 := Par.at_bound v h.2.2.1 p
  have x2 := Par.at_bound v h.2.2.1 (p + 1)
  have HE := hidden (show n2 v p = v.getD p 0 * 256 + v.getD (p + 1) 0 from rfl)
  clear h
  go_enter Try.func59, Try.ntmps59
  go_wp2_with fail
  refine Calls.mono C.out ?_
  rintro e w1 ⟨a, cap, rfl, hrow, _, _, hR, hg⟩
  rw [List.drop_drop] at hR
  have h1 := HR.out.grown hp hR hg
  obtain ⟨b, off, rfl, c0⟩ := row_cell hrow h1.2.2.2.1 (j := 0) (by omega)
  obtain ⟨b', off', e, c1⟩ := row_cell hrow h1.2.2.2.1 (j := 1) (by omega)
  cases e
  rw [getD_take _ (by omega), getD_drop, Nat.add_zero, Nat.add_zero] at c0
  rw [getD_take _ (by omega), getD_drop] at c1
  have H1 := hidden h1
  have HG := hidden hg
  clear C hrow hR hg h1
  generalize v.getD p 0 = x at *
  generalize v.getD (p + 1) 0 = y at *
  have ho : bits .or .u16 (x * 256) y = x * 256 + y := by
    obtain ⟨X, rfl⟩ : ∃ X : Nat, x = (X : Int) := ⟨x.toNat, by omega⟩
    obtain ⟨Y, rfl⟩ : ∃ Y : Nat, y = (Y : Int) := ⟨y.toNat, by omega⟩
    rw [show (X : Int) * 256 = ((X * 256 : Nat) : Int) by omega, u16_or_nat (X * 256) Y (by omega) (by omega)]
    have := Nat.two_pow_add_eq_or_of_lt (i := 8) (b := Y) (by omega) X
    rw [Nat.mul_comm X, ← this]
    omega
  go_wp2
  go_quiet (fail)
  have H2 := hidden (show Rp base w0 (w1.drewN nq) B v (p + 2) from ⟨H1.out.1, H1.out.2.1, H1.out.2.2.1, Par.below_drewN H1.out.2.2.2.1 nq, H1.out.2.2.2.2⟩)
  have HG2 := hidden (gr_drewN HG.out nq)
  go_wp2
  go_ret
  exact ⟨by rw [HE.out]; rfl, H2.out, HG2.out⟩
theorem four (base : Nat) (w0 w : World) (B p : Nat) (v : List Int) (h : Rp base w0 w B v p) (hp : p + 4 ≤ v.length) :
    Calls Try.prog 74 #[.pointer (some ⟨B, 0, none⟩)] w fun e w' => e = .returned (.int .u32 (n4 v p)) ∧ Rp base w0 w' B v (p + 4) ∧ w.grownBy w' (some B) := by
  have C := hidden (two base w0 w B p v h (by omega))
  have x1 := n2_bound h.2.2.1 p
  have x2 := n2_bound h.2.2.1 (p + 2)
  have HE := hidden (show n4 v p = n2 v p * 65536 + n2 v (p + 2) from rfl)
  clear h
  generalize n2 v p = x at *
  go_enter Try.func74, Try.ntmps74
  go_wp2_with fail
  refine Calls.mono C.out ?_
  rintro e w1 ⟨rfl, h1, g1⟩
  have C2 := hidden (two base w0 w1 B (p + 2) v h1 (by omega))
  have HG := hidden g1
  clear C h1 g1
  generalize n2 v (p + 2) = y at *
  have ho : bits .or .u32 (x * 65536) y = x * 65536 + y := by
    obtain ⟨X, rfl⟩ : ∃ X : Nat, x = (X : Int) := ⟨x.toNat, by omega⟩
    obtain ⟨Y, rfl⟩ : ∃ Y : Nat, y = (Y : Int) := ⟨y.toNat, by omega⟩
    rw [show (X : Int) * 65536 = ((X * 65536 : Nat) : Int) by omega, u32_or_nat (X * 65536) Y (by omega) (by omega)]
    have := Nat.two_pow_add_eq_or_of_lt (i := 16) (b := Y) (by omega) X
    rw [Nat.mul_comm X, ← this]
    omega
  go_wp2_with fail
  refine Calls.mono C2.out ?_
  rintro e w2 ⟨rfl, h2, g2⟩
  have H2 := hidden h2
  have HG2 := hidden (gr_trans HG.out g2)
  clear C2 h2 g2
  go_wp2
  go_ret
  exact ⟨by rw [HE.out]; rfl, H2.out, HG2.out⟩
theorem skip (base : Nat) (w0 w : World) (B p n : Nat) (v : List Int) (h : Rp base w0 w B v p) (hn : n ≤ 140737488355328) :
    Calls Try.prog 62 #[.pointer (some ⟨B, 0, none⟩), .int .i64 (n : Int)] w fun e w' => e = .returned (.tuple #[]) ∧ Rp base w0 w' B v (p + min n (v.length - p)) ∧ w.grownBy w' (some B) := by
  have HR := hidden h
  obtain ⟨⟨a, len, cap, h1, hrow, hlc, hnn⟩, hpl, _, _, _⟩ := h
  obtain ⟨c0, f0⟩ := rd_c h1
  have hl := hrow.1
  rw [List.length_drop] at hl
  have hlim := hrow.2.2.1
  clear h1 hrow hnn
  by_cases hlt : len < n
  · have C := hidden (cut base w0 w B len _ HR.out.1 (by rw [List.length_drop]; omega))
    have HM := hidden (show p + min n (v.length - p) = p + len by omega)
    have HML := hidden (show p + len ≤ v.length by omega)
    clear hl
    go_enter Try.func62, Try.ntmps62
    go_wp2_with fail
    refine Calls.mono C.out ?_
    rintro e w1 ⟨a', cap', rfl, _, _, _, hR, hg⟩
    rw [List.drop_drop] at hR
    have H1 := hidden (HR.out.grown HML.out hR hg)
    have HG := hidden hg
    clear hR hg C
    go_wp2
    go_end0
    exact ⟨rfl, by rw [HM.out]; exact H1.out, HG.out⟩
  · have C := hidden (cut base w0 w B n _ HR.out.1 (by rw [List.length_drop]; omega))
    have HM := hidden (show p + min n (v.length - p) = p + n by omega)
    have HML := hidden (show p + n ≤ v.length by omega)
    clear hl
    go_enter Try.func62, Try.ntmps62
    go_wp2_with fail
    refine Calls.mono C.out ?_
    rintro e w1 ⟨a', cap', rfl, _, _, _, hR, hg⟩
    rw [List.drop_drop] at hR
    have H1 := hidden (HR.out.grown HML.out hR hg)
    have HG := hidden hg
    clear hR hg C
    go_wp2
    go_end0
    exact ⟨rfl, by rw [HM.out]; exact H1.out, HG.out⟩
end Go.Proofs.Ytifdkpifambhaaa.Chu
