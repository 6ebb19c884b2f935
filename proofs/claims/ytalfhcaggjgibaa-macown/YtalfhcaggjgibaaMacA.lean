/-
  What a turn of bits and a round are, and that the functions of package mac and of the document that make them leave just that in memory.
  Conditions: the numbers lie within their kinds, the state's cells hold them.
-/
import Derived.Test.YtalfhcaggjgibaaRows
import Derived.WalkKit
import Derived.ProofKit
import Derived.OpenShut
import Derived.Laws.BitsAllLaws
import Derived.OwnWalk
import Derived.Deep.RegionHeld3
import Derived.Deep.RegionWith
import Derived.Deep.Cut
namespace Go.Proofs.Ytalfhcaggjgibaa.Mac
open Go.ChangeShapes Go.WideShapes Go.ChangeAt Go.RowKit
set_option linter.unusedVariables false

/-- a number of 64 bits -/
def U (x : Int) : Prop := 0 ≤ x ∧ x < 18446744073709551616
/-- bits turned to the left -/
def rol (x : Int) (n : Nat) : Int := bits .or .u64 (x * 2 ^ n % 18446744073709551616) (x / 2 ^ (64 - n))
def xor (x y : Int) : Int := bits .xor .u64 x y
def plus (x y : Int) : Int := (x + y) % 18446744073709551616

theorem U_bits (op : BinOp) (x y : Int) : U (bits op .u64 x y) := by
  have h := wf_bits op .u64 x y
  simp [Lit.wf, IntKind.min, IntKind.max, IntKind.signed, IntKind.bits] at h
  unfold U; omega
theorem U_rol (x : Int) (n : Nat) : U (rol x n) := U_bits _ _ _
theorem U_xor (x y : Int) : U (xor x y) := U_bits _ _ _
theorem U_plus (x y : Int) : U (plus x y) := by unfold U plus; omega
theorem fin_int {k : IntKind} {x y : Int} {w : World} (h : x = y) : Ending.returned (.int k x) = Ending.returned (.int k y) ∧ w = w := ⟨by rw [h], rfl⟩

theorem rotl (x : Int) (n : Nat) (hx : U x) (hn : n = 13 ∨ n = 32 ∨ n = 16 ∨ n = 21 ∨ n = 17) (w : World) :
    Calls Try.prog 25 #[.int .u64 x, .int .i64 (n : Int)] w fun e w' => e = .returned (.int .u64 (rol x n)) ∧ w = w' := by
  obtain ⟨h1, h2⟩ := hx
  have hb : bits BinOp.and IntKind.u64 (n : Int) 63 = n := by rcases hn with rfl | rfl | rfl | rfl | rfl <;> decide +kernel
  rcases hn with rfl | rfl | rfl | rfl | rfl <;>
  · simp only [Int.cast_ofNat_Int] at hb ⊢
    go_enter Try.func25, Try.ntmps25
    go_wp2
    go_ret
    exact fin_int rfl

theorem rrol (x : Int) (n : Nat) (hx : U x) (hn : n = 13 ∨ n = 32 ∨ n = 16 ∨ n = 21 ∨ n = 17) (w : World) :
    Calls Try.prog 24 #[.int .u64 x, .int .u64 (n : Int)] w fun e w' => e = .returned (.int .u64 (rol x n)) ∧ w = w' := by
  obtain ⟨h1, h2⟩ := hx
  rcases hn with rfl | rfl | rfl | rfl | rfl <;>
  · go_enter Try.func24, Try.ntmps24
    go_wp2
    go_ret
    exact fin_int rfl

/-- block b holds a state: four numbers, the word that is coming, the count -/
def St (w : World) (b : Nat) (x0 x1 x2 x3 m n : Int) : Prop :=
  w.heap[b]? = some (.cells #[.int .u64 x0, .int .u64 x1, .int .u64 x2, .int .u64 x3, .int .u64 m, .int .u64 n] 41 (0, 0))
section
variable {w : World} {b : Nat} {x0 x1 x2 x3 m n : Int}
theorem St.c0 (h : St w b x0 x1 x2 x3 m n) : w.cell? ⟨b, 0, none⟩ = some (.int .u64 x0) := by unfold St at h; simp [World.cell?, h]
theorem St.c1 (h : St w b x0 x1 x2 x3 m n) : w.cell? ⟨b, 1, none⟩ = some (.int .u64 x1) := by unfold St at h; simp [World.cell?, h]
theorem St.c2 (h : St w b x0 x1 x2 x3 m n) : w.cell? ⟨b, 2, none⟩ = some (.int .u64 x2) := by unfold St at h; simp [World.cell?, h]
theorem St.c3 (h : St w b x0 x1 x2 x3 m n) : w.cell? ⟨b, 3, none⟩ = some (.int .u64 x3) := by unfold St at h; simp [World.cell?, h]
theorem St.c4 (h : St w b x0 x1 x2 x3 m n) : w.cell? ⟨b, 4, none⟩ = some (.int .u64 m) := by unfold St at h; simp [World.cell?, h]
theorem St.c5 (h : St w b x0 x1 x2 x3 m n) : w.cell? ⟨b, 5, none⟩ = some (.int .u64 n) := by unfold St at h; simp [World.cell?, h]
theorem St.drew (h : St w b x0 x1 x2 x3 m n) : St w.drew b x0 x1 x2 x3 m n := h
theorem heap_set (w : World) (b i : Nat) (v : Value) {cs : Array Value} {t : TypeId} (h : w.heap[b]? = some (.cells cs t (0, 0))) : (w.setCell ⟨b, i, none⟩ v).heap[b]? = some (.cells (cs.setIfInBounds i v) t (0, 0)) := by
  simp [World.setCell, Array.getElem?_modify, h]
theorem St.s0 (h : St w b x0 x1 x2 x3 m n) (v : Int) : St (w.setCell ⟨b, 0, none⟩ (.int .u64 v)) b v x1 x2 x3 m n := heap_set w b 0 _ h
theorem St.s1 (h : St w b x0 x1 x2 x3 m n) (v : Int) : St (w.setCell ⟨b, 1, none⟩ (.int .u64 v)) b x0 v x2 x3 m n := heap_set w b 1 _ h
theorem St.s2 (h : St w b x0 x1 x2 x3 m n) (v : Int) : St (w.setCell ⟨b, 2, none⟩ (.int .u64 v)) b x0 x1 v x3 m n := heap_set w b 2 _ h
theorem St.s3 (h : St w b x0 x1 x2 x3 m n) (v : Int) : St (w.setCell ⟨b, 3, none⟩ (.int .u64 v)) b x0 x1 x2 v m n := heap_set w b 3 _ h
theorem St.s4 (h : St w b x0 x1 x2 x3 m n) (v : Int) : St (w.setCell ⟨b, 4, none⟩ (.int .u64 v)) b x0 x1 x2 x3 v n := heap_set w b 4 _ h
theorem St.s5 (h : St w b x0 x1 x2 x3 m n) (v : Int) : St (w.setCell ⟨b, 5, none⟩ (.int .u64 v)) b x0 x1 x2 x3 m v := heap_set w b 5 _ h
theorem grownBy_drew {w w' : World} {row : Option Nat} (h : w.grownBy w' row) : w.grownBy w'.drew row := ⟨h.os, h.tape, h.output, h.size, h.block⟩
theorem grownBy_set {w w' : World} {b : Nat} (h : w.grownBy w' (some b)) (a : Addr) (ha : a.block = b) (v : Value) : w.grownBy (w'.setCell a v) (some b) :=
  ⟨h.os, h.tape, h.output, by simpa [World.setCell] using h.size, fun k hk hne => (Below.heap_setCell _ _ _ _ (by rw [ha]; intro e; exact hne (by rw [e]))).trans (h.block k hk hne)⟩
theorem St.fr (h : St w b x0 x1 x2 x3 m n) (i : Nat) : w.frozen? ⟨b, i, none⟩ = false := by unfold St at h; simp [World.frozen?, h]
end

/-- a round -/
def rnd (x0 x1 x2 x3 : Int) : Int × Int × Int × Int :=
  let a := plus x0 x1
  let b := xor (rol x1 13) a
  let a := rol a 32
  let c := plus x2 x3
  let d := xor (rol x3 16) c
  let a := plus a d
  let d := xor (rol d 21) a
  let c := plus c b
  let b := xor (rol b 17) c
  let c := rol c 32
  (a, b, c, d)

/-- four numbers -/
abbrev Q := Int × Int × Int × Int
def UQ (q : Q) : Prop := U q.1 ∧ U q.2.1 ∧ U q.2.2.1 ∧ U q.2.2.2
def rq (q : Q) : Q := rnd q.1 q.2.1 q.2.2.1 q.2.2.2
theorem UQ_rq (q : Q) : UQ (rq q) := ⟨U_plus _ _, U_xor _ _, U_rol _ _, U_xor _ _⟩
end Go.Proofs.Ytalfhcaggjgibaa.Mac
