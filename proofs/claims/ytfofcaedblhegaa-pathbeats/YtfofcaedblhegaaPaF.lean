/-
  Paths: heartbeats, one at a time.
  Conditions: as at each lemma.
-/
import Derived.Test.YtfofcaedblhegaaPaE
namespace Go.Proofs.Ytfofcaedblhegaa.Pa
open Go.ChangeShapes Go.WideShapes Go.ChangeAt Go.RowKit
open Ba (hidden Has Only)
open Ow (Own)
set_option linter.unusedVariables false

/-- none is open, the last one's number is q -/
def Sh (s : S) (q : Int) : Prop := Inv s ∧ s.op = false ∧ s.nu = q
/-- one is open, its number is q, it began at t -/
def Op1 (s : S) (q t : Int) : Prop := Inv s ∧ s.op = true ∧ s.nu = q ∧ s.bg = t
section
variable {w : World} {b : Nat} {s : S} {q t m n : Int}
theorem beat0 (h : Cd w b s) (hS : Sh s q) (h1 : 0 ≤ q ∧ q ≤ 300) (ht : 0 ≤ t ∧ t ≤ 1099511627776) : Calls Try.prog 16 #[.pointer (some ⟨b, 0, none⟩), .int .i64 t] w fun e w' => ∃ s', e = .returned (.tuple #[.int .u32 (q + 1), .int .i64 0]) ∧ Cd w' b s' ∧ Op1 s' (q + 1) t ∧ Only [b] w w' := by
  obtain ⟨hI, ho, rfl⟩ := hS
  have hk : tok t = true := decide_eq_true ht
  have := beatX h hI t
  unfold beatN beatE beatS at this
  rw [hk, ho] at this
  refine this.mono ?_
  rintro e w' ⟨rfl, h2, h3⟩
  have e1 : (s.nu + 1) % 4294967296 = s.nu + 1 := by omega
  refine ⟨_, ?_, h2, ⟨(hI.use ht).beg ht, rfl, e1, rfl⟩, h3⟩
  show Ending.returned (.tuple #[.int .u32 ((s.nu + 1) % 4294967296), .int .i64 0]) = _
  rw [e1]
theorem beat1 (h : Cd w b s) (hS : Op1 s q t) (ht : 0 ≤ n ∧ n ≤ 1099511627776) : Calls Try.prog 16 #[.pointer (some ⟨b, 0, none⟩), .int .i64 n] w fun e w' => e = .returned (.tuple #[.int .u32 0, .int .i64 111]) ∧ Cd w' b s ∧ Only [b] w w' := by
  obtain ⟨hI, ho, rfl, rfl⟩ := hS
  have hk : tok n = true := decide_eq_true ht
  have := beatX h hI n
  unfold beatN beatE beatS at this
  rw [hk, ho] at this
  exact this
theorem heardNo (h : Cd w b s) (hI : Inv s) (ha : ansB s m n = false) (ht : 0 ≤ n ∧ n ≤ 1099511627776) : Calls Try.prog 17 #[.pointer (some ⟨b, 0, none⟩), .int .u32 m, .int .i64 n] w fun e w' => e = .returned (.tuple #[.int .i64 0, .bool false, .int .i64 111]) ∧ Cd w' b s ∧ Only [b] w w' := by
  have hk : tok n = true := decide_eq_true ht
  have := heardX h hI m n
  unfold hearA hearB hearE hearS at this
  rw [hk, ha] at this
  exact this
theorem heard1no (h : Cd w b s) (hS : Op1 s q t) (hm : ¬ q = m) (ht : 0 ≤ n ∧ n ≤ 1099511627776) : Calls Try.prog 17 #[.pointer (some ⟨b, 0, none⟩), .int .u32 m, .int .i64 n] w fun e w' => e = .returned (.tuple #[.int .i64 0, .bool false, .int .i64 111]) ∧ Cd w' b s ∧ Only [b] w w' := by
  obtain ⟨hI, ho, rfl, rfl⟩ := hS
  exact heardNo h hI (by unfold ansB; rw [decide_eq_false hm, ho]; rfl) ht
theorem heard0 (h : Cd w b s) (hS : Sh s q) (ht : 0 ≤ n ∧ n ≤ 1099511627776) : Calls Try.prog 17 #[.pointer (some ⟨b, 0, none⟩), .int .u32 m, .int .i64 n] w fun e w' => e = .returned (.tuple #[.int .i64 0, .bool false, .int .i64 111]) ∧ Cd w' b s ∧ Only [b] w w' := by
  obtain ⟨hI, ho, rfl⟩ := hS
  exact heardNo h hI (by unfold ansB; rw [ho]; rfl) ht
theorem heard1 (h : Cd w b s) (hS : Op1 s q t) (hn : t ≤ n) (ht : 0 ≤ n ∧ n ≤ 1099511627776) : Calls Try.prog 17 #[.pointer (some ⟨b, 0, none⟩), .int .u32 q, .int .i64 n] w fun e w' => ∃ s' x, e = .returned (.tuple #[.int .i64 (n - t), .bool x, .int .i64 0]) ∧ Cd w' b s' ∧ Sh s' q ∧ Only [b] w w' := by
  obtain ⟨hI, ho, rfl, rfl⟩ := hS
  have hk : tok n = true := decide_eq_true ht
  have ha : ansB s s.nu n = true := by unfold ansB; rw [decide_eq_true rfl, decide_eq_true hn, ho]; rfl
  have := heardX h hI s.nu n
  unfold hearA hearB hearE hearS at this
  rw [hk, ha] at this
  refine this.mono ?_
  rintro e w' ⟨rfl, h2, h3⟩
  exact ⟨_, _, rfl, h2, ⟨hI.end.good, rfl, rfl⟩, h3⟩
end
end Go.Proofs.Ytfofcaedblhegaa.Pa
