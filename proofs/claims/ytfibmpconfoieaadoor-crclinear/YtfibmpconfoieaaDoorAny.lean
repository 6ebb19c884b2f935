/-
  What crc.Put and the document's Put return of every row of bytes, short or long.
  Conditions: as at each contract.
-/
import Derived.Test.YtfibmpconfoieaaDoorRef
namespace Go.Proofs.YtfibmpconfoieaaDoor.Crc
open Go.ChangeShapes Go.WideShapes Go.ChangeAt Go.RowKit
set_option linter.unusedVariables false

def ansOf (zs : List Int) : List Int := if zs.length < 12 then [] else putOf zs
def errOf (zs : List Int) : Int := if zs.length < 12 then 20 else 0

theorem put_any (a : Option Addr) (len cap : Nat) (zs : List Int) (w : World) (ht : Tab w) (h : Row w a len zs) (hcap : len ≤ cap) (hbig : len ≤ 140737488351232) :
    Calls Tryd.prog 14 #[.slice a len cap] w fun e w' => ∃ p n c, e = .returned (.tuple #[.slice p n c, .int .i64 (errOf zs)]) ∧ Row w' p n (ansOf zs) ∧ (p = none → n = 0) ∧
      (∀ g off, p = some ⟨g, off, none⟩ → w.heap.size ≤ g) ∧ Below w.heap.size w w' := by
  have hl := h.1
  rcases Nat.lt_or_ge len 12 with hlt | hge
  · refine (put_brief a len cap w hlt).mono ?_
    rintro e w' ⟨rfl, rfl⟩
    refine ⟨none, 0, 0, by rw [errOf, if_pos (by omega)], ?_, (fun _ => rfl), (fun _ _ h => by cases h), Below.refl _ _⟩
    rw [ansOf, if_pos (by omega)]
    exact ⟨rfl, (fun n hn => by cases hn), by decide, .inl rfl⟩
  · obtain ⟨b, off, rfl, _⟩ := h.2.2.2.resolve_left (by omega)
    refine (put b off len cap zs w ht h hge hcap hbig).mono ?_
    rintro e w' ⟨v, rfl, hown, hb⟩
    obtain ⟨p, c, rfl, hrow, _, hn, hg⟩ := row_own hown (put_bytes h.2.1) (by omega)
    exact ⟨p, len, c, by rw [errOf, if_neg (by omega)], by rw [ansOf, if_neg (by omega)]; exact hrow, fun h => (hn h).1, hg, hb⟩

theorem rput_any (a : Option Addr) (len cap : Nat) (zs : List Int) (w : World) (h : Row w a len zs) (hbig : len ≤ 140737488351232) :
    Calls Tryd.prog 15 #[.slice a len cap] w fun e w' => ∃ p n c, e = .returned (.tuple #[.slice p n c, .int .i64 (errOf zs)]) ∧ Row w' p n (ansOf zs) ∧ (p = none → n = 0) ∧
      (∀ g off, p = some ⟨g, off, none⟩ → w.heap.size ≤ g) ∧ Below w.heap.size w w' := by
  have hl := h.1
  rcases Nat.lt_or_ge len 12 with hlt | hge
  · refine (rput_brief a len cap w hlt).mono ?_
    rintro e w' ⟨rfl, rfl⟩
    refine ⟨none, 0, 0, by rw [errOf, if_pos (by omega)], ?_, (fun _ => rfl), (fun _ _ h => by cases h), Below.refl _ _⟩
    rw [ansOf, if_pos (by omega)]
    exact ⟨rfl, (fun n hn => by cases hn), by decide, .inl rfl⟩
  · obtain ⟨b, off, rfl, _⟩ := h.2.2.2.resolve_left (by omega)
    refine (rput b off len cap zs w h hge hbig).mono ?_
    rintro e w' ⟨v, rfl, hown, hb⟩
    obtain ⟨p, c, rfl, hrow, _, hn, hg⟩ := row_own hown (put_bytes h.2.1) (by omega)
    exact ⟨p, len, c, by rw [errOf, if_neg (by omega)], by rw [ansOf, if_neg (by omega)]; exact hrow, fun h => (hn h).1, hg, hb⟩

theorem setCell_other (w : World) (g k : Nat) (u : Value) (x : Addr) (h : x.block ≠ g) : (w.setCell ⟨g, k, none⟩ u).cell? x = w.cell? x :=
  World.cell?_of_block (Below.heap_setCell w ⟨g, k, none⟩ u x.block h)

theorem Row.kept {w w' : World} {a : Option Addr} {len : Nat} {zs : List Int} (h : Row w a len zs) (g : Nat) (ho : ∀ x : Addr, x.block ≠ g → w'.cell? x = w.cell? x) (hg : ∀ b off, a = some ⟨b, off, none⟩ → b ≠ g) : Row w' a len zs := by
  obtain ⟨h1, h2, h3, h4⟩ := h
  refine ⟨h1, h2, h3, h4.imp id ?_⟩
  rintro ⟨b, off, rfl, hc⟩
  exact ⟨b, off, rfl, fun j hj => (ho _ (hg b off rfl)).trans (hc j hj)⟩

end Go.Proofs.YtfibmpconfoieaaDoor.Crc
