/-
  What All, High, Gaps and Missing answer: rows of their own memory, made of the set's distances.
  Conditions: the set hands out its blocks (it was made by the package, or has no marks, or is nil).
-/
import Derived.Test.YtdifceikfnnfeaaDoorSpRange
import Derived.Maps.Range
namespace Go.Proofs.YtdifceikfnnfeaaDoor.Sp
open Go.RowKit Go.Shelf Go.ChangeShapes Go.WideShapes Go.ChangeAt
set_option linter.unusedVariables false
attribute [local go_sem] Oper.semAt_some

/-- the TSN at a distance -/
def tsV (c d : Nat) : Value := .int .u32 (((c + d) % 4294967296 : Nat) : Int)

theorem info22 : (Tryd.prog.info? 22).map (fun i => (i.zero, i.size, i.bytes)) = some (some (.int .u32 0), 1, 4) := by kernel_rfl

theorem At.notRow {w : World} {b : Nat} {R : Nat → Nat} {cnt : Int} {made : Bool} {c base e size n : Nat} {v : Value} {xs : List Value} (h : At w b R cnt made c) (hr : w.ownsRow base e size v n xs) (he : e ≠ 106) : some b ≠ v.ownBlock := by
  intro hb
  obtain ⟨cs, h1, _⟩ := h
  rcases hr.2 with ⟨rfl, _⟩ | ⟨g, cap, cur, rfl, _, hg, _⟩
  · cases hb
  · simp only [Value.ownBlock, Option.some.injEq] at hb
    subst hb
    rw [h1] at hg
    cases hg
    exact he rfl
/-- what lay below, and whatever holds no cells of that kind, lies as it lay -/
structure Fr (base : Nat) (e : TypeId) (w w' : World) : Prop where
  below : Below base w w'
  other : ∀ (k : Nat) (o : Obj), w.heap[k]? = some o → (∀ cur f, o ≠ .cells cur e f) → w'.heap[k]? = some o
theorem Fr.refl (base : Nat) (e : TypeId) (w : World) : Fr base e w w := ⟨Below.refl _ _, fun _ _ h _ => h⟩
theorem Fr.trans {base : Nat} {e : TypeId} {w w1 w2 : World} (h : Fr base e w w1) (k : Fr base e w1 w2) : Fr base e w w2 := ⟨h.below.trans k.below, fun i o h1 h2 => k.other i o (h.other i o h1 h2) h2⟩
theorem Fr.drew {base : Nat} {e : TypeId} {w w1 : World} (h : Fr base e w w1) : Fr base e w w1.drew := ⟨h.below.drew, h.other⟩
theorem Fr.alloc {base : Nat} {e : TypeId} (w : World) (hb : base ≤ w.heap.size) (o : Obj) : Fr base e w (w.alloc o) :=
  ⟨(Below.refl _ w).alloc hb o, fun k x hk _ => (Below.heap_alloc w o k (Array.getElem?_eq_some_iff.1 hk).1).trans hk⟩
theorem Fr.grown {base e size n : Nat} {v : Value} {xs : List Value} {w w' : World} (hr : w.ownsRow base e size v n xs) (hb : base ≤ w.heap.size) (hg : w.grownBy w' v.ownBlock) : Fr base e w w' := by
  refine ⟨(Below.refl _ w).grown hg hb fun k hk => (hr.lt k hk).1, fun k o hk ho => (hg.block k (Array.getElem?_eq_some_iff.1 hk).1 fun hb => ?_).trans hk⟩
  rcases hr.2 with ⟨rfl, _⟩ | ⟨g, cap, cur, rfl, _, hg, _⟩
  · cases hb
  · simp only [Value.ownBlock, Option.some.injEq] at hb
    subst hb
    rw [hk] at hg
    cases hg
    exact ho _ _ rfl
theorem Fr.at_ {w w' : World} {b : Nat} {R : Nat → Nat} {cnt : Int} {made : Bool} {c base e : Nat} (h : Fr base e w w') (he : e ≠ 106) (hA : At w b R cnt made c) : At w' b R cnt made c := by
  obtain ⟨cs, h1, h2⟩ := hA
  exact ⟨cs, h.other b _ h1 (fun cur f hh => by cases hh; exact he rfl), h2⟩

theorem appendRange (b : Nat) (w : World) {R : Nat → Nat} {cnt : Int} {made : Bool} {c : Nat} (hA : At w b R cnt made c) (hc : c < 4294967296) (base : Nat) (v : Value) (n : Nat) (xs : List Value) (hown : w.ownsRow base 22 1 v n xs) (hbase : base ≤ w.heap.size)
    (s e : Int) (hs : 1 ≤ s ∧ s ≤ 65536) (he : 0 ≤ e ∧ e ≤ 65535) (hn : n ≤ 4294967296) :
    Calls Tryd.prog 66 #[.pointer (some ⟨b, 0, none⟩), v, .int .i64 s, .int .i64 e] w fun x w' => ∃ v', x = .returned v' ∧
      w'.ownsRow base 22 1 v' (n + (e + 1 - s).toNat) (xs ++ (List.range' s.toNat (e + 1 - s).toNat).map (tsV c)) ∧ Fr base 22 w w' := by
  obtain ⟨i0, hi, hz0, hz1, hz2⟩ := info_parts info22
  go_enter Tryd.func66, Tryd.ntmps66
  go_wp2_with fail
  go_loopw [1, 9] (fun u d wr => ∃ (dI : Int), d = .int .i64 dI ∧ s ≤ dI ∧ (dI ≤ e + 1 ∨ dI = s) ∧ wr.ownsRow base 22 1 u (n + (dI - s).toNat) (xs ++ (List.range' s.toNat (dI - s).toNat).map (tsV c)) ∧ Fr base 22 w wr)
    (fun u d wr => (e + 1 - intOf d).toNat)
  case atStart => exact ⟨s, rfl, Int.le_refl _, .inr rfl, by simpa using hown, Fr.refl _ _ _⟩
  case round =>
    obtain ⟨dI, rfl, h1, h2, ho, hg⟩ := hrel
    have hA' := hg.at_ (by decide) hA
    by_cases hd : dI ≤ e
    · have C : Hid (Calls Tryd.prog 76 #[.pointer (some ⟨b, 0, none⟩), .int .i64 dI] wr fun e w' => e = .returned (tsV c dI.toNat) ∧ wr = w') := by
        have := at_ dI.toNat (by omega) wr hA' hc
        rw [show ((dI.toNat : Nat) : Int) = dI by omega] at this
        exact this
      have hn2 : Hid ((n + (dI - s).toNat) + 1 ≤ 4295098368) := by unfold Hid; omega
      have hS : Hid (n + (dI + 1 - s).toNat = (n + (dI - s).toNat) + 1 ∧ xs ++ (List.range' s.toNat (dI + 1 - s).toNat).map (tsV c) = (xs ++ (List.range' s.toNat (dI - s).toNat).map (tsV c)) ++ [tsV c dI.toNat]) := by
        refine ⟨by omega, ?_⟩
        rw [show (dI + 1 - s).toNat = (dI - s).toNat + 1 by omega, List.range'_concat, List.map_append, List.append_assoc]
        rw [show s.toNat + 1 * (dI - s).toNat = dI.toNat by omega]
        rfl
      generalize n + (dI - s).toNat = N at ho hn2 hS
      generalize xs ++ (List.range' s.toNat (dI - s).toNat).map (tsV c) = X at ho hS
      have hts : ∃ q, Hid (tsV c dI.toNat = .int .u32 q) := ⟨_, rfl⟩
      obtain ⟨q, hq⟩ := hts
      rw [hq.out] at C hS
      clear h2
      have hwb : base ≤ wr.heap.size := Nat.le_trans hbase hg.below.size
      go_wp2_with fail
      refine Calls.mono C.out ?_
      rintro e w' ⟨rfl, rfl⟩
      go_wp2_with (at_builtin; refine wpList_append_own _ rfl _ _ 33 rfl base 22 i0 (.int .u32 0) 1 4 Tryd.underlying33 hi hz0 hz1 hz2 rfl (by decide) _ _ _ rfl (ho.alloc _) ⟨wr.heap.size, 0, none⟩ 1 1 [.int .u32 q] rfl rfl (cell_one_new _ _ _) (by simp [Value.oneCell']) ?c3 ?c4 (by simp; omega) ?_)
      case c3 => unfold maxLen; have := hn2.out; omega
      case c4 => have := hn2.out; omega
      intro v' w2 ho2 hg2 _
      have hg3 : Fr base 22 w w2 := (hg.trans (Fr.alloc wr hwb _)).trans (Fr.grown (ho.alloc _) (by simp; omega) hg2)
      rw [← hS.out.1, ← hS.out.2] at ho2
      go_wp2
      go_roundw
      case rel => exact ⟨dI + 1, rfl, by omega, .inl (by omega), ho2, hg3⟩
      case measure => simp only [intOf]; omega
    · have h3 : Hid ((dI - s).toNat = (e + 1 - s).toNat) := by unfold Hid; omega
      clear h2
      go_wp2
      go_ret
      rw [h3.out] at ho
      exact ⟨_, rfl, ho, hg⟩
end Go.Proofs.YtdifceikfnnfeaaDoor.Sp
