/-
  What the law's own functions do: a set of some distances (filled), two rows held against one another (Numbers, Blocks).
  Conditions: the row that is handed in can be read; the table of math/bits holds its numbers.
-/
import Derived.Test.YtllipbkpbopomaaDoorSpTop
import Derived.Test.YtllipbkpbopomaaDoorSpCanon
namespace Go.Proofs.YtllipbkpbopomaaDoor.Sp
open Go.RowKit Go.Shelf Go.ChangeShapes Go.WideShapes Go.ChangeAt
set_option linter.unusedVariables false

/-- a row of short numbers that can be read -/
def Row (w : World) (a : Option Addr) (len : Nat) (zs : List Int) : Prop :=
  zs.length = len ∧ (∀ z ∈ zs, 0 ≤ z ∧ z < 65536) ∧ len ≤ 281474976710656 ∧ (len = 0 ∨ ∃ b off, a = some ⟨b, off, none⟩ ∧ b < w.heap.size ∧ ∀ j, j < len → w.cell? ⟨b, off + j, none⟩ = some (.int .u16 (zs.getD j 0)))
theorem Row.later {w w' : World} {a : Option Addr} {len : Nat} {zs : List Int} (h : Row w a len zs) (hB : Below w.heap.size w w') : Row w' a len zs := by
  obtain ⟨h1, h2, h3, h4⟩ := h
  refine ⟨h1, h2, h3, h4.imp id ?_⟩
  rintro ⟨b, off, rfl, hb, hc⟩
  exact ⟨b, off, rfl, Nat.lt_of_lt_of_le hb hB.size, fun j hj => (hB.cell (p := ⟨b, off + j, none⟩) hb).trans (hc j hj)⟩
theorem at_b16 (zs : List Int) (hb : ∀ z ∈ zs, 0 ≤ z ∧ z < 65536) (k : Nat) : 0 ≤ zs.getD k 0 ∧ zs.getD k 0 < 65536 := by
  rw [List.getD_eq_getElem?_getD]
  cases h : zs[k]? with
  | none => decide
  | some x => exact hb x (List.mem_of_getElem? h)

theorem row_of {H : Type} {enc : TypeId × Value → H} {W : World} {base : Nat} {held : Bool} {fuel : Nat} {a : Option Addr} {len cap : Nat} {x : DataW H × List MemPlace}
    (h : DataW.trod enc Tryd.prog W base (fun _ => true) held fuel 54 (Value.slice a len cap).cells.toList = some x)
    (hsz : ∀ elems spare, x.1 = .slice elems spare → elems.length + spare.length ≤ 140737488351232) : ∃ zs, Row W a len zs ∧ len ≤ cap ∧ cap ≤ 140737488351232 ∧ (a = none → len = 0 ∧ cap = 0) := by
  rcases open_ints Tryd.underlying54 Tryd.underlying60 (by kernel_rfl) h with ⟨hcs, _⟩ | ⟨y, l, c, zs, hcs, _, hl, hm, hz, rfl, hcell, hwz⟩
  · simp [Value.cells] at hcs
    obtain ⟨rfl, rfl, rfl⟩ := hcs
    exact ⟨[], ⟨rfl, (fun n hn => by cases hn), by decide, .inl rfl⟩, by decide, by decide, fun _ => ⟨rfl, rfl⟩⟩
  · simp [Value.cells] at hcs
    obtain ⟨rfl, rfl, rfl⟩ := hcs
    simp only [if_pos] at hz
    have hc : cap ≤ 140737488351232 := by
      have := hsz _ _ rfl
      simp only [lits, List.length_map, List.length_take, List.length_drop] at this
      omega
    have hb : ∀ z ∈ zs.take len, 0 ≤ z ∧ z < 65536 := fun n hn => by
      have := hwz n (List.mem_of_mem_take hn)
      simp [Lit.wf, IntKind.min, IntKind.max, IntKind.signed, IntKind.bits] at this
      omega
    refine ⟨zs.take len, ⟨by rw [List.length_take]; omega, hb, by omega, ?_⟩, hl, hc, (fun h => by cases h)⟩
    rcases Nat.eq_zero_or_pos len with h0 | hpos
    · exact .inl h0
    · obtain ⟨b, off, rfl, hc'⟩ := ints_at hcell (by omega)
      have hbl := World.block_lt_of_cell? W _ (hc' 0 (by omega))
      refine .inr ⟨b, off, rfl, hbl, fun j hj => ?_⟩
      rw [hc' j (by omega), List.getD_eq_getElem?_getD, List.getD_eq_getElem?_getD, List.getElem?_take, if_pos hj]

/-- the first three hundred, as distances -/
def dists (zs : List Int) : List Nat := (zs.take 300).map Int.toNat

theorem filled (cum : Nat) (hcum : cum < 4294967296) (a : Option Addr) (len cap : Nat) (zs : List Int) (w : World) (hr : Row w a len zs) (hcap : len ≤ cap) (hT : Tab w) :
    Calls Tryd.prog 28 #[.int .u32 (cum : Int), .slice a len cap] w fun e w' => ∃ c L, e = .returned (.tuple #[.pointer (some ⟨w.heap.size, 0, none⟩), .bool true]) ∧ IsSet w' w.heap.size c L ∧ Canon cum (dists zs) c L ∧ Below w.heap.size w w' := by
  have hpos := hT.pos
  go_enter Tryd.func28, Tryd.ntmps28
  go_wp2_with fail
  refine (new_ cum hcum w).mono ?_
  rintro e w1 ⟨rfl, hS1, hg1⟩
  have hT1 := hT.grown0 hg1
  have hB1 := grown0.below hg1
  have hr1 := hr.later hB1
  have hlt1 := hS1.lt
  go_wp2_with fail
  go_loopw [7] (fun i wr => ∃ (q : Int) (k : Nat) (c : Nat) (L : List Nat), 0 ≤ q ∧ q ≤ (len : Int) ∧ q ≤ 300 ∧ Hid (q = k) ∧ i = .int .i64 q ∧ IsSet wr w.heap.size c L ∧ Canon cum ((zs.take k).map Int.toNat) c L ∧ w1.grownBy wr (some w.heap.size)) (fun i wr => len - (intOf i).toNat)
  case atStart => exact ⟨0, 0, cum, [], by omega, by omega, by omega, rfl, rfl, hS1, canon_new cum hcum, World.grownBy.refl _ _⟩
  case round =>
    obtain ⟨q, k, c, L, hq0, hk, hk3, hqk, rfl, hS, hC, hgr⟩ := hrel
    have hBw : Below w.heap.size w wr := hB1.trans (grownS.below hgr (Nat.le_refl _) hB1.size)
    have hrw := hr.later hBw
    obtain ⟨hl, hb, hlim, hor⟩ := hrw
    by_cases hgo : q < (len : Int) ∧ q < 300
    · obtain ⟨hg1, hg2⟩ := hgo
      have hg1' : k < len := by have := hqk.out; omega
      obtain ⟨rb, off, rfl, hrb, hc⟩ := hor.resolve_left (by omega)
      have hcell := hc k hg1'
      rw [show k = q.toNat by have := hqk.out; omega] at hcell
      rw [show zs.getD q.toNat 0 = zs.getD k 0 by rw [show k = q.toNat by have := hqk.out; omega]] at hcell
      have hz := at_b16 zs hb k
      have hsn : Hid ((zs.take (k + 1)).map Int.toNat = (zs.take k).map Int.toNat ++ [(zs.getD k 0).toNat]) := by
        unfold Hid
        rw [List.take_add_one, List.getElem?_eq_getElem (by omega), List.map_append, List.getD_eq_getElem?_getD, List.getElem?_eq_getElem (by omega)]; rfl
      generalize zs.getD k 0 = z at hcell hz hsn
      obtain ⟨hz0, hz1⟩ := hz
      have hds : Hid (∀ d ∈ (zs.take k).map Int.toNat, d ≤ 65535) := fun d hd => by
        obtain ⟨x, hx, rfl⟩ := List.mem_map.1 hd
        have := hb x (List.mem_of_mem_take hx); omega
      clear hb hc hor hr hr1
      obtain ⟨T, hT2⟩ : ∃ T : Nat, Hid (T = (cum + z.toNat) % 4294967296) := ⟨_, rfl⟩
      have hTl : T < 4294967296 := by have := hT2.out; omega
      have hz32 : z % 4294967296 = z := by omega
      go_wp2_with fail
      refine (Ser.radd (cum : Int) z (by omega) (by omega) _).mono ?_
      rintro e w' ⟨rfl, rfl⟩
      rw [show ((cum : Int) + z) % 4294967296 = (T : Int) by have := hT2.out; omega]
      go_wp2_with fail
      refine (add_ T hTl _ hS).mono ?_
      rintro e w2 (⟨hin, rfl, rfl⟩ | ⟨-, hfar, -⟩ | ⟨d, -, hd, hd1, hd2, hd3, rfl, hS2, hg2'⟩)
      · go_wp2
        go_roundw
        case rel =>
          refine ⟨q + 1, k + 1, c, L, by omega, by omega, by omega, show _ = _ by have := hqk.out; omega, rfl, hS, ?_, hgr⟩
          rw [hsn.out]
          exact canon_in hC hS.2.1 hcum _ (by omega) (by rw [← hT2.out]; exact hin)
        case measure => simp only [intOf]; omega
      · have := canon_dist hC hcum z.toNat (by omega)
        rw [← hT2.out] at this
        omega
      · have HD : Hid _ := hd
        clear hd
        go_wp2
        go_roundw
        case rel =>
          refine ⟨q + 1, k + 1, _, _, by omega, by omega, by omega, show _ = _ by have := hqk.out; omega, rfl, hS2, ?_, hgr.trans hg2'⟩
          rw [hsn.out]
          refine canon_add hC hS.2.1 hds.out _ d (by omega) hd2 hd3 ?_ hd1
          have hcc := hS.1
          have h9 := HD.out
          unfold Ser.dist at h9
          rw [← hT2.out]
          split at h9 <;> omega
        case measure => simp only [intOf]; omega
    · have hfin : Hid ((zs.take k).map Int.toNat = dists zs) := by
        unfold Hid dists
        have hq := hqk.out
        by_cases h3 : k = 300
        · rw [h3]
        · have : k = len := by omega
          rw [List.take_of_length_le (by omega), List.take_of_length_le (by omega)]
      have hkk : ¬ q < (len : Int) ∨ (q < (len : Int) ∧ ¬ q < 300) := by omega
      clear hor hr hr1
      rcases hkk with hkk | ⟨hka, hkk⟩
      · go_wp2
        go_ret2
        exact ⟨rfl, c, L, hS, hfin.out ▸ hC, hBw⟩
      · go_wp2
        go_ret2
        exact ⟨rfl, c, L, hS, hfin.out ▸ hC, hBw⟩

/-- a row of numbers, wherever it lies -/
def Nums (w : World) (v : Value) (n : Nat) (f : Nat → Int) : Prop :=
  n ≤ 9223372036854775807 ∧ ∃ a cap, v = .slice a n cap ∧ (n = 0 ∨ ∃ b off, a = some ⟨b, off, none⟩ ∧ b < w.heap.size ∧ ∀ j, j < n → w.cell? ⟨b, off + j, none⟩ = some (.int .u32 (f j)))
theorem Nums.later {w w' : World} {v : Value} {n : Nat} {f : Nat → Int} (h : Nums w v n f) (hB : Below w.heap.size w w') : Nums w' v n f := by
  obtain ⟨h0, a, cap, rfl, h⟩ := h
  refine ⟨h0, a, cap, rfl, h.imp id ?_⟩
  rintro ⟨b, off, rfl, hb, hc⟩
  exact ⟨b, off, rfl, Nat.lt_of_lt_of_le hb hB.size, fun j hj => (hB.cell (p := ⟨b, off + j, none⟩) hb).trans (hc j hj)⟩
/-- the number at a place of a row of distances -/
def tsF (c : Nat) (L : List Nat) (j : Nat) : Int := (((c + L.getD j 0) % 4294967296 : Nat) : Int)
theorem nums_own {w : World} {base n c : Nat} {v : Value} {L : List Nat} (h : w.ownsRow base 22 1 v n (L.map (tsV c))) (hn : L.length = n) : Nums w v n (tsF c L) := by
  have hml : n ≤ 9223372036854775807 := by
    rcases h.2 with ⟨_, h0⟩ | ⟨g, cap, cur, _, _, _, h1, h2, _⟩
    · omega
    · unfold maxLen at h2; omega
  obtain ⟨a, cap, rfl⟩ := row_len h
  refine ⟨hml, a, cap, rfl, ?_⟩
  by_cases h0 : n = 0
  · exact .inl h0
  right
  rcases h.2 with ⟨_, h1⟩ | ⟨g, cap', cur, e, hb, hg, _⟩
  · omega
  · cases e
    refine ⟨g, 0, rfl, (Array.getElem?_eq_some_iff.1 hg).1, fun j hj => ?_⟩
    rw [Nat.zero_add, h.cellAt j (by omega), List.getElem?_map, List.getElem?_eq_getElem (by omega)]
    unfold tsF
    rw [List.getD_eq_getElem?_getD, List.getElem?_eq_getElem (by omega)]
    rfl

theorem numbers (w : World) (v1 v2 : Value) (n : Nat) (f : Nat → Int) (h1 : Nums w v1 n f) (h2 : Nums w v2 n f) :
    Calls Tryd.prog 21 #[v1, v2] w fun e w' => e = .returned (.bool true) ∧ Below w.heap.size w w' := by
  obtain ⟨hn, a1, c1, rfl, h1⟩ := h1
  obtain ⟨_, a2, c2, rfl, h2⟩ := h2
  go_enter Tryd.func21, Tryd.ntmps21
  go_wp2
  go_loopw [5] (fun i wr => ∃ q : Int, 0 ≤ q ∧ q ≤ (n : Int) ∧ i = .int .i64 q ∧ Below w.heap.size w wr) (fun i wr => n - (intOf i).toNat)
  case atStart => exact ⟨0, by omega, by omega, rfl, Below.refl _ _⟩
  case round =>
    obtain ⟨q, hq0, hq, rfl, hB⟩ := hrel
    by_cases hlt : q < (n : Int)
    · obtain ⟨b1, o1, rfl, hb1, hc1⟩ := h1.resolve_left (by omega)
      obtain ⟨b2, o2, rfl, hb2, hc2⟩ := h2.resolve_left (by omega)
      have k1 := (hB.cell (p := ⟨b1, o1 + q.toNat, none⟩) hb1).trans (hc1 q.toNat (by omega))
      have k2 := (hB.cell (p := ⟨b2, o2 + q.toNat, none⟩) hb2).trans (hc2 q.toNat (by omega))
      generalize f q.toNat = z at k1 k2
      clear h1 h2 hc1 hc2
      go_wp2
      go_quiet (fail)
      obtain ⟨w2, hw2, hh2⟩ : ∃ w2, wr.drewN nq = w2 ∧ Hid (Below w.heap.size w w2) := ⟨_, rfl, ⟨hB.os, hB.tape, hB.output, hB.size, hB.block⟩⟩
      rw [hw2]
      clear hw2
      go_wp2
      go_roundw
      case rel => exact ⟨q + 1, by omega, by omega, rfl, hh2.out⟩
      case measure => simp only [intOf]; omega
    · clear h1 h2
      go_wp2
      go_ret
      exact ⟨rfl, hB⟩
end Go.Proofs.YtllipbkpbopomaaDoor.Sp
