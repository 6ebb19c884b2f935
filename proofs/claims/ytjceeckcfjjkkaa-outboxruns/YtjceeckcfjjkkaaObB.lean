/-
  The small functions of a box: what it is asked, a chunk's state turned, sent, marked, told.
  Conditions: the box lies in memory, or is nil, or was made by no call.
-/
import Derived.Test.YtjceeckcfjjkkaaObA
import Derived.Test.YtjceeckcfjjkkaaSerialCalls
import Derived.Laws.Rows
namespace Go.Proofs.Ytjceeckcfjjkkaa.Ob
open Go.ChangeShapes Go.WideShapes Go.ChangeAt Go.RowKit
open Ba (hidden Has Only cell_lt heap_lt)
open Ow (Own)
set_option linter.unusedVariables false

/-- a new row, with no name for the new world -/
theorem make_wide {P : Program} {t e : TypeId} {z : Value} {size bytes : Nat} (ht : P.underlying t = some (.slice e)) (hinfo : (P.info? e).map (fun i => (i.zero, i.size, i.bytes)) = some (some z, size, bytes)) (c : Nat) (hb : bytes * c ≤ 281474976710656) (h63 : c ≤ 9223372036854775807) :
    ∃ mk : World → World, (∀ w : World, (Instr.makeSlice t (.int .i64 (c : Int)) (.int .i64 (c : Int))).run P w = .ok (.slice (some ⟨w.heap.size, 0, none⟩) c c) (mk w)) ∧ (∀ w : World, Has (mk w) w.heap.size (madeCells z.cells (c * size)) e) ∧ (∀ w : World, Below w.heap.size w (mk w)) ∧ ∀ w : World, (mk w).heap.size = w.heap.size + 1 := by
  obtain ⟨i, hi, hz, rfl, rfl⟩ := info_parts hinfo
  refine ⟨fun w => w.alloc (.cells (madeCells z.cells (c * i.size)) e), fun w => ?_, fun w => Has.new w _ _, fun w => (Below.refl _ w).alloc (Nat.le_refl _) _, fun w => by simp [World.alloc, -World.alloc_eq]⟩
  have h2 : (i.bytes : Int) * (c : Int) ≤ 281474976710656 := by
    have h : ((i.bytes * c : Nat) : Int) ≤ 281474976710656 := by omega
    rwa [Int.natCast_mul] at h
  have := run_make (P := P) w t e i z ht hi hz .i64 .i64 (c : Int) (c : Int) (by omega) (Int.le_refl _) h2 (by omega)
  simp only [Int.toNat_natCast] at this
  exact this
theorem made_at (z : Array Value) {n j : Nat} (h : j < n) : (madeCells z n)[j]? = some (z[j % z.size]!) := by
  unfold madeCells
  rw [Array.getElem?_map, Array.getElem?_range, if_pos h]
  rfl
/-- bytes of one's own -/
def Mine (base : Nat) (w : World) (v : Value) (zs : List Int) : Prop := w.ownsRow base 5 1 v zs.length (cs zs) ∧ Bytes zs ∧ zs.length ≤ 140737488355328
theorem ownLater {w w' : World} {base E s n : Nat} {v : Value} {xs : List Value} (h : w.ownsRow base E s v n xs) (hb : Below w.heap.size w w') : w'.ownsRow base E s v n xs :=
  h.kept (row := none) ⟨hb.os, hb.tape, hb.output, hb.size, fun k hk _ => hb.block k hk⟩ (Classical.em (v.ownBlock = none))
theorem Mine.later {base : Nat} {w w' : World} {v : Value} {zs : List Int} (h : Mine base w v zs) (hb : Below w.heap.size w w') : Mine base w' v zs := ⟨ownLater h.1 hb, h.2⟩
theorem Mine.row {base : Nat} {w : World} {v : Value} {zs : List Int} (h : Mine base w v zs) : ∃ a cap, v = .slice a zs.length cap ∧ Row w a zs.length zs ∧ zs.length ≤ cap ∧ (a = none → zs.length = 0 ∧ cap = 0) := by
  obtain ⟨⟨hl, h⟩, hb, hn⟩ := h
  rcases h with ⟨rfl, h0⟩ | ⟨g, cap, cur, rfl, hg, hh, hcap, hcm, hsz, htake⟩
  · exact ⟨none, 0, by rw [h0], ⟨rfl, hb, hn, .inl h0⟩, by omega, (fun _ => ⟨h0, rfl⟩)⟩
  · refine ⟨_, cap, rfl, ⟨rfl, hb, hn, .inr ⟨g, 0, rfl, fun j hj => ?_⟩⟩, hcap, (fun h => by cases h)⟩
    rw [Nat.mul_one] at htake
    have e := congrArg (fun t => t[j]?) htake
    simp only [List.getElem?_take, if_pos hj, cs, List.getElem?_map, List.getElem?_eq_getElem hj] at e
    simp only [World.cell?, hh, Nat.zero_add]
    rw [List.getD_eq_getElem?_getD, List.getElem?_eq_getElem hj]
    simpa using e
theorem Mine.stay {base : Nat} {w w' : World} {v : Value} {zs : List Int} {F : Nat → Prop} (h : Mine base w v zs) (hm : Mod F w w') (hF : ∀ k, v.ownBlock = some k → ¬ F k) : Mine base w' v zs := by
  refine ⟨⟨h.1.1, ?_⟩, h.2⟩
  rcases h.1.2 with h0 | ⟨g, cap, cur, rfl, hb, hg, r⟩
  · exact .inl h0
  · exact .inr ⟨g, cap, cur, rfl, hb, hm.has (b := g) hg (hF g rfl), r⟩
theorem Mine.obj {base : Nat} {w : World} {v : Value} {zs : List Int} (h : Mine base w v zs) {k : Nat} (hk : v.ownBlock = some k) : ∃ cur, Has w k cur 5 ∧ base ≤ k := by
  rcases h.1.2 with ⟨rfl, _⟩ | ⟨g, cap, cur, rfl, hb, hg, r⟩
  · cases hk
  · cases hk; exact ⟨cur, hg, hb⟩
/-- bytes are appended to bytes of one's own -/
theorem app_bytes {base : Nat} {w : World} {v : Value} {xs ys : List Int} {ad : Addr} {m c : Nat} (h : Mine base w v xs) (hr : Row w (some ad) m ys) (hm : 0 < m ∨ v.ownBlock ≠ none) (hl : xs.length + ys.length ≤ 140737488355328) (hb : base ≤ w.heap.size) :
    ∃ v' w', (Builtin.append_ #[38, 38] 38 #[v, .slice (some ad) m c]).run Try.prog w = .ok v' w' ∧ Mine base w' v' (xs ++ ys) ∧ w.grownBy w' v.ownBlock ∧ (v'.ownBlock = v.ownBlock ∨ v'.ownBlock = some w.heap.size) := by
  have hml : ys.length = m := hr.1
  obtain ⟨v', w', h1, h2, h3, h4⟩ := Ba.append_at (P := Try.prog) (t := 38) (ty := 38) (c := c) Try.underlying38 info5 rfl (by decide) h.1 (m := m) (by rw [cs_len, hml, Nat.mul_one]) hr.news (cs_one ys) hm (by unfold maxLen; omega) (by omega) hb
  refine ⟨v', w', h1, ⟨?_, h.2.1.append hr.2.1, by rw [List.length_append]; omega⟩, h3, h4⟩
  rw [cs_append, List.length_append, hml]
  exact h2
theorem clone {w : World} {b off len cap : Nat} {zs : List Int} (h : Row w (some ⟨b, off, none⟩) len zs) (hn : 0 < len) : Calls Try.prog 45 #[.slice (some ⟨b, off, none⟩) len cap] w fun e w' => ∃ v, e = .returned v ∧ Mine w.heap.size w' v zs ∧ Below w.heap.size w w' := by
  have hnil : ∀ w, (binOp .eql 38 (.slice (some ⟨b, off, none⟩) len cap) (.slice none 0 0)).run Try.prog w = .ok (.bool false) w := fun w => Lib.run_eql_slice_nil w 38 5 _ len cap 0 0 Try.underlying38
  have hB : Below w.heap.size w (w.alloc (.cells #[] 5)) := (Below.refl _ w).alloc (Nat.le_refl _) _
  have hM : Mine w.heap.size (w.alloc (.cells #[] 5)) (.slice (some ⟨w.heap.size, 0, none⟩) 0 0) [] :=
    ⟨⟨rfl, .inr ⟨w.heap.size, 0, #[], rfl, Nat.le_refl _, heap_alloc_new w _, Nat.le_refl _, by decide, rfl, rfl⟩⟩, Bytes.nil, by decide⟩
  obtain ⟨v3, w3, hrun, m3, g3, _⟩ := app_bytes (c := cap) hM (h.later hB) (.inl hn) (by rw [h.1]; have := h.2.2.1; simpa using this) hB.size
  have HB3 := hidden (hB.grown g3 hB.size (fun j hj => (hM.1.lt j hj).1))
  have HM3 := hidden m3
  have HR := hidden hrun
  clear hM hB hrun m3 g3 h
  go_enter Try.func45, Try.ntmps45
  go_wp2_with (at_builtin; refine Rg.wpList_app rfl _ _ _ rfl rfl rfl HR.out ?_; clear HR)
  go_wp2
  go_ret
  exact ⟨_, rfl, HM3.out, HB3.out⟩


section
variable {D F : Nat → Prop} {w w' : World} {t f : Nat} {rv : Value} {P : List CV} {nx : Int} {n : Nat} {L : List Ch} {fs : Nat → Int} {m : Int} {i g o : Nat} {x y : Ch}
theorem unmade (h : No D w t f rv P nx n L fs m) : Calls Try.prog 40 #[.pointer (some ⟨t, 0, none⟩)] w fun e w' => e = .returned (.bool false) ∧ w = w' := by
  have c2 := h.q.cell 2 rfl
  have hN := fun w => Lib.run_eql_slice_nil (P := Try.prog) w 78 3 (some ⟨f, 0, none⟩) n n 0 0 Try.underlying78
  clear h
  go_enter Try.func40, Try.ntmps40
  go_wp2
  go_ret
  exact ⟨rfl, rfl⟩
/-- no box -/
def Un (w : World) (p : Option Addr) : Prop := p = none ∨ ∃ t, p = some ⟨t, 0, none⟩ ∧ w.cell? ⟨t, 2, none⟩ = some (.slice none 0 0)
theorem Un.later {p : Option Addr} (h : Un w p) (hB : Below w.heap.size w w') : Un w' p := by
  rcases h with rfl | ⟨t, rfl, hc⟩
  · exact .inl rfl
  · exact .inr ⟨t, rfl, (hB.cell (p := ⟨t, 2, none⟩) (cell_lt hc)).trans hc⟩
theorem unmade_no {p : Option Addr} (h : Un w p) : Calls Try.prog 40 #[.pointer p] w fun e w' => e = .returned (.bool true) ∧ w = w' := by
  rcases h with rfl | ⟨t, rfl, c0⟩
  · go_enter Try.func40, Try.ntmps40
    go_wp2
    go_ret
    exact ⟨rfl, rfl⟩
  · have hN := fun w => Lib.run_eql_slice_nil (P := Try.prog) w 78 3 none 0 0 0 0 Try.underlying78
    go_enter Try.func40, Try.ntmps40
    go_wp2
    go_ret
    exact ⟨rfl, rfl⟩
theorem has (h : No D w t f rv P nx n L fs m) (s : Int) : Calls Try.prog 43 #[.pointer (some ⟨t, 0, none⟩), .int .i64 s] w fun e w' => e = .returned (.bool (decide (0 ≤ s ∧ s < (n : Int)))) ∧ w = w' := by
  have c2 := h.q.cell 2 rfl
  clear h
  by_cases h0 : 0 ≤ s
  · by_cases h1 : s < (n : Int)
    · rw [decide_eq_true (⟨h0, h1⟩ : 0 ≤ s ∧ s < (n : Int))]
      go_enter Try.func43, Try.ntmps43
      go_wp2
      go_ret
      exact ⟨by simp, rfl⟩
    · rw [decide_eq_false (fun h : 0 ≤ s ∧ s < (n : Int) => h1 h.2)]
      go_enter Try.func43, Try.ntmps43
      go_wp2
      go_ret
      exact ⟨by simp <;> omega, rfl⟩
  · rw [decide_eq_false (fun h : 0 ≤ s ∧ s < (n : Int) => h0 h.1)]
    go_enter Try.func43, Try.ntmps43
    go_wp2
    go_ret
    exact ⟨rfl, rfl⟩
theorem isTime (s : Int) (w : World) : Calls Try.prog 44 #[.int .i64 s] w fun e w' => e = .returned (.bool (decide (0 ≤ s ∧ s ≤ 1099511627776))) ∧ w = w' := by
  by_cases h0 : 0 ≤ s
  · by_cases h1 : s ≤ 1099511627776
    · rw [decide_eq_true (⟨h0, h1⟩ : 0 ≤ s ∧ s ≤ 1099511627776)]
      go_enter Try.func44, Try.ntmps44
      go_wp2
      go_ret
      exact ⟨by simp, rfl⟩
    · rw [decide_eq_false (fun h : 0 ≤ s ∧ s ≤ 1099511627776 => h1 h.2)]
      go_enter Try.func44, Try.ntmps44
      go_wp2
      go_ret
      exact ⟨by simp <;> omega, rfl⟩
  · rw [decide_eq_false (fun h : 0 ≤ s ∧ s ≤ 1099511627776 => h0 h.1)]
    go_enter Try.func44, Try.ntmps44
    go_wp2
    go_ret
    exact ⟨rfl, rfl⟩
theorem size (h : No D w t f rv P nx n L fs m) (hp : Pl rv i g o) (hi : L[i]? = some x) : Calls Try.prog 89 #[.pointer (some ⟨g, o, none⟩)] w fun e w' => e = .returned (.int .i64 (sz x)) ∧ w = w' := by
  obtain ⟨v, hc, hb, _⟩ := h.chunk hp hi
  obtain ⟨g1, o1, cap1, rfl, _⟩ := hb.row
  have c11 := hc 11 _ rfl
  unfold sz
  simp only at c11
  generalize x.p.d.length = z at c11 ⊢
  clear h hp hi hc hb
  go_enter Try.func89, Try.ntmps89
  go_wp2
  go_ret
  exact ⟨rfl, rfl⟩
theorem open_ (h : No D w t f rv P nx n L fs m) (hp : Pl rv i g o) (hi : L[i]? = some x) : Calls Try.prog 80 #[.pointer (some ⟨g, o, none⟩)] w fun e w' => e = .returned (.bool (opn x)) ∧ w = w' := by
  obtain ⟨v, hc, hb, _⟩ := h.chunk hp hi
  have c6 := hc 6 _ rfl
  unfold opn
  simp only at c6
  generalize x.st = z at c6 ⊢
  clear h hp hi hc hb
  by_cases h1 : z = 1
  · subst h1
    go_enter Try.func80, Try.ntmps80
    go_wp2
    go_ret
    exact ⟨rfl, rfl⟩
  · have hz : (z == 1) = false := by simp [h1]
    go_enter Try.func80, Try.ntmps80
    go_wp2
    go_ret
    exact ⟨by simp [h1]; rfl, rfl⟩
theorem flies (h : No D w t f rv P nx n L fs m) (hp : Pl rv i g o) (hi : L[i]? = some x) (s : Int) : Calls Try.prog 60 #[.pointer (some ⟨g, o, none⟩), .int .i64 s] w fun e w' => e = .returned (.bool (decide (x.st = 1 ∧ x.pa = s))) ∧ w = w' := by
  obtain ⟨v, hc, hb, _⟩ := h.chunk hp hi
  have c6 := hc 6 _ rfl
  have c1 := hc 1 _ rfl
  simp only at c6 c1
  generalize x.st = z at c6 ⊢
  generalize x.pa = y at c1 ⊢
  clear h hp hi hc hb
  by_cases h1 : z = 1
  · subst h1
    by_cases h2 : y = s
    · subst h2
      go_enter Try.func60, Try.ntmps60
      go_wp2
      go_ret
      exact ⟨by simp, rfl⟩
    · have hz : (y == s) = false := by simp [h2]
      go_enter Try.func60, Try.ntmps60
      go_wp2
      go_ret
      exact ⟨by simp [h2], rfl⟩
  · have hz : (z == 1) = false := by simp [h1]
    go_enter Try.func60, Try.ntmps60
    go_wp2
    go_ret
    exact ⟨by simp [h1], rfl⟩
def zO : Array Value := #[.int .u32 0, .int .i64 0, .int .i64 0, .int .i64 0, .int .i64 0, .bool false, .int .i64 0, .int .u16 0, .int .u16 0, .int .u32 0, .bool false, .slice none 0 0, .bool false, .bool false]
theorem cells14 {w : World} {b : Nat} {v0 v1 v2 v3 v4 v5 v6 v7 v8 v9 v10 v11 v12 v13 : Value} {t : TypeId} (h : Has w b #[v0, v1, v2, v3, v4, v5, v6, v7, v8, v9, v10, v11, v12, v13] t) :
    w.cell? ⟨b, 0, none⟩ = some v0 ∧ w.cell? ⟨b, 1, none⟩ = some v1 ∧ w.cell? ⟨b, 2, none⟩ = some v2 ∧ w.cell? ⟨b, 3, none⟩ = some v3 ∧ w.cell? ⟨b, 4, none⟩ = some v4 ∧ w.cell? ⟨b, 5, none⟩ = some v5 ∧ w.cell? ⟨b, 6, none⟩ = some v6 ∧ w.cell? ⟨b, 7, none⟩ = some v7 ∧ w.cell? ⟨b, 8, none⟩ = some v8 ∧ w.cell? ⟨b, 9, none⟩ = some v9 ∧ w.cell? ⟨b, 10, none⟩ = some v10 ∧ w.cell? ⟨b, 11, none⟩ = some v11 ∧ w.cell? ⟨b, 12, none⟩ = some v12 ∧ w.cell? ⟨b, 13, none⟩ = some v13 :=
  ⟨h.cell 0 rfl, h.cell 1 rfl, h.cell 2 rfl, h.cell 3 rfl, h.cell 4 rfl, h.cell 5 rfl, h.cell 6 rfl, h.cell 7 rfl, h.cell 8 rfl, h.cell 9 rfl, h.cell 10 rfl, h.cell 11 rfl, h.cell 12 rfl, h.cell 13 rfl⟩
theorem Mod.set {F : Nat → Prop} {w w1 : World} (h : Mod F w w1) {p : Addr} (hp : F p.block) (u : Value) : Mod F w (w1.setCell p u) := h.trans (Mod.setCell w1 hp u) (fun _ hx => .inl hx)
/-- a struct of fourteen cells is stored -/
theorem set14 {w : World} {b : Nat} {u0 u1 u2 u3 u4 u5 u6 u7 u8 u9 u10 u11 u12 u13 v0 v1 v2 v3 v4 v5 v6 v7 v8 v9 v10 v11 v12 v13 : Value} {t : TypeId} (h : Has w b #[u0, u1, u2, u3, u4, u5, u6, u7, u8, u9, u10, u11, u12, u13] t) :
    Has ((((((((((((((w.setCell ⟨b, 0, none⟩ v0).setCell ⟨b, 1, none⟩ v1).setCell ⟨b, 2, none⟩ v2).setCell ⟨b, 3, none⟩ v3).setCell ⟨b, 4, none⟩ v4).setCell ⟨b, 5, none⟩ v5).setCell ⟨b, 6, none⟩ v6).setCell ⟨b, 7, none⟩ v7).setCell ⟨b, 8, none⟩ v8).setCell ⟨b, 9, none⟩ v9).setCell ⟨b, 10, none⟩ v10).setCell ⟨b, 11, none⟩ v11).setCell ⟨b, 12, none⟩ v12).setCell ⟨b, 13, none⟩ v13) b #[v0, v1, v2, v3, v4, v5, v6, v7, v8, v9, v10, v11, v12, v13] t ∧ Mod (fun k => k = b) w ((((((((((((((w.setCell ⟨b, 0, none⟩ v0).setCell ⟨b, 1, none⟩ v1).setCell ⟨b, 2, none⟩ v2).setCell ⟨b, 3, none⟩ v3).setCell ⟨b, 4, none⟩ v4).setCell ⟨b, 5, none⟩ v5).setCell ⟨b, 6, none⟩ v6).setCell ⟨b, 7, none⟩ v7).setCell ⟨b, 8, none⟩ v8).setCell ⟨b, 9, none⟩ v9).setCell ⟨b, 10, none⟩ v10).setCell ⟨b, 11, none⟩ v11).setCell ⟨b, 12, none⟩ v12).setCell ⟨b, 13, none⟩ v13) :=
  ⟨by
    have hh := ((((((((((((((h.set 0 v0).set 1 v1).set 2 v2).set 3 v3).set 4 v4).set 5 v5).set 6 v6).set 7 v7).set 8 v8).set 9 v9).set 10 v10).set 11 v11).set 12 v12).set 13 v13)
    simp only [List.setIfInBounds_toArray, List.set_cons_zero, List.set_cons_succ] at hh
    exact hh, (((((((((((((((Mod.refl (fun k => k = b) w).set (p := ⟨b, 0, none⟩) rfl v0).set (p := ⟨b, 1, none⟩) rfl v1).set (p := ⟨b, 2, none⟩) rfl v2).set (p := ⟨b, 3, none⟩) rfl v3).set (p := ⟨b, 4, none⟩) rfl v4).set (p := ⟨b, 5, none⟩) rfl v5).set (p := ⟨b, 6, none⟩) rfl v6).set (p := ⟨b, 7, none⟩) rfl v7).set (p := ⟨b, 8, none⟩) rfl v8).set (p := ⟨b, 9, none⟩) rfl v9).set (p := ⟨b, 10, none⟩) rfl v10).set (p := ⟨b, 11, none⟩) rfl v11).set (p := ⟨b, 12, none⟩) rfl v12).set (p := ⟨b, 13, none⟩) rfl v13)⟩
/-- a chunk as a value -/
def ov (x : Ch) (v : Value) : Value := .agg #[.int .u32 x.ts, .int .i64 x.pa, .int .i64 x.ti, .int .i64 x.se, .int .i64 x.mi, .bool x.qu, .int .i64 x.st, .int .u16 x.p.sm, .int .u16 x.p.sn, .int .u32 x.p.pr, .bool x.p.un, v, .bool x.p.bg, .bool x.p.en]
set_option maxHeartbeats 1000000 in
theorem told (h : No D w t f rv P nx n L fs m) (hp : Pl rv i g o) (hi : L[i]? = some x) (hd : 1 ≤ x.p.d.length) : Calls Try.prog 42 #[.pointer (some ⟨g, o, none⟩)] w fun e w' => ∃ v, e = .returned (ov x v) ∧ Mine w.heap.size w' v x.p.d ∧ Below w.heap.size w w' := by
  obtain ⟨v, hc, hb, hg, _⟩ := h.chunk hp hi
  obtain ⟨g1, o1, cap1, rfl, _, hg1, _, _, hr⟩ := hb.row
  obtain ⟨ts, pa, ti, se, mi, qu, st, ⟨sm, sn, pr, un, d, bg, en⟩⟩ := x
  obtain ⟨c0, c1, c2, c3, c4, c5, c6, c7, c8, c9, c10, c11, c12, c13⟩ := hc.all
  simp only at hd hr ⊢
  have HR := hidden hr
  have HD := hidden hd
  generalize hz : d.length = z at c11 HD HR
  clear h hp hi hc hb hr hd
  go_enter Try.func42, Try.ntmps42
  go_wp2_with fail
  obtain ⟨W1, hW1⟩ : ∃ W1, W1 = (w.alloc (.cells zO 59)).alloc (.cells #[.int .u32 ts, .int .i64 pa, .int .i64 ti, .int .i64 se, .int .i64 mi, .bool qu, .int .i64 st, .int .u16 sm, .int .u16 sn, .int .u32 pr, .bool un, .slice (some ⟨g1, o1, none⟩) z cap1, .bool bg, .bool en] 59) := ⟨_, rfl⟩
  have hO : Own w W1 [(w.heap.size + 1, #[.int .u32 ts, .int .i64 pa, .int .i64 ti, .int .i64 se, .int .i64 mi, .bool qu, .int .i64 st, .int .u16 sm, .int .u16 sn, .int .u32 pr, .bool un, .slice (some ⟨g1, o1, none⟩) z cap1, .bool bg, .bool en], 59), (w.heap.size, zO, 59)] := by
    have := ((Own.refl w).alloc zO 59).alloc #[.int .u32 ts, .int .i64 pa, .int .i64 ti, .int .i64 se, .int .i64 mi, .bool qu, .int .i64 st, .int .u16 sm, .int .u16 sn, .int .u32 pr, .bool un, .slice (some ⟨g1, o1, none⟩) z cap1, .bool bg, .bool en] 59
    rw [World.size_alloc] at this
    rw [hW1]
    exact this
  unfold zO at hW1
  rw [← hW1]
  have HO := hidden hO
  clear hW1 hO c0 c1 c2 c3 c4 c5 c6 c7 c8 c9 c10 c11 c12 c13
  refine Calls.mono (clone (cap := cap1) (HR.out.later (HO.out.below)) HD.out) ?_
  rintro e w2 ⟨v', rfl, hm, hB⟩
  have hO2 := HO.out.later hB
  obtain ⟨a2, cap2, hv', _⟩ := hm.row
  rw [hz] at hv'
  subst hv'
  have HM : Hid (Mine w.heap.size w2 (.slice a2 z cap2) d) := ⟨Ba.own_mono hm.1 (fun k hk => by obtain ⟨cur, _, h2⟩ := hm.obj hk; have := HO.out.below.size; omega), hm.2⟩
  have HNE : Hid (∀ k, (Value.slice a2 z cap2).ownBlock = some k → W1.heap.size ≤ k) := fun k hk => by obtain ⟨cur, _, h2⟩ := hm.obj hk; exact h2
  have HLT := hidden (And.intro (HO.out.lt (List.mem_cons_self ..)) (HO.out.lt (List.mem_cons_of_mem _ (List.mem_cons_self ..))))
  have HO2 := hidden hO2
  have hlt1 : w.heap.size + 1 < w2.heap.size := hO2.lt (List.mem_cons_self ..)
  obtain ⟨e0, e1, e2, e3, e4, e5, e6, e7, e8, e9, e10, e11, e12, e13⟩ := cells14 (hO2.has (List.mem_cons_self ..))
  obtain ⟨z0, z1, z2, z3, z4, z5, z6, z7, z8, z9, z10, z11, z12, z13⟩ := cells14 (hO2.has (List.mem_cons_of_mem _ (List.mem_cons_self ..)))
  have fr1 := (hO2.has (List.mem_cons_self ..)).frozen
  have fr2 := (hO2.has (List.mem_cons_of_mem _ (List.mem_cons_self ..))).frozen
  clear hz
  clear hm hB hO2
  go_wp2
  have hO3 := HO2.out.set 11 (.slice a2 z cap2) (fun x hx => by simp at hx; subst hx; simp)
  obtain ⟨k1, k2⟩ := set14 (v0 := .int .u32 ts) (v1 := .int .i64 pa) (v2 := .int .i64 ti) (v3 := .int .i64 se) (v4 := .int .i64 mi) (v5 := .bool qu) (v6 := .int .i64 st) (v7 := .int .u16 sm) (v8 := .int .u16 sn) (v9 := .int .u32 pr) (v10 := .bool un) (v11 := .slice a2 z cap2) (v12 := .bool bg) (v13 := .bool en) (hO3.has (b := w.heap.size) (List.mem_cons_of_mem _ (List.mem_cons_self ..)))
  refine bodyPost_ret (results_cell_row rfl _ _ w.heap.size 59 #[.int .u32 ts, .int .i64 pa, .int .i64 ti, .int .i64 se, .int .i64 mi, .bool qu, .int .i64 st, .int .u16 sm, .int .u16 sn, .int .u32 pr, .bool un, .slice a2 z cap2, .bool bg, .bool en] (0, 0) _ rfl k1 Try.underlying59 rfl (by kernel_rfl)) rfl ⟨_, rfl, ?_, ?_⟩
  · refine (HM.out.stay (F := fun k => k = w.heap.size + 1) (Mod.setCell (F := fun k => k = w.heap.size + 1) w2 (p := ⟨w.heap.size + 1, 11, none⟩) rfl _) (fun k hk e => ?_)).stay k2 (fun k hk e => ?_)
    · have := HNE.out k hk; have := HLT.out.1; omega
    · have := HNE.out k hk; have := HLT.out.2; omega
  · exact hO3.below.trans (k2.below hO3.below.size (fun k hk => by omega))
end
end Go.Proofs.Ytjceeckcfjjkkaa.Ob
