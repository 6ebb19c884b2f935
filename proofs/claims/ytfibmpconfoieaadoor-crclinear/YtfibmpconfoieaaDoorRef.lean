/-
  What the document's Put and Check return of a packet.
  Conditions: as at each contract.
-/
import Derived.Test.YtfibmpconfoieaaDoorPut
import Derived.Laws.BytesArg
namespace Go.Proofs.YtfibmpconfoieaaDoor.Crc
open Go.ChangeShapes Go.WideShapes Go.ChangeAt Go.RowKit
set_option linter.unusedVariables false

/-- a row whose numbers from place 8 up to place k are f's -/
def fill (f : Nat → Int) (k : Nat) (zs : List Int) : List Int := zs.take 8 ++ ((List.range (k - 8)).map f ++ zs.drop k)

theorem fill_start (f : Nat → Int) (zs : List Int) : fill f 8 zs = zs := by simp [fill]

theorem fill_len (f : Nat → Int) (k : Nat) (zs : List Int) (h8 : 8 ≤ k) (hk : k ≤ zs.length) : (fill f k zs).length = zs.length := by
  simp [fill]; omega

theorem fill_step (f : Nat → Int) (k : Nat) (zs : List Int) (h8 : 8 ≤ k) (hk : k < zs.length) : (fill f k zs).set k (f (k - 8)) = fill f (k + 1) zs := by
  have e1 : zs.drop k = zs[k] :: zs.drop (k + 1) := List.drop_eq_getElem_cons hk
  have e2 : k + 1 - 8 = (k - 8) + 1 := by omega
  unfold fill
  rw [e1, e2, List.range_succ, List.map_append, ← List.append_assoc, List.set_append_right _ _ (by simp; omega)]
  have e3 : k - (zs.take 8 ++ (List.range (k - 8)).map f).length = 0 := by simp; omega
  rw [e3, List.set_cons_zero]
  simp only [List.map_cons, List.map_nil, List.append_assoc, List.cons_append, List.nil_append]

theorem fill_zed (zs : List Int) : fill (fun _ => 0) 12 zs = zed zs := by
  simp [fill, zed, List.range_succ]

theorem zed_take (zs : List Int) (h : 12 ≤ zs.length) : (zed zs).take 8 = zs.take 8 := by
  unfold zed
  rw [List.take_append_of_le_length (by simp; omega), List.take_of_length_le (by simp; omega)]

theorem zed_drop (zs : List Int) (h : 12 ≤ zs.length) : (zed zs).drop 12 = zs.drop 12 := by
  unfold zed
  rw [← List.append_assoc, List.drop_append_of_le_length (by simp; omega), List.drop_of_length_le (by simp; omega)]
  rfl

theorem zed_len (zs : List Int) (h : 12 ≤ zs.length) : (zed zs).length = zs.length := by simp [zed]; omega

theorem fill_put (zs : List Int) (h : 12 ≤ zs.length) (s : Nat) (hs : sum (zed zs) = s) (hlt : s < 4294967296) : fill (fun j => ((s / 256 ^ j % 256 : Nat) : Int)) 12 (zed zs) = putOf zs := by
  unfold fill putOf
  rw [zed_take zs h, zed_drop zs h, hs]
  have e : (List.range (12 - 8)).map (fun j => ((s / 256 ^ j % 256 : Nat) : Int)) = b4 s := by
    simp [List.range_succ, b4]
    omega
  rw [e]

theorem rput_brief (a : Option Addr) (len cap : Nat) (w : World) (h : len < 12) :
    Calls Tryd.prog 15 #[.slice a len cap] w fun e w' => e = .returned (.tuple #[.slice none 0 0, .int .i64 20]) ∧ w = w' := by
  go_enter Tryd.func15, Tryd.ntmps15
  go_wp2
  go_ret2
  exact ⟨rfl, rfl⟩

theorem rput (b off len cap : Nat) (zs : List Int) (w : World) (h : Row w (some ⟨b, off, none⟩) len zs) (h12 : 12 ≤ len) (hbig : len ≤ 140737488351232) :
    Calls Tryd.prog 15 #[.slice (some ⟨b, off, none⟩) len cap] w fun e w' => ∃ v, e = .returned (.tuple #[v, .int .i64 0]) ∧ w'.ownsRow w.heap.size 5 1 v len ((putOf zs).map (Value.int .u8)) ∧ Below w.heap.size w w' := by
  obtain ⟨i0, hi, hz0, hz1, hz2⟩ := info_parts info5
  have hown0 : (w.alloc (.cells #[] 5)).ownsRow w.heap.size 5 1 (.slice (some ⟨w.heap.size, 0, none⟩) 0 0) 0 [] := World.ownsRow_lit w #[] 0 (Nat.le_refl _) (Nat.zero_le _) rfl
  have hb0 : Below w.heap.size w (w.alloc (.cells #[] 5)) := (Below.refl _ _).alloc (Nat.le_refl _) _
  have hr1 := h.later hb0
  obtain ⟨hl, hb, hlim, hor⟩ := hr1
  obtain ⟨_, _, he, hc⟩ := hor.resolve_left (by omega)
  cases he
  have hnews := news hl hc
  go_enter Tryd.func15, Tryd.ntmps15
  go_wp2_with (first | (at_builtin; refine wpList_append_own _ rfl (.tmp 11) _ 22 rfl w.heap.size 5 i0 (.int .u8 0) 1 1 Tryd.underlying22 hi hz0 hz1 hz2 rfl (by decide) _ _ _ rfl hown0 ⟨b, off, none⟩ len cap (zs.map (Value.int .u8)) rfl ?c0 hnews (one_cell zs) ?c3 ?c4 (by simp) ?_) | go_in)
  case c0 => simp; omega
  case c3 => unfold maxLen; omega
  case c4 => omega
  intro v' w1 hown1 hgrow _
  have hb1 : Below w.heap.size w w1 := hb0.grown hgrow (by simp) (fun q hq => by cases hq; exact Nat.le_refl _)
  obtain ⟨g, gc, rfl, hge⟩ : ∃ g gc, v' = .slice (some ⟨g, 0, none⟩) len gc ∧ w.heap.size ≤ g := by
    rcases hown1.2 with ⟨_, h0⟩ | ⟨g, gc, _, hv, hge, _⟩
    · omega
    · exact ⟨g, gc, by simpa using hv, hge⟩
  try simp only [Nat.zero_add, List.nil_append] at hown1
  clear hgrow hnews hc hor hown0 hb0 h
  go_wp2
  go_loopw [5] (fun i wr => ∃ k : Nat, 8 ≤ k ∧ k ≤ 12 ∧ i = .int .i64 k ∧ wr.ownsRow w.heap.size 5 1 (.slice (some ⟨g, 0, none⟩) len gc) len ((fill (fun _ => 0) k zs).map (Value.int .u8)) ∧ Below w.heap.size w wr)
    (fun i _ => 12 - (intOf i).toNat)
  case atStart => exact ⟨8, Nat.le_refl _, by decide, rfl, by rw [fill_start]; exact hown1, hb1⟩
  case round =>
    obtain ⟨k, h8, hk, rfl, hown, hbel⟩ := hrel
    rcases Nat.lt_or_ge k 12 with hlt | hge'
    · have hcell := hown.cellAt k (by omega)
      rw [List.getElem?_map, List.getElem?_eq_getElem (by rw [fill_len _ _ _ h8 (by omega)]; omega), Option.map_some] at hcell
      generalize (fill (fun _ => 0) k zs)[k]'_ = x at hcell
      have hfr := hown.frozenAt k
      have hst := hown.stored k (.int .u8 0)
      rw [← List.map_set, fill_step (fun _ => 0) k zs h8 (by omega)] at hst
      have HS : Hid _ := hst
      have hkl : (k : Int) < (len : Int) := by omega
      clear hst hown
      go_wp2
      go_roundw
      case rel => exact ⟨k + 1, by omega, by omega, by go_num, HS.out.1, hbel.grown HS.out.2 hbel.size (fun q hq => by cases hq; exact hge)⟩
      case measure => simp [intOf]; omega
    · have hge' : k = 12 := by omega
      subst hge'
      rw [fill_zed] at hown
      have hzl := zed_len zs (by omega)
      have hzb := zed_bytes hb
      obtain ⟨_, _, he, hrow, _⟩ := row_own hown hzb (by omega)
      cases he
      go_wp2_with fail
      refine (rsum _ len gc _ wr hrow).mono ?_
      rintro e w' ⟨rfl, rfl⟩
      have hslt := sum_lt (zed zs) hzb
      have hput := fill_put zs (by omega) _ rfl hslt
      have HP : Hid _ := hput
      generalize sum (zed zs) = s at *
      go_wp2
      go_loopw [7] (fun i wr2 => ∃ k : Nat, 8 ≤ k ∧ k ≤ 12 ∧ i = .int .i64 k ∧ wr2.ownsRow w.heap.size 5 1 (.slice (some ⟨g, 0, none⟩) len gc) len ((fill (fun j => ((s / 256 ^ j % 256 : Nat) : Int)) k (zed zs)).map (Value.int .u8)) ∧ Below w.heap.size w wr2)
        (fun i _ => 12 - (intOf i).toNat)
      case atStart => exact ⟨8, Nat.le_refl _, by decide, rfl, by rw [fill_start]; exact hown, hbel⟩
      case round =>
        obtain ⟨k, h8, hk, rfl, hown, hbel⟩ := hrel
        obtain rfl | rfl | rfl | rfl | rfl : k = 8 ∨ k = 9 ∨ k = 10 ∨ k = 11 ∨ k = 12 := by omega
        · have hcell := hown.cellAt 8 (by omega)
          rw [List.getElem?_map, List.getElem?_eq_getElem (by rw [fill_len _ _ _ h8 (by omega)]; omega), Option.map_some] at hcell
          generalize (fill (fun j => ((s / 256 ^ j % 256 : Nat) : Int)) 8 (zed zs))[8]'_ = x at hcell
          have hfr := hown.frozenAt 8
          have hst := hown.stored 8 (.int .u8 ((s : Int) % 256))
          have hf : (fill (fun j => ((s / 256 ^ j % 256 : Nat) : Int)) 8 (zed zs)).set 8 ((s : Int) % 256) = fill (fun j => ((s / 256 ^ j % 256 : Nat) : Int)) 9 (zed zs) := by
            rw [show ((s : Int) % 256 : Int) = (fun j => ((s / 256 ^ j % 256 : Nat) : Int)) (8 - 8) from by simp; try omega]
            exact fill_step _ 8 (zed zs) h8 (by omega)
          rw [← List.map_set, hf] at hst
          have HS : Hid _ := hst
          have hkl : (8 : Int) < (len : Int) := by omega
          clear hst hown hf
          go_wp2
          go_roundw
          case rel => exact ⟨9, by omega, by omega, rfl, HS.out.1, hbel.grown HS.out.2 hbel.size (fun q hq => by cases hq; exact hge)⟩
          case measure => simp [intOf]
        · have hcell := hown.cellAt 9 (by omega)
          rw [List.getElem?_map, List.getElem?_eq_getElem (by rw [fill_len _ _ _ h8 (by omega)]; omega), Option.map_some] at hcell
          generalize (fill (fun j => ((s / 256 ^ j % 256 : Nat) : Int)) 9 (zed zs))[9]'_ = x at hcell
          have hfr := hown.frozenAt 9
          have hst := hown.stored 9 (.int .u8 ((s : Int) / 256 % 256))
          have hf : (fill (fun j => ((s / 256 ^ j % 256 : Nat) : Int)) 9 (zed zs)).set 9 ((s : Int) / 256 % 256) = fill (fun j => ((s / 256 ^ j % 256 : Nat) : Int)) 10 (zed zs) := by
            rw [show ((s : Int) / 256 % 256 : Int) = (fun j => ((s / 256 ^ j % 256 : Nat) : Int)) (9 - 8) from by simp; try omega]
            exact fill_step _ 9 (zed zs) h8 (by omega)
          rw [← List.map_set, hf] at hst
          have HS : Hid _ := hst
          have hkl : (9 : Int) < (len : Int) := by omega
          clear hst hown hf
          go_wp2
          go_roundw
          case rel => exact ⟨10, by omega, by omega, rfl, HS.out.1, hbel.grown HS.out.2 hbel.size (fun q hq => by cases hq; exact hge)⟩
          case measure => simp [intOf]
        · have hcell := hown.cellAt 10 (by omega)
          rw [List.getElem?_map, List.getElem?_eq_getElem (by rw [fill_len _ _ _ h8 (by omega)]; omega), Option.map_some] at hcell
          generalize (fill (fun j => ((s / 256 ^ j % 256 : Nat) : Int)) 10 (zed zs))[10]'_ = x at hcell
          have hfr := hown.frozenAt 10
          have hst := hown.stored 10 (.int .u8 ((s : Int) / 65536 % 256))
          have hf : (fill (fun j => ((s / 256 ^ j % 256 : Nat) : Int)) 10 (zed zs)).set 10 ((s : Int) / 65536 % 256) = fill (fun j => ((s / 256 ^ j % 256 : Nat) : Int)) 11 (zed zs) := by
            rw [show ((s : Int) / 65536 % 256 : Int) = (fun j => ((s / 256 ^ j % 256 : Nat) : Int)) (10 - 8) from by simp; try omega]
            exact fill_step _ 10 (zed zs) h8 (by omega)
          rw [← List.map_set, hf] at hst
          have HS : Hid _ := hst
          have hkl : (10 : Int) < (len : Int) := by omega
          clear hst hown hf
          go_wp2
          go_roundw
          case rel => exact ⟨11, by omega, by omega, rfl, HS.out.1, hbel.grown HS.out.2 hbel.size (fun q hq => by cases hq; exact hge)⟩
          case measure => simp [intOf]
        · have hcell := hown.cellAt 11 (by omega)
          rw [List.getElem?_map, List.getElem?_eq_getElem (by rw [fill_len _ _ _ h8 (by omega)]; omega), Option.map_some] at hcell
          generalize (fill (fun j => ((s / 256 ^ j % 256 : Nat) : Int)) 11 (zed zs))[11]'_ = x at hcell
          have hfr := hown.frozenAt 11
          have hst := hown.stored 11 (.int .u8 ((s : Int) / 16777216))
          have hf : (fill (fun j => ((s / 256 ^ j % 256 : Nat) : Int)) 11 (zed zs)).set 11 ((s : Int) / 16777216) = fill (fun j => ((s / 256 ^ j % 256 : Nat) : Int)) 12 (zed zs) := by
            rw [show ((s : Int) / 16777216 : Int) = (fun j => ((s / 256 ^ j % 256 : Nat) : Int)) (11 - 8) from by simp; try omega]
            exact fill_step _ 11 (zed zs) h8 (by omega)
          rw [← List.map_set, hf] at hst
          have HS : Hid _ := hst
          have hkl : (11 : Int) < (len : Int) := by omega
          clear hst hown hf
          go_wp2
          go_roundw
          case rel => exact ⟨12, by omega, by omega, rfl, HS.out.1, hbel.grown HS.out.2 hbel.size (fun q hq => by cases hq; exact hge)⟩
          case measure => simp [intOf]
        · rw [HP.out] at hown
          go_wp2
          go_ret2
          exact ⟨_, rfl, hown, hbel⟩

/-- the text of a row's bytes -/
theorem text {w : World} {a : Option Addr} {len cap : Nat} {zs : List Int} (h : Row w a len zs) (hn : a = none → len = 0) :
    Sem.run Tryd.prog (convert 22 9 (.slice a len cap)) w = .ok (.string (strOfNums zs)) w := by
  obtain ⟨hl, hb, _, hor⟩ := h
  rcases hor with rfl | ⟨b, off, rfl, hc⟩
  · obtain rfl := List.eq_nil_of_length_eq_zero hl
    cases a with
    | none => exact run_convert_bytes_nil w 22 5 Tryd.underlying22 Tryd.underlying5 0 cap 9 Tryd.underlying9
    | some x =>
      have hl : (loadCells x 0).run Tryd.prog w = .ok #[] w := run_loadCells_list (P := Tryd.prog) w x [] (fun j v hj => by cases hj)
      rw [run_convert_bytes_string w 22 9 5 _ 0 cap Tryd.underlying22 Tryd.underlying5 Tryd.underlying9, run_bytesToString w x 0 cap [] hl]
      rfl
  · exact run_convert_bytes_arg w 22 5 Tryd.underlying22 Tryd.underlying5 b off len cap zs hl hc 9 Tryd.underlying9

theorem text_inj {xs ys : List Int} (hx : Bytes xs) (hy : Bytes ys) (h : strOfNums xs = strOfNums ys) : xs = ys := by
  have e := congrArg (fun t => t.data.toList) h
  simp only [strOfNums_data] at e
  have hl : xs.length = ys.length := by simpa using congrArg List.length e
  apply List.ext_getElem hl
  intro i h1 h2
  have e2 := congrArg (fun t => t[i]?) e
  simp only [List.getElem?_map, List.getElem?_eq_getElem h1, List.getElem?_eq_getElem h2, Option.map_some, Option.some.injEq] at e2
  have b1 := hx _ (List.getElem_mem h1)
  have b2 := hy _ (List.getElem_mem h2)
  have e3 := congrArg UInt8.toNat e2
  simp only [UInt8.toNat_ofNat'] at e3
  omega

theorem text_ne {p q : ByteArray} (h : ¬ p = q) : (p.toList == q.toList) = false := by
  rw [beq_eq_false_iff_ne]
  intro e
  rw [ByteArray.toList_eq, ByteArray.toList_eq] at e
  exact h (bytes_inj e)

theorem rcheck_brief (a : Option Addr) (len cap : Nat) (w : World) (h : len < 12) :
    Calls Tryd.prog 17 #[.slice a len cap] w fun e w' => e = .returned (.int .i64 20) ∧ w = w' := by
  go_enter Tryd.func17, Tryd.ntmps17
  go_wp2_with fail
  refine (rput_brief a len cap w h).mono ?_
  rintro e w' ⟨rfl, rfl⟩
  go_wp2
  go_ret
  exact ⟨rfl, rfl⟩

theorem rcheck (b off len cap : Nat) (zs : List Int) (w : World) (h : Row w (some ⟨b, off, none⟩) len zs) (h12 : 12 ≤ len) (hbig : len ≤ 140737488351232) :
    Calls Tryd.prog 17 #[.slice (some ⟨b, off, none⟩) len cap] w fun e w' => e = .returned (.int .i64 (codeOf zs)) ∧ Below w.heap.size w w' := by
  go_enter Tryd.func17, Tryd.ntmps17
  go_wp2_with fail
  refine (rput b off len cap zs w h h12 hbig).mono ?_
  rintro e w1 ⟨v, rfl, hown, hb1⟩
  obtain ⟨a, gc, rfl, hrow, _, hnone, _⟩ := row_own hown (put_bytes h.2.1) (by omega)
  have t1 := text (cap := gc) hrow (fun h => (hnone h).1)
  have t2 := text (cap := cap) (h.later hb1) (fun h => by cases h)
  clear hrow hown hnone
  by_cases hput : putOf zs = zs
  · rw [hput] at t1
    have HP : Hid (codeOf zs = 0) := code_ok hput
    clear hput
    go_wp2
    go_ret
    exact ⟨by rw [HP.out]; rfl, hb1⟩
  · have HP : Hid (codeOf zs = 21) := code_bad hput
    have hne : ¬ strOfNums (putOf zs) = strOfNums zs := fun e => hput (text_inj (put_bytes h.2.1) h.2.1 e)
    have hne2 := text_ne hne
    clear hput hne
    generalize strOfNums (putOf zs) = p at *
    generalize strOfNums zs = q at *
    go_wp2
    go_ret
    exact ⟨by rw [HP.out]; rfl, hb1⟩

end Go.Proofs.YtfibmpconfoieaaDoor.Crc
