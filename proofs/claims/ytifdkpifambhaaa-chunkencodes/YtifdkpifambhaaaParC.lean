/-
  What Encode and Size of package param answer.
  Conditions: the numbers lie within their kinds, the cells hold them.
-/
import Derived.Test.YtifdkpifambhaaaParB
namespace Go.Proofs.Ytifdkpifambhaaa.Par
open Go.ChangeShapes Go.WideShapes Go.ChangeAt Go.RowKit
set_option linter.unusedVariables false

theorem info5 : (Try.prog.info? 5).map (fun i => (i.zero, i.size, i.bytes)) = some (some (.int .u8 0), 1, 1) := by kernel_rfl
def cs (zs : List Int) : List Value := zs.map (.int .u8)
theorem cs_append (xs ys : List Int) : cs (xs ++ ys) = cs xs ++ cs ys := List.map_append
theorem cs_len (xs : List Int) : (cs xs).length = xs.length := List.length_map _
theorem cs_one (zs : List Int) : ∀ u ∈ cs zs, u.oneCell' = true := by
  intro u hu
  obtain ⟨z, _, rfl⟩ := List.mem_map.1 hu
  rfl
/-- block g is a row of the call's own with room for cap bytes; the first are xs -/
def Cap (w : World) (B g cap : Nat) (xs : List Int) : Prop :=
  ∃ cur, w.heap[g]? = some (.cells cur 5 (0, 0)) ∧ B ≤ g ∧ cur.size = cap ∧ xs.length ≤ cap ∧ cap ≤ 140737488355328 ∧ cur.toList.take xs.length = cs xs
theorem Cap.own {w : World} {B g cap : Nat} {xs : List Int} (h : Cap w B g cap xs) : w.ownsRow B 5 1 (.slice (some ⟨g, 0, none⟩) xs.length cap) xs.length (cs xs) := by
  obtain ⟨cur, h1, h2, h3, h4, h5, h6⟩ := h
  exact ⟨by rw [cs_len, Nat.mul_one], .inr ⟨g, cap, cur, rfl, h2, h1, h4, by unfold maxLen; omega, by rw [Nat.mul_one]; exact h3, by rw [Nat.mul_one]; exact h6⟩⟩
theorem Cap.later {w w' : World} {B g cap : Nat} {xs : List Int} (h : Cap w B g cap xs) (hb : Below w.heap.size w w') : Cap w' B g cap xs := by
  obtain ⟨cur, h1, h2⟩ := h
  exact ⟨cur, (hb.block g (Array.getElem?_eq_some_iff.1 h1).1).trans h1, h2⟩
theorem Cap.setRow {w : World} {B g cap : Nat} {xs : List Int} (h : Cap w B g cap xs) (ys : List Int) (hroom : xs.length + ys.length ≤ cap) :
    ∃ cur, w.heap[g]? = some (.cells cur 5 (0, 0)) ∧ xs.length * 1 + (cs ys).length ≤ cur.size ∧ Cap (w.setRow g (cur.toList.take (xs.length * 1) ++ cs ys ++ cur.toList.drop (xs.length * 1 + (cs ys).length)).toArray) B g cap (xs ++ ys) ∧
      w.grownBy (w.setRow g (cur.toList.take (xs.length * 1) ++ cs ys ++ cur.toList.drop (xs.length * 1 + (cs ys).length)).toArray) (some g) := by
  obtain ⟨cur, h1, h2, h3, h4, h5, h6⟩ := h
  refine ⟨cur, h1, by rw [cs_len, Nat.mul_one]; omega, ⟨_, setRow_heap w g cur _ 5 _ h1, h2, ?_, by rw [List.length_append]; exact hroom, h5, ?_⟩, ⟨rfl, rfl, rfl, by simp, fun k _ hk => setRow_other w g k _ (fun e => hk (by rw [e]))⟩⟩
  · simp only [List.size_toArray, List.length_append, List.length_take, List.length_drop, Array.length_toList, cs_len]
    omega
  · rw [Nat.mul_one, h6, cs_append, List.length_append, ← cs_len xs, ← cs_len ys, ← List.length_append]
    simp only
    exact List.take_left

/-- append where there is room -/
theorem wpList_room {ops : Array Oper} {rest : List Oper} {o : Oper} {a : Act} {w : World} {Q : Exit → Act → World → Prop} (hgd : o.guard = none) (s x : Operand)
    (ho : o.op = .call { callee := .builtin .append, args := #[s, x], argTypes := #[23, 23] })
    (B g cap n : Nat) (xs : List Int) (hs : a.eval s = .slice (some ⟨g, 0, none⟩) n cap) (hn : xs.length = n) (hc : Cap w B g cap xs)
    (ad : Addr) (m c : Nat) (ys : List Int) (hx : a.eval x = .slice (some ad) m c) (hl : ys.length = m) (hnews : ∀ j u, (cs ys)[j]? = some u → w.cell? (ad.add j) = some u) (hroom : n + m ≤ cap)
    (h : ∀ w', Cap w' B g cap (xs ++ ys) → w.grownBy w' (some g) → wpList Try.prog ops Q rest (a.put o.dst (.slice (some ⟨g, 0, none⟩) (n + m) cap)) w') : wpList Try.prog ops Q (o :: rest) a w := by
  obtain ⟨i0, hi, hz0, hz1, hz2⟩ := info_parts info5
  subst hn; subst hl
  obtain ⟨cur, h1, h2, h3, h4⟩ := hc.setRow ys hroom
  have hr := run_append_room (P := Try.prog) w 23 o.type 5 i0 Try.underlying23 hi g xs.length cap cur h1 ad ys.length c (cs ys) (by rw [hz1, cs_len, Nat.mul_one]) hnews (cs_one ys) hroom (by rw [hz1]; exact h2)
  rw [hz1] at hr
  refine wpList_plain hgd fun K hK => ?_
  unfold Oper.wp
  simp only [execOp, ho, resolve, invoke, builtin, Sem.run_bind, Sem.run_pure, Result.andThen_ok, List.map_toArray, List.map_cons, List.map_nil, hs, hx, hr]
  exact hK _ _ (h _ h3 h4)
theorem wpList_room_none {ops : Array Oper} {rest : List Oper} {o : Oper} {a : Act} {w : World} {Q : Exit → Act → World → Prop} (hgd : o.guard = none) (s x : Operand)
    (ho : o.op = .call { callee := .builtin .append, args := #[s, x], argTypes := #[23, 23] })
    (B g cap n : Nat) (xs : List Int) (hs : a.eval s = .slice (some ⟨g, 0, none⟩) n cap) (hn : xs.length = n) (hc : Cap w B g cap xs) (hx : a.eval x = .slice none 0 0)
    (h : wpList Try.prog ops Q rest (a.put o.dst (.slice (some ⟨g, 0, none⟩) n cap)) w) : wpList Try.prog ops Q (o :: rest) a w := by
  obtain ⟨i0, hi, hz0, hz1, hz2⟩ := info_parts info5
  subst hn
  exact wpList_append_own_none hgd s x 23 ho B 5 i0 1 Try.underlying23 hi _ _ _ hs hc.own hx h
theorem zeroCells_u8 (m : Nat) : Builtin.zeroCells #[Value.int .u8 0] m = (cs (List.replicate m 0)).toArray := by
  apply Array.ext'
  unfold Builtin.zeroCells cs
  apply List.ext_getElem?
  intro j
  rw [Array.getElem?_toList, Array.getElem?_map, Array.getElem?_range]
  by_cases hj : j < m
  · rw [if_pos (by simpa using hj)]
    simp [hj, Nat.mod_one]
  · rw [if_neg (by simpa using hj)]
    simp [hj]
/-- append of a new row of zeros where there is room -/
theorem wpList_room_zeros {ops : Array Oper} {rest : List Oper} {o : Oper} {a : Act} {w : World} {Q : Exit → Act → World → Prop} (hgd : o.guard = none) (s x : Operand)
    (ho : o.op = .call { callee := .builtin .append, args := #[s, x], argTypes := #[23, 3] })
    (B g cap n : Nat) (xs : List Int) (hs : a.eval s = .slice (some ⟨g, 0, none⟩) n cap) (hn : xs.length = n) (hc : Cap w B g cap xs)
    (m : Nat) (hx : a.eval x = .int .i64 (m : Int)) (hm : m ≤ 1000) (hroom : n + m ≤ cap)
    (h : ∀ w', Cap w' B g cap (xs ++ List.replicate m 0) → w.grownBy w' (some g) → wpList Try.prog ops Q rest (a.put o.dst (.slice (some ⟨g, 0, none⟩) (n + m) cap)) w') : wpList Try.prog ops Q (o :: rest) a w := by
  obtain ⟨i0, hi, hz0, hz1, hz2⟩ := info_parts info5
  subst hn
  obtain ⟨cur, h1, h2, h3, h4⟩ := hc.setRow (List.replicate m 0) (by rw [List.length_replicate]; exact hroom)
  have hst := run_storeCells_at Try.prog g (xs.length * 1) 5 (cs (List.replicate m 0)) 0 cur w h1 (by simpa using h2) (cs_one _)
  simp only [Nat.add_zero, Nat.mul_one] at hst
  have hw : IntKind.i64.wrap (m : Int) = (m : Int) := by unfold IntKind.wrap; simp [IntKind.bits, IntKind.signed]; omega
  have hr : (Builtin.append_ #[23, 3] o.type #[.slice (some ⟨g, 0, none⟩) xs.length cap, .int .i64 (m : Int)]).run Try.prog w = .ok (.slice (some ⟨g, 0, none⟩) (xs.length + m) cap) (w.setRow g (cur.toList.take (xs.length * 1) ++ cs (List.replicate m 0) ++ cur.toList.drop (xs.length * 1 + (cs (List.replicate m 0)).length)).toArray) := by
    have hai : ∀ w : World, (asInt (.int .i64 (m : Int))).run Try.prog w = .ok (m : Int) w := fun _ => rfl
    have hbig : ¬ (281474976710656 : Int) < (m : Int) := by omega
    have hneg : ¬ (m : Int) < 0 := by omega
    have hcz : (Value.int .u8 0).cells = #[Value.int .u8 0] := rfl
    by_cases hm0 : m = 0
    · subst hm0
      have e0 : cs (List.replicate 0 0) = [] := rfl
      rw [e0] at hst ⊢
      have hai0 : ∀ w : World, (asInt (.int .i64 0)).run Try.prog w = .ok 0 w := fun _ => rfl
      have hw0 : IntKind.i64.wrap 0 = 0 := rfl
      have hroom0 : xs.length ≤ cap := hroom
      simp [Builtin.append_, run_underlying Try.underlying23, run_underlying Try.underlying3, sizeOf, typeInfo, hi, hz0, hz1, hz2, hai0, zeroValue, hw0, hroom0, Addr.add_lit, hst]
    · simp [Builtin.append_, run_underlying Try.underlying23, run_underlying Try.underlying3, sizeOf, typeInfo, hi, hz0, hz1, hz2, hai, zeroValue, hw, hbig, hneg, hroom, Addr.add_lit, hm0, hcz, zeroCells_u8, hst]
  refine wpList_plain hgd fun K hK => ?_
  unfold Oper.wp
  simp only [execOp, ho, resolve, invoke, builtin, Sem.run_bind, Sem.run_pure, Result.andThen_ok, List.map_toArray, List.map_cons, List.map_nil, hs, hx, hr]
  exact hK _ _ (h _ h3 h4)
theorem cells_new (w : World) (c : Array Value) (t : TypeId) : ∀ j u, c.toList[j]? = some u → (w.alloc (.cells c t)).cell? ((⟨w.heap.size, 0, none⟩ : Addr).add j) = some u := by
  intro j u hj
  have hadd : (⟨w.heap.size, 0, none⟩ : Addr).add j = ⟨w.heap.size, j, none⟩ := by unfold Addr.add; split <;> simp_all
  have h : (w.alloc (.cells c t)).heap[w.heap.size]? = some (.cells c t) := heap_alloc_new w _
  rw [hadd]
  simp only [World.cell?, h]
  simpa using hj
/-- a parameter in a new block of its own -/
theorem box_new (w : World) (t : Int) (a : Option Addr) (len cap : Nat) (ty : TypeId) : (w.alloc (.cells #[.int .u16 t, .slice a len cap] ty)).cell? ⟨w.heap.size, 0, none⟩ = some (.int .u16 t) ∧ (w.alloc (.cells #[.int .u16 t, .slice a len cap] ty)).cell? ⟨w.heap.size, 1, none⟩ = some (.slice a len cap) := by
  have h : (w.alloc (.cells #[.int .u16 t, .slice a len cap] ty)).heap[w.heap.size]? = some (.cells #[.int .u16 t, .slice a len cap] ty) := heap_alloc_new w _
  exact ⟨by simp only [World.cell?, h]; rfl, by simp only [World.cell?, h]; rfl⟩
theorem Row.news {base : Nat} {w : World} {ad : Addr} {len : Nat} {zs : List Int} (h : Row base w (some ad) len zs) : ∀ j u, (cs zs)[j]? = some u → w.cell? (ad.add j) = some u := by
  intro j u hj
  rcases h.2.2.2 with h0 | ⟨b, off, he, _, hc⟩
  · rw [List.eq_nil_of_length_eq_zero (h.1.trans h0)] at hj; cases hj
  · cases he
    have hadd : (⟨b, off, none⟩ : Addr).add j = ⟨b, off + j, none⟩ := by unfold Addr.add; split <;> simp_all
    have hjl : j < zs.length := by
      rcases Nat.lt_or_ge j zs.length with h' | h'
      · exact h'
      · rw [List.getElem?_eq_none (by rw [cs_len]; exact h')] at hj; cases hj
    rw [hadd, hc j (by rw [← h.1]; exact hjl), List.getD_eq_getElem?_getD, List.getElem?_eq_getElem hjl]
    simp [cs, List.getElem?_eq_getElem hjl] at hj
    subst hj
    rfl

theorem appendP (w0 w : World) (base g cap n : Nat) (xs : List Int) (t : Int) (a : Option Addr) (len pcap : Nat) (zs : List Int) (ho : One base w0 (t, a, len, pcap, zs)) (hb : Below w0.heap.size w0 w) (hc : Cap w w0.heap.size g cap xs) (hn : xs.length = n)
    (hlen : len ≤ 65531) (hroom : n + (len + 4) ≤ cap) :
    Calls Try.prog 72 #[.slice (some ⟨g, 0, none⟩) n cap, .agg #[.int .u16 t, .slice a len pcap]] w fun e w' =>
      e = .returned (.slice (some ⟨g, 0, none⟩) (n + (len + 4)) cap) ∧ Cap w' w0.heap.size g cap (xs ++ head (t, zs) ++ zs) ∧ Below w0.heap.size w0 w' := by
  obtain ⟨hzl, hzb, hlim, ht⟩ := ho.len
  have h5 := hc
  obtain ⟨_, _, hg0, _, _, hcl, _⟩ := h5
  have HB := hidden hb
  have HC := hidden hc
  have hbs := hb.size
  have hd : (t / 256) % 256 = t / 256 := by omega
  clear hb hc
  go_enter Try.func72, Try.ntmps72
  go_wp2_with fail
  refine (length_ t a len pcap hlim _).mono ?_
  rintro e w1 ⟨rfl, b1⟩
  have hcw := HC.out.later ((Below.refl _ w).alloc (Nat.le_refl _) (.cells #[.int .u16 t, .slice a len pcap] 56))
  have HC1 := hidden (hcw.later b1)
  obtain ⟨bx0, bx1⟩ := box_new w t a len pcap 56
  have c0 := (b1.cell (cell_lt bx0)).trans bx0
  have c1 := (b1.cell (cell_lt bx1)).trans bx1
  have HB1 := hidden ((HB.out.alloc hbs (.cells #[.int .u16 t, .slice a len pcap] 56)).trans (b1.mono (by simp; omega)))
  have hs1 := HB1.out.size
  have hw1 := b1.size
  have hgw : g < w.heap.size := by obtain ⟨cur, h1, _⟩ := HC.out; exact (Array.getElem?_eq_some_iff.1 h1).1
  simp only [World.size_alloc] at hw1
  clear b1 bx0 bx1 hcw HC HB
  have HE := hidden (show head (t, zs) = [t / 256, t % 256, ((len : Int) + 4) / 256, ((len : Int) + 4) % 256] by
    unfold head
    simp only [hzl]
    rw [show ((len + 4 : Nat) : Int) = (len : Int) + 4 by omega, show ((len : Int) + 4) / 256 % 256 = ((len : Int) + 4) / 256 by omega])
  go_wp2_with (at_builtin; refine wpList_room rfl _ _ rfl w0.heap.size g cap n xs rfl hn ?c0 ⟨w1.heap.size, 0, none⟩ 4 4 (head (t, zs)) rfl rfl ?c1 ?c2 ?_)
  case c0 => exact HC1.out.later ((Below.refl _ _).alloc (Nat.le_refl _) _)
  case c1 => rw [HE.out]; exact cells_new w1 _ 5
  case c2 => omega
  intro w2 hc2 hg2
  have HC2 := hidden hc2
  have HB2 := hidden ((HB1.out.alloc hs1 (Obj.cells #[Value.int IntKind.u8 (t / 256), Value.int IntKind.u8 (t % 256), Value.int IntKind.u8 (((len : Int) + 4) / 256), Value.int IntKind.u8 (((len : Int) + 4) % 256)] 5)).grown hg2 (by simp; omega) (fun k hk => by cases hk; exact hg0))
  have d1 : w2.cell? ⟨w.heap.size, 1, none⟩ = some (.slice a len pcap) := hg2.cell (a := ⟨w.heap.size, 1, none⟩) ((World.cell?_alloc_lt w1 _ _ (by show w.heap.size < _; omega)).trans c1) (by simp; omega)
  have HO := hidden (ho.later HB2.out)
  clear hc2 hg2 c0 c1 ho
  rcases a with _ | ad
  · obtain ⟨h0, h1⟩ := HO.out.2.2.2.2 rfl
    simp only at h0 h1
    subst h0; subst h1
    obtain rfl := List.eq_nil_of_length_eq_zero hzl
    go_wp2_with (at_builtin; refine wpList_room_none rfl _ _ rfl w0.heap.size g cap (n + 4) (xs ++ head (t, [])) rfl ?e0 HC2.out rfl ?_)
    case e0 => rw [List.length_append, hn]; rfl
    go_wp2
    go_ret
    exact ⟨rfl, by rw [List.append_nil]; exact HC2.out, HB2.out⟩
  · go_wp2_with (at_builtin; refine wpList_room rfl _ _ rfl w0.heap.size g cap (n + 4) (xs ++ head (t, zs)) rfl ?f0 HC2.out ad len pcap zs rfl hzl ?f1 ?f2 ?_)
    case f0 => rw [List.length_append, hn]; rfl
    case f1 => exact HO.out.2.1.news
    case f2 => omega
    intro w3 hc3 hg3
    have B3 := HB2.out.grown hg3 HB2.out.size (fun k hk => by cases hk; exact hg0)
    clear hg3
    have HC3 := hidden hc3
    clear hc3
    go_wp2
    go_ret
    exact ⟨by simp only [Nat.add_assoc, Nat.add_comm 4]; rfl, by rw [List.append_assoc]; exact HC3.out, B3⟩

theorem enc_grows (l : List (Int × List Int)) : ∀ b : List Int, b.length ≤ (l.foldl put b).length := by
  induction l with
  | nil => intro b; exact Nat.le_refl _
  | cons x l ih =>
    intro b
    have h1 := ih (put b x)
    have h2 := put_len b x
    have h3 := fill4_le b.length
    simp only [List.foldl_cons]
    omega
theorem enc_take_mono (ps : List Prm) (k : Nat) : (enc ((ps.take k).map val)).length ≤ (enc (ps.map val)).length := by
  have e : enc (ps.map val) = ((ps.drop k).map val).foldl put (enc ((ps.take k).map val)) := by
    unfold enc
    rw [← List.foldl_append, ← List.map_append, List.take_append_drop]
  rw [e]
  exact enc_grows _ _
/-- a new row without bytes, with no name for the new world -/
theorem make_any (B c : Nat) (hc : c ≤ 1000000000) : ∃ mk : World → World, (∀ w : World, (Instr.makeSlice 23 (.int .i64 0) (.int .i64 (c : Int))).run Try.prog w = .ok (.slice (some ⟨w.heap.size, 0, none⟩) 0 c) (mk w)) ∧
    (∀ w : World, B ≤ w.heap.size → Cap (mk w) B w.heap.size c []) ∧ ∀ w : World, Below w.heap.size w (mk w) := by
  obtain ⟨i0, hi, hz0, hz1, hz2⟩ := info_parts info5
  refine ⟨fun w => w.alloc (.cells (madeCells (Value.int .u8 0).cells (c * 1)) 5), fun w => ?_, fun w hB => ?_, fun w => (Below.refl _ w).alloc (Nat.le_refl _) _⟩
  · have hr := run_make (P := Try.prog) w 23 5 i0 (.int .u8 0) Try.underlying23 hi hz0 .i64 .i64 0 c (Int.le_refl _) (by omega) (by rw [hz2]; omega) (by omega)
    rw [hz1] at hr
    simpa using hr
  · refine ⟨_, heap_alloc_new w _, hB, by rw [size_madeCells, Nat.mul_one], Nat.zero_le _, by omega, by simp [cs]⟩

set_option maxRecDepth 20000 in
theorem encode (base : Nat) (w : World) (pa : Option Addr) (n pcap : Nat) (ps : List Prm) (hp : Prms base w pa n ps) :
    Calls Try.prog 52 #[.slice pa n pcap] w fun e w' => ∃ v c, e = .returned (.tuple #[v, .int .i64 c]) ∧ code ps c ∧ (c ≠ 0 → v = .slice none 0 0) ∧
      (c = 0 → ∃ g cap, v = .slice (some ⟨g, 0, none⟩) (enc (ps.map val)).length cap ∧ Cap w' w.heap.size g cap (enc (ps.map val))) ∧ Below w.heap.size w w' := by
  have R := hidden (refusal base w pa n pcap ps hp)
  have HP := hidden hp
  have hnl := hp.2.1
  clear hp
  go_enter Try.func52, Try.ntmps52
  go_wp2_with fail
  refine Calls.mono R.out ?_
  rintro e w1 ⟨c, rfl, hc, b1⟩
  have HCD := hidden hc
  clear hc R
  by_cases h0 : c = 0
  · subst h0
    have hL : ¬ Long ps ∧ ps.length ≤ 256 := by
      rcases HCD.out with ⟨_, h⟩ | ⟨_, _, h⟩ | ⟨h1, h2, _⟩
      · omega
      · omega
      · exact ⟨h2, h1⟩
    have hn : n ≤ 256 := by rw [← HP.out.1]; exact hL.2
    have T := hidden (total base w1 pa n pcap ps (HP.out.later b1) hL.1 hn)
    have hTl := enc_take_le hL.1 hL.2 HP.out.2.2.1 n
    rw [List.take_of_length_le (by rw [HP.out.1]; omega)] at hTl
    have HM := hidden (enc_take_mono ps)
    have HL := hidden hL
    have HB1 := hidden b1
    clear b1 hL
    generalize hT : (enc (ps.map val)).length = TT at T hTl HM ⊢
    have HT := hidden hT
    clear hT
    go_wp2_with fail
    refine Calls.mono T.out ?_
    rintro e w2 ⟨rfl, b2⟩
    have HB2 := hidden (HB1.out.trans (b2.mono HB1.out.size))
    obtain ⟨mk, hmk, hmc, hmb⟩ := make_any w.heap.size TT (by omega)
    have hmc := hidden (hmc w2 HB2.out.size)
    have hmb := hidden (HB2.out.trans ((hmb w2).mono HB2.out.size))
    have hg0 := HB2.out.size
    clear T b2 HB1
    go_wp2_with fail
    generalize mk w2 = W1 at *
    generalize w2.heap.size = g at *
    clear hmk
    go_loopw [5, 18] (fun v i wr => ∃ k : Nat, k ≤ n ∧ i = .int .i64 k ∧ v = .slice (some ⟨g, 0, none⟩) (enc ((ps.take k).map val)).length TT ∧ Cap wr w.heap.size g TT (enc ((ps.take k).map val)) ∧ Below w.heap.size w wr) (fun _ i _ => n - (intOf i).toNat)
    case atStart => exact ⟨0, Nat.zero_le _, rfl, rfl, hmc.out, hmb.out⟩
    case round =>
      obtain ⟨k, hk, rfl, rfl, hcap, hbl⟩ := hrel
      rcases Nat.lt_or_ge k n with hlt | hge
      · obtain ⟨b, off, t, a, len, cap, zs, rfl, hpk, hc1, hc2, hone⟩ := (HP.out.later hbl).get hlt
        have hone0 := HP.out.2.2.1 _ (List.mem_of_getElem? hpk)
        obtain ⟨hzl, _, hlim, _⟩ := hone.len
        have hs := enc_snoc ps k _ hpk
        have hlen := put_len (enc ((ps.take k).map val)) (t, zs)
        have hk1 := HM.out (k + 1)
        have HPK := hidden hpk
        have hshort : len ≤ 65531 := by
          rcases Nat.lt_or_ge 65531 len with h | h
          · exact absurd ⟨_, List.mem_of_getElem? hpk, h⟩ HL.out.1
          · exact h
        have hroom : fill4 (enc ((ps.take k).map val)).length + (len + 4) ≤ TT := by rw [hs] at hk1; rw [← hzl]; show fill4 _ + (((t, zs) : Int × List Int).2.length + 4) ≤ TT; rw [← hlen]; exact hk1
        have hput : put (enc ((ps.take k).map val)) (t, zs) = enc ((ps.take k).map val) ++ List.replicate (fill4 (enc ((ps.take k).map val)).length - (enc ((ps.take k).map val)).length) 0 ++ head (t, zs) ++ zs := rfl
        have HS := hidden (hs.trans hput)
        have h2 := fill4_le (enc ((ps.take k).map val)).length
        have HC := hidden hcap
        have HB := hidden hbl
        have hbs := hbl.size
        have hgr : g < wr.heap.size := by obtain ⟨cur, h1, _⟩ := hcap; exact (Array.getElem?_eq_some_iff.1 h1).1
        have HO := hidden hone0
        have HM2 := HM.out k
        clear hs hlen hk1 hpk hcap hbl hput hone hone0
        generalize hX : enc ((ps.take k).map val) = X at *
        have HX := hidden hX
        clear hX
        generalize hm : X.length = m at *
        have Hm := hidden hm
        clear hm
        have HF := fun w => hidden (filled m (by omega) w)
        generalize fill4 m = f at *
        obtain ⟨d, hd⟩ : ∃ d : Nat, f = m + d := ⟨f - m, by omega⟩
        subst hd
        rw [Nat.add_sub_cancel_left] at HS
        go_wp2_with fail
        refine Calls.mono (HF _).out ?_
        rintro e w3 ⟨rfl, rfl⟩
        have hdd : ((m + d : Nat) : Int) - (m : Int) = (d : Int) := by omega
        go_wp2_with (at_builtin; refine wpList_room_zeros rfl _ _ rfl w.heap.size g TT m X rfl Hm.out ?c0 d ?c1 ?c2 ?c3 ?_)
        case c0 => exact HC.out.later ((Below.refl _ _).alloc (Nat.le_refl _) _)
        case c1 =>
          show Value.int IntKind.i64 ((m : Int) + d - m) = _
          rw [show (m : Int) + d - m = d by omega]
        case c2 => omega
        case c3 => omega
        intro w4 hc4 hg4
        have B3 : Below w.heap.size w w4 := (HB.out.alloc hbs _).grown hg4 (by simp; omega) (fun k hk => by cases hk; exact hg0)
        obtain ⟨bx0, bx1⟩ := box_new wr t a len cap 56
        have c0 := hg4.cell bx0 (by simp; omega)
        have c1 := hg4.cell bx1 (by simp; omega)
        have AP := hidden (appendP w w4 base g TT (m + d) (X ++ List.replicate d 0) t a len cap zs HO.out B3 hc4 (by rw [List.length_append, List.length_replicate, Hm.out]) hshort hroom)
        have HSL := hidden (show (enc ((ps.take (k + 1)).map val)).length = m + d + (len + 4) by rw [HS.out, List.length_append, List.length_append, List.length_append, List.length_replicate, Hm.out, hzl]; show m + d + 4 + len = _; omega)
        clear hc4 hg4 B3 bx0 bx1 HC HB HM2 HO
        go_wp2_with fail
        refine Calls.mono AP.out ?_
        rintro e w5 ⟨rfl, hc5, b5⟩
        have HC5 := hidden hc5
        clear hc5 AP
        go_wp2
        go_roundw
        case rel => exact ⟨k + 1, by omega, by go_num, by rw [HSL.out], by rw [HS.out]; exact HC5.out, b5⟩
        case measure => simp [intOf]; omega
      · obtain rfl : k = n := by omega
        rw [List.take_of_length_le (by rw [HP.out.1]; omega)] at hcap
        have hcap' := hidden hcap
        have e : (enc ((ps.take k).map val)).length = TT := by rw [List.take_of_length_le (by rw [HP.out.1]; omega)]; exact HT.out
        rw [e]
        clear hcap e
        go_wp2
        go_ret2
        exact ⟨_, _, rfl, HCD.out, (fun h => absurd rfl h), (fun _ => ⟨g, TT, by rw [HT.out]; rfl, hcap'.out⟩), hbl⟩
  · go_wp2
    go_ret2
    exact ⟨_, _, rfl, HCD.out, (fun _ => rfl), (fun h => absurd h h0), b1⟩

theorem size_ (base : Nat) (w : World) (pa : Option Addr) (n pcap : Nat) (ps : List Prm) (hp : Prms base w pa n ps) :
    Calls Try.prog 51 #[.slice pa n pcap] w fun e w' => ∃ c s, code ps c ∧ (c ≠ 0 → s = 0) ∧ (c = 0 → s = ((enc (ps.map val)).length : Int)) ∧ e = .returned (.int .i64 s) ∧ Below w.heap.size w w' := by
  have R := hidden (refusal base w pa n pcap ps hp)
  have HP := hidden hp
  clear hp
  go_enter Try.func51, Try.ntmps51
  go_wp2_with fail
  refine Calls.mono R.out ?_
  rintro e w1 ⟨c, rfl, hc, b1⟩
  have HCD := hidden hc
  clear hc R
  by_cases h0 : c = 0
  · subst h0
    have hL : ¬ Long ps ∧ ps.length ≤ 256 := by
      rcases HCD.out with ⟨_, h⟩ | ⟨_, _, h⟩ | ⟨h1, h2, _⟩
      · omega
      · omega
      · exact ⟨h2, h1⟩
    have hn : n ≤ 256 := by rw [← HP.out.1]; exact hL.2
    have T := hidden (total base w1 pa n pcap ps (HP.out.later b1) hL.1 hn)
    have HB1 := hidden b1
    clear b1 hL
    go_wp2_with fail
    refine Calls.mono T.out ?_
    rintro e w2 ⟨rfl, b2⟩
    go_wp2
    go_ret
    exact ⟨_, _, HCD.out, (fun h => absurd rfl h), (fun _ => rfl), rfl, HB1.out.trans (b2.mono HB1.out.size)⟩
  · go_wp2
    go_ret
    exact ⟨_, _, HCD.out, (fun _ => rfl), (fun h => absurd h h0), rfl, b1⟩
end Go.Proofs.Ytifdkpifambhaaa.Par
