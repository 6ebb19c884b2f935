/-
  Blocks that slices.Values hands out of a row, one by one; slices.Collect and slices.SortedFunc over them.
  Conditions: the row can be read.
-/
import Derived.Test.YtllipbkpbopomaaDoorSpSort
import Derived.Test.YtllipbkpbopomaaDoorSpRange
namespace Go.Proofs.YtllipbkpbopomaaDoor.Sp
open Go.RowKit Go.Shelf
set_option linter.unusedVariables false
attribute [local go_sem] Oper.semAt_some

/-- a row of blocks that can be read -/
def RowG (w : World) (a : Option Addr) (len : Nat) (X : List (Nat × Nat)) : Prop :=
  X.length = len ∧ (∀ g ∈ X, g.1 < 65536 ∧ g.2 < 65536) ∧ len ≤ 281474976710656 ∧ (len = 0 ∨ ∃ b off, a = some ⟨b, off, none⟩ ∧ b < w.heap.size ∧ ∀ j, j < len → w.cell? ⟨b, off + j * 2, none⟩ = some (.int .u16 ((X.getD j (0, 0)).1 : Int)) ∧ w.cell? ⟨b, off + j * 2 + 1, none⟩ = some (.int .u16 ((X.getD j (0, 0)).2 : Int)))
theorem RowG.later {w w' : World} {a : Option Addr} {len : Nat} {X : List (Nat × Nat)} (h : RowG w a len X) (hB : Below w.heap.size w w') : RowG w' a len X := by
  obtain ⟨h0, h1, h2, h⟩ := h
  refine ⟨h0, h1, h2, h.imp id ?_⟩
  rintro ⟨b, off, rfl, hb, hc⟩
  exact ⟨b, off, rfl, Nat.lt_of_lt_of_le hb hB.size, fun j hj => ⟨(hB.cell (p := ⟨b, off + j * 2, none⟩) hb).trans (hc j hj).1, (hB.cell (p := ⟨b, off + j * 2 + 1, none⟩) hb).trans (hc j hj).2⟩⟩

theorem values_in (l n₀ bx : Nat) (J : Nat → World → Prop) (Jx : World → Prop) {a : Option Addr} {len cap : Nat} {X : List (Nat × Nat)}
    (hJ : ∀ k W W', J k W → W.grownBy W' none → J k W')
    (hY : ∀ k g W1, X[k]? = some g → J k W1 → YieldAt Fence.wide 8 Tryd.prog l #[gapV g] W1 fun e W' =>
      (e = .returned (.bool true) ∧ J (k + 1) W' ∧ Below n₀ W1 W') ∨ (e = .returned (.bool false) ∧ Jx W'))
    (W : World) (hbx : W.cell? ⟨bx, 0, none⟩ = some (.slice a len cap)) (hX : X.length = len) (hlim : len ≤ 281474976710656) (hn : n₀ ≤ W.heap.size)
    (hor : len = 0 ∨ ∃ b off, a = some ⟨b, off, none⟩ ∧ b < n₀ ∧ ∀ j, j < len → W.cell? ⟨b, off + j * 2, none⟩ = some (.int .u16 ((X.getD j (0, 0)).1 : Int)) ∧ W.cell? ⟨b, off + j * 2 + 1, none⟩ = some (.int .u16 ((X.getD j (0, 0)).2 : Int))) (h0 : J 0 W) :
    CallsIn Fence.wide 9 Tryd.prog 63 #[.func (.yield l) #[] #[], .pointer (some ⟨bx, 0, none⟩)] W fun e W' => (∃ v, e = .returned v) ∧ (J X.length W' ∨ Jx W') := by
  have HOR : Hid _ := hor
  clear hor
  refine callsIn_wide.2 ?_
  go_enter Tryd.func63, Tryd.ntmps63
  go_wp2_with fail
  go_loopw [7] (fun i wr => ∃ q : Int, 0 ≤ q ∧ q ≤ (len : Int) ∧ i = .int .i64 q ∧ J q.toNat wr ∧ Below n₀ W wr) (fun i wr => len - (intOf i).toNat)
  case atStart => exact ⟨0, by omega, by omega, rfl, h0, Below.refl _ _⟩
  case round =>
    obtain ⟨q, hq0, hq, rfl, hJs, hB⟩ := hrel
    by_cases hlt : q < (len : Int)
    · obtain ⟨b, off, rfl, hb, hc⟩ := HOR.out.resolve_left (by omega)
      have k0 := (hB.cell (p := ⟨b, off + q.toNat * 2, none⟩) hb).trans (hc q.toNat (by omega)).1
      have k1 := (hB.cell (p := ⟨b, off + q.toNat * 2 + 1, none⟩) hb).trans (hc q.toNat (by omega)).2
      have hXk : X[q.toNat]? = some (X.getD q.toNat (0, 0)) := by
        rw [List.getD_eq_getElem?_getD, List.getElem?_eq_getElem (by omega)]; rfl
      clear hc
      generalize X.getD q.toNat (0, 0) = gp at k0 k1 hXk
      have hJ2 := hJ q.toNat wr (wr.alloc (Obj.cells #[Value.int IntKind.u16 (gp.1 : Int), Value.int IntKind.u16 (gp.2 : Int)] 76)) hJs (World.grownBy_alloc _ _ none)
      have hB2 : Below n₀ W (wr.alloc (Obj.cells #[Value.int IntKind.u16 (gp.1 : Int), Value.int IntKind.u16 (gp.2 : Int)] 76)) := hB.alloc (Nat.le_trans hn hB.size) _
      obtain ⟨fn, tmps, assign, body, hy, hRd⟩ := hY q.toNat gp _ hXk hJ2
      unfold gapV at hy
      have HXk : Hid _ := hXk
      clear hXk
      refine (wpIn_wide (n := 9)).1 ?_
      gi_wp2_with fail
      refine hRd.mono ?_
      rintro e w4 (⟨rfl, hJ4, hB4⟩ | ⟨rfl, hx4⟩)
      · gi_wp2
        go_roundw
        case rel => exact ⟨q + 1, by omega, by omega, rfl, by rw [show (q + 1).toNat = q.toNat + 1 by omega]; exact hJ4, hB2.trans hB4⟩
        case measure => simp only [intOf]; omega
      · gi_wp2
        refine bodyPost_ret (results_none rfl _ _ _) rfl ?_
        exact ⟨⟨_, rfl⟩, .inr hx4⟩
    · have hqe : Hid (q.toNat = len) := by unfold Hid; omega
      go_wp2
      go_end0
      exact ⟨⟨_, rfl⟩, .inl (hqe.out ▸ hJs)⟩

/-- what a loop over the row's values is handed -/
def HandsV (n₀ : Nat) (p : Option Addr) (bs : List (Nat × Nat)) (w : World) : Prop :=
  ∀ (l : Nat) (J : Nat → World → Prop) (Jx : World → Prop) (W : World), Below n₀ w W →
    (∀ k W W', J k W → W.grownBy W' none → J k W') →
    (∀ k g W1, bs[k]? = some g → J k W1 → YieldAt Fence.wide 8 Tryd.prog l #[gapV g] W1 fun e W' =>
      (e = .returned (.bool true) ∧ J (k + 1) W' ∧ Below n₀ W1 W') ∨ (e = .returned (.bool false) ∧ Jx W')) → J 0 W →
    CallsIn Fence.wide 9 Tryd.prog 63 #[.func (.yield l) #[] #[], .pointer p] W fun e W' => (∃ v, e = .returned v) ∧ (J bs.length W' ∨ Jx W')

theorem range_values {g : Operand} {p0 : Tmp} {assign body : Code} {Q : Exit → Act → World → Prop} {a : Act} {w : World} {p : Option Addr} {bs : List (Nat × Nat)} {n₀ : Nat}
    (hg : a.eval g = .func (.func 63) #[] #[.pointer p]) (hH : HandsV n₀ p bs w) (hn : n₀ ≤ w.heap.size)
    (I : Nat → World → Prop) (Ix : Nat → World → Prop) (hI : ∀ k W W', I k W → Calm w.heap.size W W' → I k W') (hIx : ∀ k W W', Ix k W → Calm w.heap.size W W' → Ix k W') (h0 : I 0 w)
    (Ax : Nat → Act → World → Prop) (hAx : ∀ k a' W W', Ax k a' W → Calm w.heap.size W W' → Ax k a' W')
    (hassign : ∀ l k gp W K, bs[k]? = some gp → I k W → (∀ a' W', KeepsFrom w.heap.size W W' → Below n₀ W W' → I k W' → Ax k a' W' → K a' W') →
      assign.wpIn (Fence.wide.inRound l) 8 Tryd.prog (Exit.then K (fun _ _ _ => False)) { tmps := a.tmps.setIfInBounds p0 (gapV gp), defers := [] } W)
    (hbody : ∀ l k gp a' W, bs[k]? = some gp → I k W → Ax k a' W → body.wpIn (Fence.wide.inRound l) 8 Tryd.prog (roundEnd w.heap.size n₀ I Ix k W) a' W)
    (hdone : ∀ D W, w.heap.size ≤ D → I bs.length W → W.heap[D]? = some (.deferred (some [])) → Q .normal { a with defers := { target := .collected D, args := #[] } :: a.defers } W)
    (hstop : ∀ D id W, w.heap.size ≤ D → Ix id W → W.heap[D]? = some (.deferred (some [])) → (Code.exit id).wpIn Fence.wide 10 Tryd.prog Q { a with defers := { target := .collected D, args := #[] } :: a.defers } W) :
    (Code.rangeFunc g #[p0] assign body).wpIn Fence.wide 10 Tryd.prog Q a w := by
  refine wpIn_rangeFunc fun fn hfn => ?_
  -- the record of the loop lies at l, its block of deferred calls ahead of it
  let l := w.heap.size + 1
  let rec_ : LoopState → Option Code → Obj := fun st pe => .loop { state := st, pending := pe, fn, tmps := a.tmps, params := #[p0], assign, body, defers := w.heap.size }
  let W1 := (w.alloc (.deferred (some []))).alloc (rec_ .ready none)
  have hL : W1.heap[l]? = some (rec_ .ready none) := by
    have := World.alloc_heap_new (w.alloc (.deferred (some []))) (rec_ .ready none)
    rwa [World.size_alloc] at this
  have hD : W1.heap[w.heap.size]? = some (.deferred (some [])) := (Below.heap_alloc _ _ _ (by simp)).trans (World.alloc_heap_new w _)
  have hstart : I 0 W1 := hI 0 _ _ (hI 0 _ _ h0 (Calm.new _ _ _)) (Calm.new _ _ _)
  have hB1 : Below n₀ w W1 := ((Below.refl _ w).alloc hn _).alloc (by simp; omega) _
  refine ⟨l, [{ target := .collected w.heap.size, args := #[] }], W1, { target := .fn (.func 63) #[.pointer p], args := #[.func (.yield l) #[] #[]] }, W1, 63, #[.func (.yield l) #[] #[], .pointer p], W1, run_enterLoop_outer _ _ _ _ _, ?_, fun _ _ => trivial, ?_, fun _ => by decide, ?_⟩
  · simp only [resolve, hg]
    simp [go_sem]
  · simp [invoke, go_sem]
  -- book-keeping beside the invariant
  have keep : ∀ {W W' : World}, W.grownBy W' none → ∀ {k : Nat} {o : Obj}, W.heap[k]? = some o → W'.heap[k]? = some o := fun hg k o hk => (hg.block k (Array.getElem?_eq_some_iff.1 hk).1 (by simp)).trans hk
  refine (hH l (fun k W => I k W ∧ W.heap[l]? = some (rec_ .ready none) ∧ W.heap[w.heap.size]? = some (.deferred (some [])))
    (fun W => ∃ id, Ix id W ∧ W.heap[l]? = some (rec_ .done (some (.exit id))) ∧ W.heap[w.heap.size]? = some (.deferred (some [])))
    W1 hB1 (fun k W W' h hg => ⟨hI k W W' h.1 ⟨none, hg, fun r e => by cases e⟩, keep hg h.2.1, keep hg h.2.2⟩) ?_ ⟨hstart, hL, hD⟩).mono ?_
  · rintro k gp W hk ⟨hi, hl, hd⟩
    have hy : (Instr.yield l #[gapV gp]).run Tryd.prog W = .ok (.round l fn (a.tmps.setIfInBounds p0 (gapV gp)) assign body) W := by
      rw [run_yield hl rfl]; simp
    refine ⟨fn, _, assign, body, hy, roundIn_of_wpIn hfn (hassign l k gp W _ hk hi fun a' Wa hka hba hia hax => ?_)⟩
    have hla := hka.same l _ (by omega) hl rfl
    have hda := hka.same w.heap.size _ (Nat.le_refl _) hd rfl
    refine ⟨_, run_beginRound hla rfl, ?_⟩
    have hlt := (Array.getElem?_eq_some_iff.1 hla).1
    have c2 : Calm w.heap.size Wa (Wa.putObj l (rec_ .busy none)) := Calm.put _ (by omega) hla rfl
    have hl2 : (Wa.putObj l (rec_ .busy none)).heap[l]? = some (rec_ .busy none) := World.putObj_heap_same hlt
    have hd2 : (Wa.putObj l (rec_ .busy none)).heap[w.heap.size]? = some (.deferred (some [])) := (World.putObj_heap_other (by omega)).trans hda
    have hb2 : Below n₀ W (Wa.putObj l (rec_ .busy none)) := hba.trans (belowK_b hn Wa l _ _ (by omega) hla rfl rfl)
    refine wpIn_mono (hbody l k gp a' _ hk (hI k _ _ hia c2) (hAx k a' _ _ hax c2)) ?_
    have fin : ∀ (jump : Option Code) (W3 : World), KeepsFrom w.heap.size (Wa.putObj l (rec_ .busy none)) W3 →
        (Instr.endRound l jump).run Tryd.prog W3 = .ok (.bool jump.isNone) (W3.putObj l (rec_ (if jump.isNone then .ready else .done) jump)) ∧ Calm w.heap.size W3 (W3.putObj l (rec_ (if jump.isNone then .ready else .done) jump)) ∧
        (W3.putObj l (rec_ (if jump.isNone then .ready else .done) jump)).heap[l]? = some (rec_ (if jump.isNone then .ready else .done) jump) ∧ (W3.putObj l (rec_ (if jump.isNone then .ready else .done) jump)).heap[w.heap.size]? = some (.deferred (some [])) ∧
        Below n₀ W3 (W3.putObj l (rec_ (if jump.isNone then .ready else .done) jump)) := fun jump W3 hk3 => by
      have hl3 := hk3.same l _ (by omega) hl2 rfl
      exact ⟨run_endRound jump hl3, Calm.put _ (by omega) hl3 rfl, World.putObj_heap_same (Array.getElem?_eq_some_iff.1 hl3).1, (World.putObj_heap_other (by omega)).trans (hk3.same _ _ (Nat.le_refl _) hd2 rfl), belowK_b hn W3 l _ _ (by omega) hl3 rfl rfl⟩
    rintro e a3 W3 hp
    cases e with
    | normal =>
      obtain ⟨hk3, hb3, hi3⟩ := hp
      obtain ⟨hr, hc, hl4, hd4, hb4⟩ := fin none W3 hk3
      exact ⟨_, _, hr, .inl ⟨rfl, ⟨hI _ _ _ hi3 hc, hl4, hd4⟩, (hb2.trans hb3).trans hb4⟩⟩
    | exit id =>
      obtain ⟨hk3, hi3⟩ := hp
      obtain ⟨hr, hc, hl4, hd4, hb4⟩ := fin (some (.exit id)) W3 hk3
      exact ⟨_, _, hr, .inr ⟨rfl, id, hIx _ _ _ hi3 hc, hl4, hd4⟩⟩
    | ret => exact hp.elim
    | goto t => exact hp.elim
    | panic ch => exact hp.elim
    | outgrown => exact hp.elim
  · rintro e W2 ⟨⟨v, rfl⟩, (⟨hi, hl, hd⟩ | ⟨id, hi, hl, hd⟩)⟩
    · exact ⟨none, _, run_endLoop hl (fun h => by cases h), hdone _ _ (Nat.le_refl _) (hI _ _ _ hi (Calm.put _ (by omega) hl rfl)) ((World.putObj_heap_other (by omega)).trans hd)⟩
    · exact ⟨some (.exit id), _, run_endLoop hl (fun h => by cases h), hstop _ _ _ (Nat.le_refl _) (hIx _ _ _ hi (Calm.put _ (by omega) hl rfl)) ((World.putObj_heap_other (by omega)).trans hd)⟩

theorem handsV {w : World} {n₀ bx : Nat} {a : Option Addr} {len cap : Nat} {X : List (Nat × Nat)} (hbx : w.cell? ⟨bx, 0, none⟩ = some (.slice a len cap)) (hb : bx < n₀) (hn : n₀ ≤ w.heap.size) (hX : X.length = len) (hlim : len ≤ 281474976710656)
    (hor : len = 0 ∨ ∃ b off, a = some ⟨b, off, none⟩ ∧ b < n₀ ∧ ∀ j, j < len → w.cell? ⟨b, off + j * 2, none⟩ = some (.int .u16 ((X.getD j (0, 0)).1 : Int)) ∧ w.cell? ⟨b, off + j * 2 + 1, none⟩ = some (.int .u16 ((X.getD j (0, 0)).2 : Int))) :
    HandsV n₀ (some ⟨bx, 0, none⟩) X w := fun l J Jx W hW hJ hY h0 =>
  values_in l n₀ bx J Jx hJ hY W ((hW.cell (p := ⟨bx, 0, none⟩) hb).trans hbx) hX hlim (Nat.le_trans hn hW.size) (hor.imp id fun ⟨b, off, e, hbb, hc⟩ => ⟨b, off, e, hbb, fun j hj => ⟨(hW.cell (p := ⟨b, off + j * 2, none⟩) hbb).trans (hc j hj).1, (hW.cell (p := ⟨b, off + j * 2 + 1, none⟩) hbb).trans (hc j hj).2⟩⟩) h0

set_option maxHeartbeats 400000 in
theorem appendSeq_in (w : World) (p : Option Addr) (X : List (Nat × Nat)) (hH : HandsV w.heap.size p X w) (hX : X.length ≤ 65536) :
    CallsIn Fence.wide 10 Tryd.prog 66 #[.slice none 0 0, .func (.func 63) #[] #[.pointer p]] w fun e w' => ∃ v, e = .returned v ∧ w'.ownsRow w.heap.size 76 2 v X.length (X.flatMap gapC) ∧ Below w.heap.size w w' := by
  obtain ⟨i0, hi, hz0, hz1, hz2⟩ := info_parts info76
  refine callsIn_of_wp_marks Tryd.func66 rfl trivial ?_ rfl
  simp only [Tryd.ntmps66, List.size_toArray, List.length_cons, List.length_nil, Nat.reduceAdd, Nat.reduceSub, Array.replicate_succ, Array.replicate_zero, List.push_toArray, List.append_toArray, List.nil_append, List.cons_append]
  gi_wp2
  obtain ⟨W0, hW0⟩ : ∃ W0, w.alloc (Obj.cells #[Value.slice none 0 0] 41) = W0 := ⟨_, rfl⟩
  have hB0 : Below w.heap.size w W0 := by rw [← hW0]; exact (Below.refl _ w).alloc (Nat.le_refl _) _
  have hsz : W0.heap.size = w.heap.size + 1 := by rw [← hW0]; simp
  have hx2 : Boxed W0 w.heap.size 41 (.slice none 0 0) := by rw [← hW0]; exact Boxed.new w 41 _
  rw [hW0]
  clear hW0
  generalize hb0 : w.heap.size = n₀ at *
  have HB0 : Hid (w.heap.size = n₀) := hb0
  clear hb0
  have hl : HandsV n₀ p X W0 := fun l J Jx W hW => hH l J Jx W (hB0.trans hW)
  refine range_values (n₀ := n₀) (bs := X) (p := p) rfl hl (by omega)
    (fun k W => ∃ v, Boxed W n₀ 41 v ∧ W.ownsRow n₀ 76 2 v k ((X.take k).flatMap gapC) ∧ Below n₀ w W)
    (fun _ _ => False)
    (fun k W W' ⟨v, h2, h3, h4⟩ hc => ⟨v, boxed_calm h2 hc, row_calm h3 hc, hc.below (by omega) h4 (by have := HB0.out; omega)⟩)
    (fun _ _ _ h _ => h)
    ⟨_, hx2, World.ownsRow_nil _ _ _ _, hB0⟩
    (fun k a' W => ∃ Bx gp, X[k]? = some gp ∧ GapBox W Bx gp ∧ a' = { tmps := #[Value.slice none 0 0, Value.func (Fn.func 63) #[] #[Value.pointer p], Value.pointer (some { block := n₀, off := 0 }), undef, Value.slice none 0 0, .pointer (some ⟨Bx, 0, none⟩), Value.func (Fn.func 63) #[] #[Value.pointer p], gapV gp, undef, undef, undef, undef, undef], defers := [] })
    (fun k a' W W' ⟨Bx, gp, h0, h1, h2⟩ hc => ⟨Bx, gp, h0, h1.calm hc, h2⟩)
    ?assign ?body ?done (fun _ _ _ _ h => h.elim)
  case assign =>
    intro l k gp W K hk hi hK
    obtain ⟨v, h2, h3, h4⟩ := hi
    unfold gapV
    gi_wp2
    have hsW := h4.size
    rw [HB0.out] at hsW
    exact hK _ _ (keeps_new _ _ _) ((Below.refl _ W).alloc hsW _) ⟨v, h2.alloc _, h3.alloc _, h4.alloc hsW _⟩ ⟨_, gp, hk, GapBox.new W gp, rfl⟩
  case body =>
    rintro l k gp a' W hk ⟨v, h2, h3, h4⟩ ⟨Bx, gp', hk', hgb, rfl⟩
    rw [hk] at hk'; cases hk'
    have hkl : k < X.length := (List.getElem?_eq_some_iff.1 hk).1
    obtain ⟨va, vc, rfl⟩ := row_len h3
    have c2 := h2.cell
    have f2 := h2.frozen
    have c3 := hgb.start
    have c4 := hgb.stop
    have hsW := h4.size
    rw [HB0.out] at hsW
    have HE : Hid _ := gapC_snoc hk
    gi_wp2_with (gi_at_builtin; refine wpListIn_append_own _ rfl _ _ 41 rfl n₀ 76 i0 (.agg #[.int .u16 0, .int .u16 0]) 2 4 Tryd.underlying41 hi hz0 hz1 hz2 rfl (by decide) _ _ _ rfl (h3.alloc _) ⟨W.heap.size, 0, none⟩ 1 1 [.int .u16 (gp.1 : Int), .int .u16 (gp.2 : Int)] rfl rfl (cells_new2 _ _ _ _) (by simp [Value.oneCell']) ?c3 ?c4 (by simp; omega) ?_)
    case c3 => unfold maxLen; omega
    case c4 => omega
    intro v' W2 ho hgr _
    have hfr : Fr n₀ 76 W W2 := (Fr.alloc W hsW _).trans (Fr.grown (h3.alloc _) (by simp; omega) hgr)
    obtain ⟨va', vc', rfl⟩ := row_len ho
    have d2 := hfr.boxed (by decide) h2
    have c22 := d2.cell
    have f22 := d2.frozen
    clear c2 f2 c3 c4
    have HO : Hid _ := ho
    clear ho hgr h3 h2
    gi_wp2
    have ho := HO.out
    refine ⟨(hfr.keeps _).trans ((KeepsOthers.setCell _ _ _).from _), hfr.below.trans ((Below.refl _ _).setCell (p := ⟨n₀, 0, none⟩) (by simp) _), _, d2.set _, ?_, (h4.trans hfr.below).setCell (p := ⟨n₀, 0, none⟩) (by simp) _⟩
    rw [HE.out]
    refine ownsRow_setCell_other ho (fun hh => ?_) _
    exact d2.not_row (by decide) ho hh.symm
  case done =>
    rintro D W hD ⟨v, h2, h3, h4⟩ hdef
    have c2 := h2.cell
    gi_wp2
    refine ⟨by simp, .inl ⟨_, _, rfl, run_takeDeferred hdef, ?_⟩⟩
    rw [List.take_length] at h3
    have hbb := belowK_b (n₀ := n₀) (w := W0) (by omega) W D _ (.deferred none) hD hdef rfl rfl
    refine ⟨_, results_tmp rfl _ _ _, _, rfl, ?_, ?_⟩
    · rw [HB0.out]; exact ownsRow_putObj h3 _ hdef rfl
    · rw [HB0.out]; exact h4.trans hbb

theorem collect (w : World) (p : Option Addr) (X : List (Nat × Nat)) (hH : HandsV w.heap.size p X w) (hX : X.length ≤ 65536) :
    Calls Tryd.prog 61 #[.func (.func 63) #[] #[.pointer p]] w fun e w' => ∃ v, e = .returned v ∧ w'.ownsRow w.heap.size 76 2 v X.length (X.flatMap gapC) ∧ Below w.heap.size w w' := by
  have HC : Hid _ := callsIn_wide.1 (appendSeq_in w p X hH hX)
  clear hH
  go_enter Tryd.func61, Tryd.ntmps61
  go_wp2_with fail
  refine Calls.mono HC.out ?_
  rintro e w' ⟨v, rfl, h1, h2⟩
  go_wp2
  go_ret
  exact ⟨_, rfl, h1, h2⟩
end Go.Proofs.YtllipbkpbopomaaDoor.Sp
