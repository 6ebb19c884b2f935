/-
  What All and High answer.
  Conditions: the set hands out its blocks (it was made by the package, or has no marks, or is nil).
-/
import Derived.Test.YtdifceikfnnfeaaDoorSpAll
namespace Go.Proofs.YtdifceikfnnfeaaDoor.Sp
open Go.RowKit Go.Shelf
set_option linter.unusedVariables false
attribute [local go_sem] Oper.semAt_some

/-- blocks as the set hands them out -/
def Blocks (bs : List (Nat × Nat)) : Prop := bs.length ≤ 65536 ∧ ∀ g ∈ bs, 2 ≤ g.1 ∧ g.1 ≤ g.2 ∧ g.2 ≤ 65535
/-- the numbers of blocks -/
def expand (bs : List (Nat × Nat)) : List Nat := bs.flatMap fun g => List.range' g.1 (g.2 + 1 - g.1)
/-- the set behind a pointer, where it has blocks -/
def Behind (w : World) (p : Option Addr) (c : Nat) (bs : List (Nat × Nat)) : Prop :=
  Hands w.heap.size p bs w ∧ Blocks bs ∧ (bs ≠ [] → ∃ b R cnt made, p = some ⟨b, 0, none⟩ ∧ At w b R cnt made c ∧ c < 4294967296)
theorem Hands.later {n₀ : Nat} {p : Option Addr} {bs : List (Nat × Nat)} {w w' : World} (h : Hands n₀ p bs w) (hB : Below n₀ w w') : Hands n₀ p bs w' := fun l J Jx W hW => h l J Jx W (hB.trans hW)

theorem row_calm {B base e size n : Nat} {W W' : World} {v : Value} {xs : List Value} (h : W.ownsRow base e size v n xs) (hc : Calm B W W') : W'.ownsRow base e size v n xs := by
  refine ⟨h.1, ?_⟩
  rcases h.2 with hn | ⟨g, cap, cur, rfl, hb, hgg, rest⟩
  · exact .inl hn
  · exact .inr ⟨g, cap, cur, rfl, hb, hc.same hgg (.inr rfl), rest⟩
theorem boxed_calm {B b : Nat} {W W' : World} {t : TypeId} {v : Value} (h : Boxed W b t v) (hc : Calm B W W') : Boxed W' b t v := hc.same h (.inr rfl)

/-- the loop's variable -/
def GapBox (W : World) (Bx : Nat) (gp : Nat × Nat) : Prop := W.heap[Bx]? = some (.cells #[.int .u16 (gp.1 : Int), .int .u16 (gp.2 : Int)] 74 (0, 0))
theorem GapBox.calm {B Bx : Nat} {W W' : World} {gp : Nat × Nat} (h : GapBox W Bx gp) (hc : Calm B W W') : GapBox W' Bx gp := hc.same h (.inr rfl)
theorem GapBox.new (W : World) (gp : Nat × Nat) : GapBox (W.alloc (.cells #[.int .u16 (gp.1 : Int), .int .u16 (gp.2 : Int)] 74)) W.heap.size gp := World.alloc_heap_new W _
theorem GapBox.start {W : World} {Bx : Nat} {gp : Nat × Nat} (h : GapBox W Bx gp) : W.cell? ⟨Bx, 0, none⟩ = some (.int .u16 (gp.1 : Int)) := by simp [World.cell?, show W.heap[Bx]? = _ from h]
theorem GapBox.stop {W : World} {Bx : Nat} {gp : Nat × Nat} (h : GapBox W Bx gp) : W.cell? ⟨Bx, 1, none⟩ = some (.int .u16 (gp.2 : Int)) := by simp [World.cell?, show W.heap[Bx]? = _ from h]
theorem keeps_new (B : Nat) (W : World) (o : Obj) : KeepsFrom B W (W.alloc o) := (KeepsOthers.alloc W o).from B
theorem Fr.keeps {base e : Nat} {W W' : World} (h : Fr base e W W') (B : Nat) : KeepsFrom B W W' := ⟨h.below.size, fun k o _ hk ho => h.other k o hk (fun cur f hh => by rw [hh] at ho; cases ho)⟩
theorem Fr.boxed {base e b : Nat} {W W' : World} {t : TypeId} {v : Value} (h : Fr base e W W') (ht : t ≠ e) (hb : Boxed W b t v) : Boxed W' b t v := h.other b _ hb (fun cur f hh => by cases hh; exact ht rfl)
theorem row_slice {w : World} {base e size n : Nat} {v : Value} {xs : List Value} (h : w.ownsRow base e size v n xs) : ∃ a m cap, v = .slice a m cap := by
  rcases h.2 with ⟨rfl, _⟩ | ⟨g, cap, cur, rfl, _⟩ <;> exact ⟨_, _, _, rfl⟩
theorem expand_snoc {bs : List (Nat × Nat)} {k : Nat} {g : Nat × Nat} (h : bs[k]? = some g) : expand (bs.take (k + 1)) = expand (bs.take k) ++ List.range' g.1 (g.2 + 1 - g.1) := by
  unfold expand; rw [List.take_add_one, h]; simp [List.flatMap_append]
theorem expand_le (bs : List (Nat × Nat)) (h : Blocks bs) (k : Nat) : (expand (bs.take k)).length ≤ 4294967296 := by
  have key : ∀ (l : List (Nat × Nat)), (∀ g ∈ l, g.2 ≤ 65535) → (expand l).length ≤ l.length * 65536 := by
    intro l
    induction l with
    | nil => intro _; simp [expand]
    | cons g r ih =>
      intro hl
      have h1 := ih (fun x hx => hl x (by simp [hx]))
      have h2 := hl g (by simp)
      have h3 : (expand (g :: r)).length = (g.2 + 1 - g.1) + (expand r).length := by simp [expand]
      rw [h3, List.length_cons, Nat.add_mul]; omega
  have h1 := key (bs.take k) (fun g hg => (h.2 g (List.mem_of_mem_take hg)).2.2)
  have h2 : (bs.take k).length ≤ 65536 := by rw [List.length_take]; have := h.1; omega
  have h3 : (bs.take k).length * 65536 ≤ 65536 * 65536 := Nat.mul_le_mul_right _ h2
  omega

set_option maxHeartbeats 400000 in
theorem all_in (w : World) (p : Option Addr) (c : Nat) (bs : List (Nat × Nat)) (h : Behind w p c bs) :
    CallsIn Fence.wide 10 Tryd.prog 46 #[.pointer p] w fun e w' => ∃ v, e = .returned v ∧ w'.ownsRow w.heap.size 22 1 v (expand bs).length ((expand bs).map (tsV c)) ∧ Below w.heap.size w w' := by
  obtain ⟨hH, hbs, hat⟩ := h
  refine callsIn_of_wp_marks Tryd.func46 rfl trivial ?_ rfl
  simp only [Tryd.ntmps46, List.size_toArray, List.length_cons, List.length_nil, Nat.reduceAdd, Nat.reduceSub, Array.replicate_succ, Array.replicate_zero, List.push_toArray, List.append_toArray, List.nil_append, List.cons_append]
  gi_wp2
  obtain ⟨W0, hW0⟩ : ∃ W0, (w.alloc (Obj.cells #[Value.pointer p] 77)).alloc (Obj.cells #[Value.slice none 0 0] 33) = W0 := ⟨_, rfl⟩
  have hB0 : Below w.heap.size w W0 := by rw [← hW0]; exact ((Below.refl _ w).alloc (Nat.le_refl _) _).alloc (by simp) _
  have hsz : W0.heap.size = w.heap.size + 2 := by rw [← hW0]; simp
  have hx1 : Boxed W0 w.heap.size 77 (.pointer p) := by rw [← hW0]; exact (Boxed.new w 77 _).alloc _
  have hx2 : Boxed W0 (w.heap.size + 1) 33 (.slice none 0 0) := by rw [← hW0]; have := Boxed.new (w.alloc (Obj.cells #[Value.pointer p] 77)) 33 (.slice none 0 0); rwa [World.size_alloc] at this
  rw [hW0]
  clear hW0
  generalize hb0 : w.heap.size = n₀ at *
  have HB0 : Hid (w.heap.size = n₀) := hb0
  clear hb0
  refine range_blocks (n₀ := n₀) (bs := bs) (p := p) rfl (hH.later hB0) (by omega)
    (fun k W => ∃ v, Boxed W n₀ 77 (.pointer p) ∧ Boxed W (n₀ + 1) 33 v ∧ W.ownsRow n₀ 22 1 v (expand (bs.take k)).length ((expand (bs.take k)).map (tsV c)) ∧ Below n₀ w W)
    (fun _ _ => False)
    (fun k W W' ⟨v, h1, h2, h3, h4⟩ hc => ⟨v, boxed_calm h1 hc, boxed_calm h2 hc, row_calm h3 hc, hc.below (by omega) h4 (by have := HB0.out; omega)⟩)
    (fun _ _ _ h _ => h)
    ⟨_, hx1, hx2, World.ownsRow_nil _ _ _ _, hB0⟩
    (fun k a' W => ∃ Bx gp, bs[k]? = some gp ∧ GapBox W Bx gp ∧ a' = { tmps := #[Value.pointer p, Value.pointer (some { block := n₀, off := 0 }), Value.slice none 0 0, Value.pointer (some { block := n₀ + 1, off := 0 }), .pointer (some ⟨Bx, 0, none⟩), Value.pointer p, Value.func (Fn.func 65) #[Value.pointer p] #[], gapV gp, undef, undef, undef, undef, undef, undef, undef, undef, undef, undef], defers := [] })
    (fun k a' W W' ⟨Bx, gp, h0, h1, h2⟩ hc => ⟨Bx, gp, h0, h1.calm hc, h2⟩)
    ?assign ?body ?done (fun _ _ _ _ h => h.elim)
  case assign =>
    intro l k gp W K hk hi hK
    obtain ⟨v, h1, h2, h3, h4⟩ := hi
    unfold gapV
    gi_wp2
    have hsW := h4.size
    rw [HB0.out] at hsW
    exact hK _ _ (keeps_new _ _ _) ((Below.refl _ W).alloc hsW _) ⟨v, h1.alloc _, h2.alloc _, h3.alloc _, h4.alloc hsW _⟩ ⟨_, gp, hk, GapBox.new W gp, rfl⟩
  case body =>
    rintro l k gp a' W hk ⟨v, h1, h2, h3, h4⟩ ⟨Bx, gp', hk', hgb, rfl⟩
    rw [hk] at hk'; cases hk'
    obtain ⟨b, R, cnt, made, rfl, hA, hc⟩ := hat (by rintro rfl; simp at hk)
    have hbn := hA.lt
    rw [HB0.out] at hbn
    have hA' := hA.of_block (w' := W) (h4.block b hbn)
    have hgp := hbs.2 gp (List.mem_of_getElem? hk)
    have c1 := h1.cell
    have c2 := h2.cell
    have f2 := h2.frozen
    have c3 := hgb.start
    have c4 := hgb.stop
    have hsW := h4.size
    rw [HB0.out] at hsW
    have hle := expand_le bs hbs k
    have CA : Hid _ := appendRange b W hA' hc n₀ v _ _ h3 hsW (gp.1 : Int) (gp.2 : Int) (by omega) (by omega) hle
    have HE : Hid _ := expand_snoc hk
    gi_wp2_with fail
    refine ⟨trivial, (CallsIn.inRound l (callsIn_wide.2 CA.out)).mono ?_⟩
    rintro e W2 ⟨v', rfl, ho, hfr⟩
    obtain ⟨va, vm, vc, rfl⟩ := row_slice ho
    have d1 := hfr.boxed (by decide) h1
    have d2 := hfr.boxed (by decide) h2
    have c22 := d2.cell
    have f22 := d2.frozen
    clear c1 c2 f2 c3 c4
    have HO : Hid _ := ho
    clear ho
    gi_wp2
    have ho := HO.out
    refine ⟨(hfr.keeps _).trans ((KeepsOthers.setCell _ _ _).from _), hfr.below.trans ((Below.refl _ _).setCell (p := ⟨n₀ + 1, 0, none⟩) (by simp) _), _, d1.other (by omega) _, d2.set _, ?_, (h4.trans hfr.below).setCell (p := ⟨n₀ + 1, 0, none⟩) (by simp) _⟩
    rw [HE.out, List.map_append, List.length_append, List.length_range']
    have e1 : ((gp.2 : Int) + 1 - (gp.1 : Int)).toNat = gp.2 + 1 - gp.1 := by omega
    rw [e1, Int.toNat_natCast] at ho
    refine ownsRow_setCell_other ho (fun hh => ?_) _
    exact d2.not_row (by decide) ho hh.symm
  case done =>
    rintro D W hD ⟨v, h1, h2, h3, h4⟩ hdef
    have c2 := h2.cell
    gi_wp2
    refine ⟨by simp, .inl ⟨_, _, rfl, run_takeDeferred hdef, ?_⟩⟩
    rw [List.take_length] at h3
    have hbb := belowK_b (n₀ := n₀) (w := W0) (by omega) W D _ (.deferred none) hD hdef rfl rfl
    refine ⟨_, results_tmp rfl _ _ _, _, rfl, ?_, ?_⟩
    · rw [HB0.out]; exact ownsRow_putObj h3 _ hdef rfl
    · rw [HB0.out]; exact h4.trans hbb

theorem all_ (w : World) (p : Option Addr) (c : Nat) (bs : List (Nat × Nat)) (h : Behind w p c bs) :
    Calls Tryd.prog 46 #[.pointer p] w fun e w' => ∃ v, e = .returned v ∧ w'.ownsRow w.heap.size 22 1 v (expand bs).length ((expand bs).map (tsV c)) ∧ Below w.heap.size w w' := callsIn_wide.1 (all_in w p c bs h)

/-- the last number of blocks; 0: there is none -/
def lastOf (bs : List (Nat × Nat)) : Nat := (bs.getLast?.map (·.2)).getD 0
theorem last_snoc {bs : List (Nat × Nat)} {k : Nat} {g : Nat × Nat} (h : bs[k]? = some g) : lastOf (bs.take (k + 1)) = g.2 := by
  unfold lastOf; rw [List.take_add_one, h]; simp

end Go.Proofs.YtdifceikfnnfeaaDoor.Sp
