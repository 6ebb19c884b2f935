/-
  All chunks of a box, told.
  Conditions: the box lies in memory, or is nil, or was made by no call.
-/
import Derived.Test.YtjceeckcfjjkkaaObX
import Derived.Test.YtjceeckcfjjkkaaObH
namespace Go.Proofs.Ytjceeckcfjjkkaa.Ob
open Go.ChangeShapes Go.WideShapes Go.ChangeAt Go.RowKit Go.Shelf
open Ba (hidden Has cell_lt heap_lt)
set_option linter.unusedVariables false
attribute [local go_sem] Oper.semAt_some
/-- a new row of no length, with room -/
theorem make_room {P : Program} {t e : TypeId} {z : Value} {size bytes : Nat} (ht : P.underlying t = some (.slice e)) (hinfo : (P.info? e).map (fun i => (i.zero, i.size, i.bytes)) = some (some z, size, bytes)) (c : Nat) (hb : bytes * c ≤ 281474976710656) (h63 : c ≤ 9223372036854775807) :
    ∃ mk : World → World, (∀ w : World, (Instr.makeSlice t (.int .i64 0) (.int .i64 (c : Int))).run P w = .ok (.slice (some ⟨w.heap.size, 0, none⟩) 0 c) (mk w)) ∧ (∀ w : World, Has (mk w) w.heap.size (madeCells z.cells (c * size)) e) ∧ (∀ w : World, Below w.heap.size w (mk w)) ∧ ∀ w : World, (mk w).heap.size = w.heap.size + 1 := by
  obtain ⟨i, hi, hz, rfl, rfl⟩ := info_parts hinfo
  refine ⟨fun w => w.alloc (.cells (madeCells z.cells (c * i.size)) e), fun w => ?_, fun w => Has.new w _ _, fun w => (Below.refl _ w).alloc (Nat.le_refl _) _, fun w => by simp [World.alloc, -World.alloc_eq]⟩
  have h2 : (i.bytes : Int) * (c : Int) ≤ 281474976710656 := by
    have h : ((i.bytes * c : Nat) : Int) ≤ 281474976710656 := by omega
    rwa [Int.natCast_mul] at h
  have := run_make (P := P) w t e i z ht hi hz .i64 .i64 0 (c : Int) (by omega) (by omega) h2 (by omega)
  simp only [Int.toNat_natCast, Int.toNat_zero] at this
  exact this
theorem run_bsO (y : Ch) (a : Option Addr) (l c : Nat) (w : World) : (Instr.buildSlice 55 1 #[(0, ov y (.slice a l c))]).run Try.prog w = .ok (.slice (some ⟨w.heap.size, 0, none⟩) 1 1) (w.alloc (.cells (cc ⟨y, .slice a l c⟩).toArray 59)) := by kernel_rfl
/-- chunks that were told, a row of them -/
def Told (base : Nat) (w : World) (v : Value) (L : List Ch) : Prop := ∃ ps, Rw 59 w v ps ∧ ps.map (·.x) = L ∧ (∀ p ∈ ps, Mine base w p.v p.x.p.d) ∧ ∀ j, v.ownBlock = some j → base ≤ j
theorem Told.calm {B base : Nat} {w w' : World} {v : Value} {L : List Ch} (h : Told base w v L) (hc : Calm B w w') : Told base w' v L := by
  obtain ⟨ps, h1, h2, h3, h4⟩ := h
  exact ⟨ps, h1.calm hc, h2, fun p hp => (h3 p hp).calm hc, h4⟩
theorem Told.later {base : Nat} {w w' : World} {v : Value} {L : List Ch} (h : Told base w v L) (hB : Below w.heap.size w w') : Told base w' v L := by
  obtain ⟨ps, h1, h2, h3, h4⟩ := h
  exact ⟨ps, h1.later hB, h2, fun p hp => (h3 p hp).later hB, h4⟩
/-- worlds while a chunk is appended to those that were told -/
structure AlA (W : World) (b : Nat) (vc : Value) (ps : List CV) (y : Ch) (base : Nat) (k : Nat) (x : Value × Nat × Value) (w' : World) : Prop where
  md : Mod (fun j => j = b ∨ vc.ownBlock = some j) W w'
  nb : ∀ j, vc.ownBlock = some j → j ≠ b
  lb : b < W.heap.size
  ow : ∀ j, vc.ownBlock = some j → ∃ cs, Has W j cs 59
  hb : k ≤ 3 → Has w' b #[vc] 55
  hr : k ≤ 2 → Rw 59 w' vc ps
  hm : 1 ≤ k → Mine W.heap.size w' x.1 y.p.d
  hs : k = 2 → Has w' x.2.1 (cc ⟨y, x.1⟩).toArray 59 ∧ W.heap.size ≤ x.2.1
  ha : 3 ≤ k → Rw 59 w' x.2.2 (ps ++ [⟨y, x.1⟩]) ∧ ∀ j, x.2.2.ownBlock = some j → vc.ownBlock = some j ∨ W.heap.size ≤ j
  h4 : k = 4 → Has w' b #[x.2.2] 55
section
variable {W w' w2 : World} {b base : Nat} {vc u : Value} {ps : List CV} {y : Ch} {x : Value × Nat × Value}
theorem AlA.first (h : Has W b #[vc] 55) (hr : Rw 59 W vc ps) (y : Ch) (x : Value × Nat × Value) : AlA W b vc ps y base 0 x W.drew :=
  ⟨(Mod.refl _ W).drewr, fun j hj e => by obtain ⟨cur, hh⟩ := hr.obj hj; exact hh.ne h (by decide) e, h.lt, fun j hj => hr.obj hj, fun _ => h, fun _ => hr.later ⟨rfl, rfl, rfl, Nat.le_refl _, fun _ _ => rfl⟩, fun e => absurd e (by decide), fun e => absurd e (by decide), fun e => absurd e (by decide), fun e => absurd e (by decide)⟩
theorem AlA.one (h : AlA W b vc ps y base 0 x w') (hm : Mine w'.heap.size w2 u y.p.d) (hB : Below w'.heap.size w' w2) : AlA W b vc ps y base (0 + 1) (u, x.2) w2 :=
  ⟨h.md.trans (Mod.of_below (F := fun _ => False) hB) (fun _ h => h.elim), h.nb, h.lb, h.ow, fun _ => (h.hb (by decide)).later hB, fun _ => (h.hr (by decide)).later hB, fun _ => ⟨Ba.own_mono hm.1 (fun k hk => by obtain ⟨cur, _, h2⟩ := hm.obj hk; have := h.md.size; omega), hm.2⟩, fun e => absurd e (by decide), fun e => absurd e (by decide), fun e => absurd e (by decide)⟩
theorem AlA.two (h : AlA W b vc ps y base 1 x w') : (Instr.buildSlice 55 1 #[(0, ov y x.1)]).run Try.prog w' = .ok (.slice (some ⟨w'.heap.size, 0, none⟩) 1 1) (w'.alloc (.cells (cc ⟨y, x.1⟩).toArray 59)) ∧ AlA W b vc ps y base (1 + 1) (x.1, w'.heap.size, x.2.2) (w'.alloc (.cells (cc ⟨y, x.1⟩).toArray 59)) := by
  have hm := h.hm (by decide)
  have hB : Below w'.heap.size w' (w'.alloc (.cells (cc ⟨y, x.1⟩).toArray 59)) := (Below.refl _ _).alloc (Nat.le_refl _) _
  obtain ⟨a, l, c, hx⟩ := mine_one hm
  refine ⟨?_, h.md.trans (Mod.of_below (F := fun _ => False) hB) (fun _ h => h.elim), h.nb, h.lb, h.ow, fun _ => (h.hb (by decide)).later hB, fun _ => (h.hr (by decide)).later hB, fun _ => hm.later hB, fun _ => ⟨Has.new _ _ _, h.md.size⟩, fun e => absurd e (by decide), fun e => absurd e (by decide)⟩
  rw [hx]
  exact run_bsO y a l c w'
theorem AlA.three (h : AlA W b vc ps y base 2 x w') (hl : ps.length ≤ 1073741824) (ty : TypeId) : ∃ v' w2, (Builtin.append_ #[55, 55] ty #[vc, .slice (some ⟨x.2.1, 0, none⟩) 1 1]).run Try.prog w' = .ok v' w2 ∧ AlA W b vc ps y base (2 + 1) (x.1, x.2.1, v') w2 := by
  have hm := h.hm (by decide)
  obtain ⟨a, l, c, hx⟩ := mine_one hm
  obtain ⟨v', w2, h1, h2, h3, h4⟩ := app_chunk Try.underlying55 info_out rfl (by decide) (h.hr (by decide)) hl (p := ⟨y, x.1⟩) (by rw [hx]; rfl) (h.hs rfl).1 ty
  have hb := h.hb (by decide)
  refine ⟨v', w2, h1, h.md.trans h3 (fun j hj => .inl (.inr hj)), h.nb, h.lb, h.ow, fun _ => h3.has hb (fun e => h.nb b e rfl), fun e => absurd e (by decide), fun _ => hm.stay h3 (fun k hk e => ?_), fun e => absurd e (by decide), fun _ => ⟨h2, fun j hj => (h4 j hj).imp id (fun e => Nat.le_trans h.md.size e)⟩, fun e => absurd e (by decide)⟩
  obtain ⟨cur, h5, _⟩ := hm.obj hk
  obtain ⟨cs, hh⟩ := (h.hr (by decide)).obj e
  exact h5.ne hh (by decide) rfl
theorem st_outs {w : World} {b : Nat} {v : Value} (a : Option Addr) (l c : Nat) (h : Has w b #[v] 55) : (Instr.storeAt 55 (.pointer (some ⟨b, 0, none⟩)) (.slice a l c)).run Try.prog w = .ok () (w.setCell ⟨b, 0, none⟩ (.slice a l c)) := by
  simp [go_sem, h.cell 0 rfl, h.frozen 0]
theorem AlA.four (h : AlA W b vc ps y base 3 x w') : (Instr.storeAt 55 (.pointer (some ⟨b, 0, none⟩)) x.2.2).run Try.prog w' = .ok () (w'.setCell ⟨b, 0, none⟩ x.2.2) ∧ AlA W b vc ps y base (3 + 1) x (w'.setCell ⟨b, 0, none⟩ x.2.2) := by
  have hb := h.hb (by decide)
  obtain ⟨ha, ho⟩ := h.ha (by decide)
  obtain ⟨a, cap, hx, _⟩ := ha.slice
  have hm := h.hm (by decide)
  have hs : Mod (fun j => j = b) w' (w'.setCell ⟨b, 0, none⟩ x.2.2) := Mod.setCell (F := fun j => j = b) w' (p := ⟨b, 0, none⟩) rfl _
  refine ⟨by rw [hx]; exact st_outs _ _ _ hb, h.md.trans hs (fun j hj => .inl (.inl hj)), h.nb, h.lb, h.ow, fun e => absurd e (by decide), fun e => absurd e (by decide), fun _ => hm.stay hs (fun k hk e => ?_), fun e => absurd e (by decide), fun _ => ⟨ha.stay hs (fun k hk e => ?_), ho⟩, fun _ => hb.set 0 x.2.2⟩
  · obtain ⟨cur, h5, _⟩ := hm.obj hk
    subst e
    exact h5.ne hb (by decide) rfl
  · obtain ⟨cs, hh⟩ := ha.obj hk
    exact hh.ne hb (by decide) e
end
section
variable {D F : Nat → Prop} {w w' : World} {t f : Nat} {rv : Value} {P : List CV} {nx : Int} {n : Nat} {L : List Ch} {fs : Nat → Int} {m : Int} {i g o : Nat} {x y : Ch}
set_option maxHeartbeats 2000000 in
theorem all (h : No D w t f rv P nx n L fs m) (hl : L.length ≤ 1001) (hd : ∀ x ∈ L, 1 ≤ x.p.d.length) :
    Calls Try.prog 16 #[.pointer (some ⟨t, 0, none⟩)] w fun e w' => ∃ v, e = .returned v ∧ Told w.heap.size w' v L ∧ Below w.heap.size w w' := by
  refine (callsIn_wide (n := 10)).1 ?_
  obtain ⟨mo, m1, m2, m3, m4⟩ := make_room (P := Try.prog) Try.underlying55 info_out L.length (by omega) (by omega)
  have U := hidden (unmade h)
  have c0 := h.q.cell 0 rfl
  have htl := h.q.lt
  obtain ⟨ra, rc, hv, _⟩ := h.rw_.slice
  rw [h.len] at hv
  rw [hv] at c0
  have HN := hidden h
  have HROW := hidden h.row
  have HL := hidden hl
  have HD := hidden hd
  generalize hN : L.length = N at *
  have HNN := hidden hN
  obtain ⟨W1, hW1⟩ : ∃ W1, W1 = (mo w).alloc (.cells #[.slice (some ⟨w.heap.size, 0, none⟩) 0 N] 55) := ⟨_, rfl⟩
  have hBm := m3 w
  have hsm := m4 w
  have hBn : Below (mo w).heap.size (mo w) W1 := by rw [hW1]; exact (Below.refl _ _).alloc (Nat.le_refl _) _
  have hbn : Has W1 (w.heap.size + 1) #[.slice (some ⟨w.heap.size, 0, none⟩) 0 N] 55 := by
    have := Has.new (mo w) #[.slice (some ⟨w.heap.size, 0, none⟩) 0 N] 55
    rw [hsm] at this
    rw [hW1]; exact this
  have hrw : Rw 59 W1 (.slice (some ⟨w.heap.size, 0, none⟩) 0 N) [] := .inr ⟨w.heap.size, 0, N, _, rfl, (m2 w).later hBn, Nat.zero_le _, by rw [size_madeCells]; omega, by omega, fun j u hj => by cases hj⟩
  have H1 : Hid (Below w.heap.size w W1 ∧ Has W1 (w.heap.size + 1) #[.slice (some ⟨w.heap.size, 0, none⟩) 0 N] 55 ∧ Rw 59 W1 (.slice (some ⟨w.heap.size, 0, none⟩) 0 N) [] ∧ w.heap.size + 2 ≤ W1.heap.size) := ⟨hBm.trans (hBn.mono (by omega)), hbn, hrw, by have := hbn.lt; omega⟩
  have HW1 := hidden hW1
  clear h hl hd hN hBm hBn hbn hrw m2 m3 hv hW1 hsm
  refine callsIn_of_wp_marks Try.func16 rfl trivial ?_ rfl
  simp only [Try.ntmps16, List.size_toArray, List.length_cons, List.length_nil, Nat.reduceAdd, Nat.reduceSub, Array.replicate_succ, Array.replicate_zero, List.push_toArray, List.append_toArray, List.nil_append, List.cons_append]
  gi_wp2_with fail
  refine ⟨trivial, (callsIn_wide.2 U.out).mono ?_⟩
  rintro e w' ⟨rfl, rfl⟩
  gi_wp2_with fail
  rw [← HW1.out]
  refine range_each (t := t) (rv := rv) (n := N) rfl HROW.out (by have := HL.out; omega)
    (fun k W => Below w.heap.size w W ∧ ∃ vc ps, Has W (w.heap.size + 1) #[vc] 55 ∧ Rw 59 W vc ps ∧ ps.map (·.x) = L.take k ∧ (∀ p ∈ ps, Mine w.heap.size W p.v p.x.p.d) ∧ ∀ j, vc.ownBlock = some j → w.heap.size ≤ j)
    (fun W => False) (fun k W hI => (hI.1.cell (p := ⟨t, 0, none⟩) htl).trans (HN.out.q.cell 0 rfl))
    (fun k W W' hI hc => by
      obtain ⟨hB, vc, ps, h1, h2, h3, h4, h5⟩ := hI
      exact ⟨hc.below (by have := H1.out.2.2.2; omega) hB (Nat.le_refl _), vc, ps, hc.has h1, h2.calm hc, h3, fun p hp => (h4 p hp).calm hc, h5⟩)
    (fun W W' hI hc => hI.elim)
    ⟨H1.out.1, _, _, H1.out.2.1, H1.out.2.2.1, rfl, (fun p hp => by cases hp), (fun j hj => by cases hj; exact Nat.le_refl _)⟩
    ?round ?done (fun D W _ hI _ => hI.elim)
  case done =>
    rintro Dd W hD ⟨hB, vc, ps, h1, h2, h3, h4, h5⟩ hdef
    have hTo : Told w.heap.size W vc L := ⟨ps, h2, by rw [h3, ← HNN.out, List.take_length], h4, h5⟩
    have z0 := h1.cell 0 rfl
    have G := hidden (And.intro hTo hB)
    clear hB h1 h2 h3 h4 h5 hTo
    gi_wp2
    refine ⟨by simp, .inl ⟨_, _, rfl, run_takeDeferred hdef, ?_⟩⟩
    have hc := Calm.put (B := W1.heap.size) (.deferred none) hD hdef rfl
    exact ⟨_, results_tmp rfl _ _ _, vc, rfl, G.out.1.calm hc, hc.below (by have := H1.out.2.2.2; omega) G.out.2 (Nat.le_refl _)⟩
  case round =>
    intro l k W hk hi
    gi_wp2
    first | refine ⟨trivial, fun W3 hI3 => ?_⟩ | intro W3 hI3
    obtain ⟨hB3, vc, ps, h1, h2, h3, h4, h5⟩ := hI3
    have hN3 := HN.out.later hB3
    obtain ⟨y, hy⟩ : ∃ y, L[k]? = some y := ⟨_, List.getElem?_eq_getElem (by rw [HNN.out]; exact hk)⟩
    obtain ⟨g, o, hp, he⟩ := hN3.place (k := k) (by rw [HNN.out]; exact hk)
    rw [he]
    have HLT : Hid (∀ j, FC t f rv j → j < w.heap.size) := fun j hj => HN.out.lt hj
    have HTD : Hid (∀ w', Mod (fun j => j = w.heap.size + 1 ∨ vc.ownBlock = some j) W3 w' → Calls Try.prog 42 #[.pointer (some ⟨g, o, none⟩)] w' fun e w2 => ∃ u, e = .returned (ov y u) ∧ Mine w'.heap.size w2 u y.p.d ∧ Below w'.heap.size w' w2) := fun w' hm => by
      refine told (hN3.stay hm (fun j hj e => ?_) (fun j cur _ hh e => ?_)) hp hy (HD.out y (List.mem_of_getElem? hy))
      · have := HLT.out j hj
        rcases e with e | e
        · omega
        · have := h5 j e; omega
      · rcases e with e | e
        · subst e; exact hh.ne h1 (by decide) rfl
        · obtain ⟨cs, h6⟩ := h2.obj e
          exact hh.ne h6 (by decide) rfl
    have ET : Hid (∀ (args : Array Value) (w : World), (callFunc 42 args).run Try.prog w = .ok (.enter 42 args) w) := enters_of Try.func42 (by kernel_rfl) rfl
    have HV := hidden (And.intro h1 h2)
    have HPL : Hid (ps.length ≤ 1073741824) := by
      have e1 := congrArg List.length h3
      rw [List.length_map, List.length_take] at e1
      have := HL.out
      have := HNN.out
      show _ ≤ _
      omega
    have H4 := hidden (And.intro hB3 (And.intro h3 (And.intro h4 h5)))
    have HY := hidden hy
    clear h1 h2 h3 h4 h5 hB3 hN3 hp hy he hi
    gi_wp2_with fail
    refine Ord.wp_region_exR (X := Value × Nat × Value) (by kernel_rfl) 24 (fun x => [(some 18, vc), (some 19, .pointer (some ⟨g, o, none⟩)), (some 20, ov y x.1), (some 21, .slice (some ⟨x.2.1, 0, none⟩) 1 1), (some 22, x.2.2), (none, undef)]) [some 18, some 19, some 20, some 21, some 22, none] rfl (fun listed hsz hr => Ord.all_listedC (rank := [0, 1, 2, 3, 4, 5]) (by kernel_rfl) hsz hr) (by rfl) (fun _ => rfl) (by kernel_rfl) (Rg.StM [2, 3, 4, 5] (fun sk sx w' => AlA W3 (w.heap.size + 1) vc ps y w.heap.size sk sx w')) (fun _ _ _ _ hL h => h.ext (n := 6) (by decide) hL) ?_ ?_ (undef, 0, undef) ?_
    case refine_1 =>
      intro x Lq iq oq ac w' ho hi hcl hdep hF hW
      have f1 : ac.tmps.size = 24 := hF.1
      match iq, ho, hi, hdep with
      | 0, ho, hi, hdep =>
        cases ho
        have da0 : ac.eval (.tmp 3) = .pointer (some ⟨w.heap.size + 1, 0, none⟩) := hF.old 3 rfl
        obtain ⟨kq, hlo, hhi, hA⟩ := hW.range 0 2 (.inl rfl) (.inr ⟨4, rfl, (Rg.no_of (fun h => hcl 4 _ rfl (h) ⟨0, .data⟩ (by simp) rfl) hi)⟩)
        exact Ord.ex_value x rfl rfl (Rg.load da0 rfl (by simp [go_sem, (hA.hb (by omega)).cell 0 rfl])) rfl (hW.keep (by decide))
      | 1, ho, hi, hdep =>
        cases ho
        have da0 : ac.eval (.tmp 5) = .pointer (some ⟨g, o, none⟩) := hF.old 5 rfl
        exact Ord.ex_value x rfl rfl (Rg.mv da0 rfl) rfl (hW.keep (by decide))
      | 2, ho, hi, hdep =>
        cases ho
        have da0 : ac.eval (.tmp 19) = .pointer (some ⟨g, o, none⟩) := hF.2.2.2 1 19 _ rfl (hdep ⟨1, .data⟩ (by simp) rfl)
        have hA := hW.at (k := 0) rfl hi (.inl rfl)
        refine Rg.ex_calll x rfl rfl (Rg.enter (args := #[.pointer (some ⟨g, o, none⟩)]) rfl rfl (by simp [da0]) ET.out) (Calls.mono (HTD.out _ (hA.md)) ?_)
        rintro e w2 ⟨u, rfl, hm, hB⟩
        exact ⟨(u, x.2), rfl, (fun j hj => match j, hj with | 0, _ => rfl | 1, _ => rfl | 2, hj => absurd hj (by rw [hi]; decide) | 3, _ => rfl | 4, _ => rfl | 5, _ => rfl | _ + 6, _ => rfl), hW.next (k := 0) rfl (by decide) hi (.inl rfl) (hA.one hm hB)⟩
      | 3, ho, hi, hdep =>
        cases ho
        have da0 : ac.eval (.tmp 20) = ov y x.1 := hF.2.2.2 2 20 _ rfl (hdep ⟨2, .data⟩ (by simp) rfl)
        have hA := hW.at (k := 1) rfl hi (.inr ⟨2, rfl, (hdep ⟨2, .data⟩ (by simp) rfl)⟩)
        obtain ⟨hr, hA2⟩ := hA.two
        exact Ord.ex_letter x (x.1, w'.heap.size, x.2.2) rfl rfl (Rg.bsl rfl (by simp [da0]) hr) rfl (fun j hj => match j, hj with | 0, _ => rfl | 1, _ => rfl | 2, _ => rfl | 3, hj => absurd hj (by rw [hi]; decide) | 4, _ => rfl | 5, _ => rfl | _ + 6, _ => rfl) (hW.next (k := 1) rfl (by decide) hi (.inr ⟨2, rfl, (hdep ⟨2, .data⟩ (by simp) rfl)⟩) hA2)
      | 4, ho, hi, hdep =>
        cases ho
        have da0 : ac.eval (.tmp 18) = vc := hF.2.2.2 0 18 _ rfl (hdep ⟨0, .data⟩ (by simp) rfl)
        have da1 : ac.eval (.tmp 21) = .slice (some ⟨x.2.1, 0, none⟩) 1 1 := hF.2.2.2 3 21 _ rfl (hdep ⟨3, .data⟩ (by simp) rfl)
        have hA := hW.at (k := 2) rfl hi (.inr ⟨3, rfl, (hdep ⟨3, .data⟩ (by simp) rfl)⟩)
        obtain ⟨v', w2, hr, hA2⟩ := hA.three HPL.out 55
        exact Ord.ex_letter x (x.1, x.2.1, v') rfl rfl (Rg.app da0 da1 rfl hr) rfl (fun j hj => match j, hj with | 0, _ => rfl | 1, _ => rfl | 2, _ => rfl | 3, _ => rfl | 4, hj => absurd hj (by rw [hi]; decide) | 5, _ => rfl | _ + 6, _ => rfl) (hW.next (k := 2) rfl (by decide) hi (.inr ⟨3, rfl, (hdep ⟨3, .data⟩ (by simp) rfl)⟩) hA2)
      | 5, ho, hi, hdep =>
        cases ho
        have da0 : ac.eval (.tmp 3) = .pointer (some ⟨w.heap.size + 1, 0, none⟩) := hF.old 3 rfl
        have da1 : ac.eval (.tmp 22) = x.2.2 := hF.2.2.2 4 22 _ rfl (hdep ⟨4, .data⟩ (by simp) rfl)
        have hA := hW.at (k := 3) rfl hi (.inr ⟨4, rfl, (hdep ⟨4, .data⟩ (by simp) rfl)⟩)
        obtain ⟨hr, hA2⟩ := hA.four
        exact Rg.ex_skip x rfl rfl (Rg.sto da0 da1 rfl hr) rfl (hW.next (k := 3) rfl (by decide) hi (.inr ⟨4, rfl, (hdep ⟨4, .data⟩ (by simp) rfl)⟩) hA2)
    case refine_3 => exact Rg.StM.first (AlA.first HV.out.1 HV.out.2 _ _)
    case refine_2 =>
      intro x W4 hW
      have hA := hW.last
      clear hW
      simp only [Ord.puts, Ord.prs]
      go_simp
      have G : Hid (KeepsFrom W1.heap.size W3 W4 ∧ Below w.heap.size w W4 ∧ ∃ vc ps, Has W4 (w.heap.size + 1) #[vc] 55 ∧ Rw 59 W4 vc ps ∧ ps.map (·.x) = L.take (k + 1) ∧ (∀ p ∈ ps, Mine w.heap.size W4 p.v p.x.p.d) ∧ ∀ j, vc.ownBlock = some j → w.heap.size ≤ j) := by
        obtain ⟨q1, q2, q3, q4⟩ := H4.out
        have hs3 := q1.size
        have h3s : w.heap.size + 2 ≤ W3.heap.size := by have := hA.lb; omega
        obtain ⟨a1, a2⟩ := hA.ha (by decide)
        have hm := hA.hm (by decide)
        refine ⟨keeps_mod hA.md (fun j hj => ?_), q1.trans (hA.md.below hs3 (fun j hj => ?_)), x.2.2, _, hA.h4 rfl, a1, ?_, fun p hp => ?_, fun j hj => ?_⟩
        · rcases hj with hj | hj
          · exact .inl (by have := H1.out.2.2.2; omega)
          · obtain ⟨cs, hh⟩ := hA.ow j hj
            exact .inr ⟨cs, _, hh⟩
        · rcases hj with hj | hj
          · omega
          · exact q4 j hj
        · rw [List.map_append, q2, List.take_add_one, HY.out]
          rfl
        · rcases List.mem_append.1 hp with hp | hp
          · refine (q3 p hp).stay hA.md (fun j hj e => ?_)
            obtain ⟨cur, h5, _⟩ := (q3 p hp).obj hj
            rcases e with e | e
            · subst e; exact h5.ne HV.out.1 (by decide) rfl
            · obtain ⟨cs, hh⟩ := hA.ow j e
              exact h5.ne hh (by decide) rfl
          · simp only [List.mem_cons, List.not_mem_nil, or_false] at hp
            subst hp
            exact ⟨Ba.own_mono hm.1 (fun j hj => by obtain ⟨cur, _, h2⟩ := hm.obj hj; omega), hm.2⟩
        · rcases a2 j hj with e | e
          · exact q4 j e
          · omega
      clear hA
      gi_wp2
      exact G.out
theorem all_no {p : Option Addr} (h : Un w p) : Calls Try.prog 16 #[.pointer p] w fun e w' => e = .returned (.slice none 0 0) ∧ Below w.heap.size w w' := by
  refine (callsIn_wide (n := 10)).1 ?_
  have U := hidden (unmade_no h)
  clear h
  refine callsIn_of_wp_marks Try.func16 rfl trivial ?_ rfl
  simp only [Try.ntmps16, List.size_toArray, List.length_cons, List.length_nil, Nat.reduceAdd, Nat.reduceSub, Array.replicate_succ, Array.replicate_zero, List.push_toArray, List.append_toArray, List.nil_append, List.cons_append]
  gi_wp2_with fail
  refine ⟨trivial, (callsIn_wide.2 U.out).mono ?_⟩
  rintro e w' ⟨rfl, rfl⟩
  gi_wp2
  exact ⟨_, results_tmp rfl _ _ _, rfl, Below.refl _ _⟩
end
end Go.Proofs.Ytjceeckcfjjkkaa.Ob
