/-
  The document's seal of a row of bytes is the same.
  Conditions: the numbers lie within their kinds, the cells hold them.
-/
import Derived.Test.YtalfhcaggjgibaaMacF
import Derived.Laws.MakeOwn
import Derived.Deep.OwnRows
namespace Go.Proofs.Ytalfhcaggjgibaa.Mac
open Go.ChangeShapes Go.WideShapes Go.ChangeAt Go.RowKit
set_option linter.unusedVariables false

theorem hidden {p : Prop} (h : p) : Hid p := h
/-- a row of sixteen bytes that may be written -/
def Own (W : World) (g n : Nat) (f : Nat → Int) : Prop := g < W.heap.size ∧ ∀ k, k < n → W.cell? ⟨g, k, none⟩ = some (.int .u8 (f k)) ∧ W.frozen? ⟨g, k, none⟩ = false
theorem Own.set {W : World} {g n : Nat} {f : Nat → Int} (h : Own W g n f) (i : Nat) (hi : i < n) (v : Int) : Own (W.setCell ⟨g, i, none⟩ (.int .u8 v)) g n (fun k => if k = i then v else f k) := by
  refine ⟨by simpa [World.setCell] using h.1, fun k hk => ?_⟩
  by_cases e : k = i
  · subst e
    rw [World.frozen?_setCell, show ((fun j => if j = k then v else f j) k) = v from if_pos rfl]
    exact ⟨World.cell?_setCell_same _ _ _ (h.2 k hk).1, (h.2 k hk).2⟩
  · have hne : (⟨g, i, none⟩ : Addr) ≠ ⟨g, k, none⟩ := fun h => e (by cases h; rfl)
    rw [World.frozen?_setCell, show ((fun j => if j = i then v else f j) k) = f k from if_neg e, World.cell?_setCell_other _ _ _ _ hne]
    exact h.2 k hk
theorem Own.cong {W : World} {g n : Nat} {f f' : Nat → Int} (h : Own W g n f) (e : ∀ k, k < n → f k = f' k) : Own W g n f' := ⟨h.1, fun k hk => by rw [← e k hk]; exact h.2 k hk⟩
theorem info5 : (Try.prog.info? 5).map (fun i => (i.zero, i.size, i.bytes)) = some (some (.int .u8 0), 1, 1) := by kernel_rfl
def mkB (n : Nat) (w : World) : World := w.alloc (.cells (madeCells #[.int .u8 0] n) 5)
theorem mkB_run (n : Nat) (hn : n ≤ 1000) (w : World) : (Instr.makeSlice 24 (.int .i64 (n : Int)) (.int .i64 (n : Int))).run Try.prog w = .ok (.slice (some ⟨w.heap.size, 0, none⟩) n n) (mkB n w) :=
  run_make_row' 24 5 (.int .u8 0) 1 Try.underlying24 info5 rfl .i64 .i64 n (by omega) (by omega) w
theorem mkB_own (n : Nat) (w : World) : Own (mkB n w) w.heap.size n (fun _ => 0) := by
  have hh : (mkB n w).heap[w.heap.size]? = some (.cells (madeCells #[.int .u8 0] n) 5 (0, 0)) := by
    show (w.heap.push _)[w.heap.size]? = _
    simp
  refine ⟨(Array.getElem?_eq_some_iff.1 hh).1, fun k hk => ?_⟩
  have hk2 : (madeCells #[Value.int .u8 0] n)[k]? = some (.int .u8 0) := by
    unfold madeCells
    rw [Array.getElem?_map, Array.getElem?_range, if_pos hk]
    simp [Nat.mod_one]
  exact ⟨by simp [World.cell?, hh, hk2], by simp [World.frozen?, hh]⟩
/-- a new row of bytes, with no name for the new world -/
theorem mkB_any (n : Nat) (hn : n ≤ 1000) (m : Int) (hm : m = (n : Int)) : ∃ mk : World → World, (∀ w : World, (Instr.makeSlice 24 (.int .i64 m) (.int .i64 m)).run Try.prog w = .ok (.slice (some ⟨w.heap.size, 0, none⟩) n n) (mk w)) ∧
    (∀ w : World, Own (mk w) w.heap.size n (fun _ => 0)) ∧ ∀ w : World, Below w.heap.size w (mk w) :=
  ⟨mkB n, fun w => by rw [hm]; exact mkB_run n hn w, mkB_own n, fun w => (Below.refl _ w).alloc (Nat.le_refl _) _⟩

/-- the cells of a key -/
def Kc (W : World) (g : Nat) (kz : List Int) : Prop := ∀ j, j < 16 → W.cell? ⟨g, j, none⟩ = some (.int .u8 (byteAt kz j))
theorem Kc.below {W W' : World} {g n : Nat} {kz : List Int} (h : Kc W g kz) (hb : Below n W W') (hn : g < n) : Kc W' g kz := fun j hj => (hb.cell hn).trans (h j hj)
theorem Kc.new (w : World) (kz : List Int) (h : Key kz) (t : TypeId) : Kc (w.alloc (.cells ⟨kz.map (.int .u8)⟩ t)) w.heap.size kz := fun j hj => by
  have hl := h.len
  rw [World.cell?_alloc_at _ _ _ _ rfl]
  unfold byteAt
  simp [List.getD_eq_getElem?_getD, List.getElem?_eq_getElem (show j < kz.length by omega)]

theorem rs_new (w : World) (q : Q) : RS (w.alloc (.cells #[.int .u64 q.1, .int .u64 q.2.1, .int .u64 q.2.2.1, .int .u64 q.2.2.2] 48 (0, 0))) w.heap.size q.1 q.2.1 q.2.2.1 q.2.2.2 := by
  show (w.heap.push _)[w.heap.size]? = _
  simp
theorem RS.lt {w : World} {b : Nat} {x0 x1 x2 x3 : Int} (h : RS w b x0 x1 x2 x3) : b < w.heap.size := (Array.getElem?_eq_some_iff.1 h).1
/-- a number is laid on the fourth -/
def dee (q : Q) (m : Int) : Q := (q.1, q.2.1, q.2.2.1, xor q.2.2.2 m)
theorem UQ_dee (q : Q) (m : Int) (h : UQ q) : UQ (dee q m) := ⟨h.1, h.2.1, h.2.2.1, U_xor _ _⟩
theorem RS_dee {w : World} {b : Nat} {q : Q} (h : RS w b q.1 q.2.1 q.2.2.1 q.2.2.2) (m : Int) : RS (w.setCell ⟨b, 3, none⟩ (.int .u64 (xor q.2.2.2 m))) b (dee q m).1 (dee q m).2.1 (dee q m).2.2.1 (dee q m).2.2.2 := h.s3 _
theorem RS_cee {w : World} {b : Nat} {q : Q} (h : RS w b q.1 q.2.1 q.2.2.1 q.2.2.2) (c : Int) : RS (w.setCell ⟨b, 2, none⟩ (.int .u64 (xor q.2.2.1 c))) b (cee c q).1 (cee c q).2.1 (cee c q).2.2.1 (cee c q).2.2.2 := h.s2 _
theorem lastWord_eq (m : Int) (n : Nat) : bits .or .u64 m ((n : Int) % 256 * 72057594037927936) = lastWord m n := by
  unfold lastWord
  rw [show ((n % 256 : Nat) : Int) = (n : Int) % 256 by omega]
theorem U_lastWord (m : Int) (n : Nat) : U (lastWord m n) := U_bits _ _ _
theorem take_take_drop (zs : List Int) (p k : Nat) : zs.take (p + k) = zs.take p ++ (zs.drop p).take k := List.take_add
theorem next_word (q0 : Q) (zs : List Int) (p : Nat) (q : Q) (hp : p % 8 = 0) (hl : p + 8 ≤ zs.length) (h : come (q0, 0, 0) (zs.take p) = (q, 0, p)) :
    come (q0, 0, 0) (zs.take (p + 8)) = (mixq q (pk (fun i => byteAt zs (p + i)) 8), 0, p + 8) := by
  rw [take_take_drop, come_append, h, come_eight q p hp _ (by rw [List.length_drop]; omega), pk_congr 8 (fun i _ => byteAt_drop zs p i)]
theorem last_word (q0 : Q) (zs : List Int) (p : Nat) (q : Q) (hp : p % 8 = 0) (h1 : p ≤ zs.length) (h2 : zs.length < p + 8) (h : come (q0, 0, 0) (zs.take p) = (q, 0, p)) :
    come (q0, 0, 0) zs = (q, pk (fun i => byteAt zs (p + i)) (zs.length - p), zs.length) := by
  have e := come_few q p hp (zs.drop p) (zs.length - p) (by omega) (by rw [List.length_drop]; omega)
  rw [List.take_of_length_le (by rw [List.length_drop]; omega)] at e
  conv => lhs; rw [← List.take_append_drop p zs, come_append, h, e]
  rw [pk_congr _ (fun i _ => byteAt_drop zs p i), show p + (zs.length - p) = zs.length by omega]

theorem rbytes (w : World) (kz : List Int) (h : Key kz) (a : Option Addr) (len cap : Nat) (zs : List Int) (hr : Row w a len zs) :
    Calls Try.prog 8 #[keyv kz, .slice a len cap] w fun e w' => e = .returned (.int .u64 (sip kz zs)) ∧ Below w.heap.size w w' := by
  obtain ⟨mk, hmk, hmo, hmb⟩ := mkB_any 16 (by decide) 16 rfl
  have K0 := hidden (Kc.new w kz h 23)
  have B0 := hidden ((Below.refl w.heap.size w).alloc (Nat.le_refl _) (.cells ⟨kz.map (.int .u8)⟩ 23))
  have s0 : (w.alloc (.cells ⟨kz.map (.int .u8)⟩ 23)).heap.size = w.heap.size + 1 := by simp
  have S0 := hidden (s0)
  clear s0
  have HM := hidden (hmo)
  have HB := hidden (hmb)
  clear hmo hmb
  unfold keyv
  go_enter Try.func8, Try.ntmps8
  go_wp2_with fail
  have own0 := HM.out (w.alloc (.cells ⟨kz.map (.int .u8)⟩ 23))
  have bel1 := HB.out (w.alloc (.cells ⟨kz.map (.int .u8)⟩ 23))
  have key0 : Kc _ w.heap.size kz := Kc.below K0.out bel1 (by rw [S0.out]; omega)
  have bel0 := B0.out.trans (bel1.mono (by rw [S0.out]; omega))
  rw [S0.out] at own0
  clear K0 B0 S0 HM HB bel1 hmk
  generalize mk (w.alloc (.cells ⟨kz.map (.int .u8)⟩ 23)) = W1 at own0 key0 bel0 ⊢
  clear mk
  generalize hg : w.heap.size + 1 = g at own0 ⊢
  have HG : Hid (w.heap.size + 1 = g) := hg
  clear hg
  go_loopw [6] (fun i wr => ∃ k : Nat, k ≤ 16 ∧ i = .int .i64 k ∧ Kc wr w.heap.size kz ∧ Own wr g 16 (fun j => if j < k then byteAt kz j else 0) ∧ Below w.heap.size w wr) (fun i _ => 16 - (intOf i).toNat)
  case atStart => exact ⟨0, by omega, rfl, key0, own0.cong (fun k hk => by simp), bel0⟩
  case round =>
    obtain ⟨k, hk, rfl, hkc, hown, hbel⟩ := hrel
    rcases Nat.lt_or_ge k 16 with hlt | hge
    · have c1 := hkc k hlt
      obtain ⟨c2, f2⟩ := hown.2 k hlt
      have HO := hidden (hown)
      have HK := hidden (hkc)
      have HN : Hid (w.heap.size ≠ g) := by have := HG.out; exact fun e => by omega
      obtain ⟨y, hy⟩ : ∃ y, byteAt kz k = y := ⟨_, rfl⟩
      have HY : Hid (byteAt kz k = y) := hy
      rw [hy] at c1
      clear hown hkc key0 own0 hy
      go_wp2
      go_roundw
      case rel =>
        refine ⟨k + 1, by omega, by go_num, ?_, (HO.out.set k hlt y).cong (fun j hj => ?_), hbel.setCell (show w.heap.size ≤ g by have := HG.out; omega) _⟩
        · intro j hj
          rw [World.cell?_setCell_other _ _ _ _ (fun e => HN.out (by cases e; rfl))]
          exact HK.out j hj
        · by_cases e : j = k
          · subst e; rw [if_pos rfl, if_pos (by omega), HY.out]
          · rw [if_neg e]
            by_cases e2 : j < k
            · rw [if_pos e2, if_pos (by omega)]
            · rw [if_neg e2, if_neg (by omega)]
      case measure => simp [intOf]; omega
    · have hge : k = 16 := by omega
      subst hge
      have hrow : Row wr (some ⟨g, 0, none⟩) 16 kz := ⟨h.len, h.bytes, by decide, .inr ⟨_, _, rfl, fun j hj => by rw [Nat.zero_add, (hown.2 j hj).1]; simp only [if_pos hj]; rfl⟩⟩
      have L1 := hidden (show Calls Try.prog 19 #[.slice (some ⟨g, 0, none⟩) 16 16, .int .i64 0, .int .i64 8] wr fun e w' => e = .returned (.int .u64 (lo kz)) ∧ wr = w' from low wr (some ⟨g, 0, none⟩) 16 16 kz 0 8 hrow (by decide) (by decide) (by decide))
      have L2 := hidden (show Calls Try.prog 19 #[.slice (some ⟨g, 0, none⟩) 16 16, .int .i64 8, .int .i64 16] wr fun e w' => e = .returned (.int .u64 (hi kz)) ∧ wr = w' from low wr (some ⟨g, 0, none⟩) 16 16 kz 8 16 hrow (by decide) (by decide) (by decide))
      have HI := hidden (initq_eq kz)
      have HS := hidden (show sip kz zs = sealq (come (initq kz, 0, 0) zs).1 (come (initq kz, 0, 0) zs).2.1 (come (initq kz, 0, 0) zs).2.2 from rfl)
      have uq := UQ_initq kz
      generalize initq kz = q0 at *
      generalize lo kz = K at *
      generalize hi kz = L at *
      have hgl : g < wr.heap.size := hown.1
      clear hown hkc hrow key0 own0 bel0
      go_wp2_with fail
      refine Calls.mono L1.out ?_
      rintro e w' ⟨rfl, rfl⟩
      go_wp2_with fail
      refine Calls.mono L2.out ?_
      rintro e w' ⟨rfl, rfl⟩
      go_wp2_with fail
      rw [xor_bits, xor_bits, xor_bits, xor_bits, ← HI.out.1, ← HI.out.2.1, ← HI.out.2.2.1, ← HI.out.2.2.2]
      have hs0 := rs_new wr q0
      have hsz := hbel.size
      have bel2 := hbel.alloc hsz (.cells #[.int .u64 q0.1, .int .u64 q0.2.1, .int .u64 q0.2.2.1, .int .u64 q0.2.2.2] 48 (0, 0))
      clear L1 L2 HI hgl hbel
      generalize wr.alloc (.cells #[.int .u64 q0.1, .int .u64 q0.2.1, .int .u64 q0.2.2.1, .int .u64 q0.2.2.2] 48 (0, 0)) = W2 at hs0 bel2 ⊢
      generalize wr.heap.size = sb at hs0 hsz ⊢
      go_loopw [10] (fun x wx => ∃ (p : Nat) (q : Q), p % 8 = 0 ∧ p ≤ len ∧ x = .int .i64 (p : Int) ∧ come (q0, 0, 0) (zs.take p) = (q, 0, p) ∧ UQ q ∧ RS wx sb q.1 q.2.1 q.2.2.1 q.2.2.2 ∧ Below w.heap.size w wx) (fun x _ => len - (intOf x).toNat)
      case atStart => exact ⟨0, q0, rfl, Nat.zero_le _, rfl, rfl, uq, hs0, bel2⟩
      case round =>
        obtain ⟨p, q, hp8, hpl, rfl, hcome, uqq, hst, hbl⟩ := hrel
        have HC := hidden hcome
        clear hcome hs0 bel2 uq
        have hlz := hr.1
        have hlim := hr.2.2.1
        have hsb := hst.lt
        rcases Nat.lt_or_ge len (p + 8) with hge | hlt
        · have LW := low wr a len cap zs p len (hr.later hbl) (by omega) (by omega) (by omega)
          have HM := hidden (last_word q0 zs p q hp8 (by omega) (by omega) HC.out)
          rw [hlz] at HM
          have um := U_pk (fun i => byteAt zs (p + i)) (len - p)
          replace LW := hidden LW
          generalize pk (fun i => byteAt zs (p + i)) (len - p) = m at *
          rw [HM.out] at HS
          simp only at HS
          have HS2 := hidden (HS.out.trans (show sealq q m len = fin (rnds (cee 255 (mixq q (lastWord m len))) 4) from rfl))
          have hlw := lastWord_eq m len
          have uw := U_lastWord m len
          generalize lastWord m len = x at *
          have hs1 := hidden (RS_dee hst x)
          have u1 := UQ_dee q x uqq
          have HX := hidden (show mixq q x = (xor (rnds (dee q x) 2).1 x, (rnds (dee q x) 2).2.1, (rnds (dee q x) 2).2.2.1, (rnds (dee q x) 2).2.2.2) from rfl)
          have RR := hidden (fun w h => rrounds w sb 2 (dee q x) (by decide) h u1)
          have ux := UQ_mixq q x
          generalize mixq q x = q2 at *
          generalize dee q x = d at *
          generalize rnds d 2 = r at *
          have c3 := hst.c3
          have hf := hst.fr
          clear HS HM HC
          go_wp2_with fail
          refine Calls.mono LW.out ?_
          rintro e w' ⟨rfl, rfl⟩
          go_wp2_with fail
          refine Calls.mono (RR.out _ hs1.out) ?_
          rintro e w2 ⟨rfl, h2, g2⟩
          have c0 := h2.c0
          have c2 := h2.c2
          have hf2 := h2.fr
          clear c3 hf hlw
          have hb2 := (hbl.setCell (p := ⟨sb, 3, none⟩) hsz (.int .u64 (xor q.2.2.2 x))).grown g2 (by have := hbl.size; simp [World.setCell]; omega) (fun k hk => by cases hk; exact hsz)
          have h3 := hidden (RS_cee (show RS (w2.setCell ⟨sb, 0, none⟩ (.int .u64 (xor r.1 x))) sb q2.1 q2.2.1 q2.2.2.1 q2.2.2.2 by rw [HX.out]; exact h2.s0 _) 255)
          have u3 := UQ_cee 255 q2 ux
          have R4 := hidden (fun w h => rrounds w sb 4 (cee 255 q2) (by decide) h u3)
          have H2 := hidden (show q2.2.2.1 = r.2.2.1 by rw [HX.out])
          rw [H2.out] at h3
          generalize cee 255 q2 = d4 at *
          go_wp2_with fail
          rw [xor_bits r.1 x, xor_bits r.2.2.1 255]
          refine Calls.mono (R4.out _ h3.out) ?_
          rintro e w4 ⟨rfl, h4, g4⟩
          have hb3 := (hb2.setCell (p := ⟨sb, 0, none⟩) hsz (.int .u64 (xor r.1 x))).setCell (p := ⟨sb, 2, none⟩) hsz (.int .u64 (xor r.2.2.1 255))
          generalize xor r.2.2.1 255 = y2 at *
          have hb4 := hb3.grown g4 (by have := hb2.size; simp [World.setCell]; omega) (fun k hk => by cases hk; exact hsz)
          generalize rnds d4 4 = f at *
          have d0 := h4.c0
          have d1 := h4.c1
          have d2 := h4.c2
          have d3 := h4.c3
          clear c0 c2 hf2 hb2 hb3 h3 g4 h2 g2 R4 RR hs1
          go_wp2_with fail
          go_region_held3 (fun w' => w'.cell? ⟨sb, 0, none⟩ = some (.int .u64 f.1) ∧ w'.cell? ⟨sb, 1, none⟩ = some (.int .u64 f.2.1) ∧ w'.cell? ⟨sb, 2, none⟩ = some (.int .u64 f.2.2.1) ∧ w'.cell? ⟨sb, 3, none⟩ = some (.int .u64 f.2.2.2)) (go_keep) (fail)
          go_wp2
          go_ret
          rw [HS2.out]
          exact ⟨rfl, hb4.drew⟩
        · have LW := low wr a len cap zs p (p + 8) (hr.later hbl) (by omega) (by omega) (by omega)
          rw [show p + 8 - p = 8 by omega, show ((p + 8 : Nat) : Int) = (p : Int) + 8 by omega] at LW
          have HM := hidden (next_word q0 zs p q hp8 (by omega) HC.out)
          have um := U_pk (fun i => byteAt zs (p + i)) 8
          replace LW := hidden LW
          generalize pk (fun i => byteAt zs (p + i)) 8 = m at *
          have hs1 := hidden (RS_dee hst m)
          have u1 := UQ_dee q m uqq
          have HX := hidden (show mixq q m = (xor (rnds (dee q m) 2).1 m, (rnds (dee q m) 2).2.1, (rnds (dee q m) 2).2.2.1, (rnds (dee q m) 2).2.2.2) from rfl)
          have RR := hidden (fun w h => rrounds w sb 2 (dee q m) (by decide) h u1)
          have ux := UQ_mixq q m
          generalize mixq q m = q2 at *
          generalize dee q m = d at *
          generalize rnds d 2 = r at *
          have c3 := hst.c3
          have hf := hst.fr
          go_wp2_with fail
          refine Calls.mono LW.out ?_
          rintro e w' ⟨rfl, rfl⟩
          go_wp2_with fail
          refine Calls.mono (RR.out _ hs1.out) ?_
          rintro e w2 ⟨rfl, h2, g2⟩
          have c0 := h2.c0
          have hf2 := h2.fr
          clear c3 hf
          go_wp2
          go_roundw
          case rel =>
            refine ⟨p + 8, q2, by omega, by omega, by go_num, HM.out, ux, ?_, ?_⟩
            · rw [HX.out]; exact h2.s0 _
            · exact ((hbl.setCell (p := ⟨sb, 3, none⟩) hsz _).grown g2 (by have := hbl.size; simp [World.setCell]; omega) (fun k hk => by cases hk; exact hsz)).setCell (p := ⟨sb, 0, none⟩) hsz _
          case measure => simp [intOf]; omega
end Go.Proofs.Ytalfhcaggjgibaa.Mac
