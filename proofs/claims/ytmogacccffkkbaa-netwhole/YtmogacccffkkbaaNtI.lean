/-
  Deliver and Drop.
  Conditions: the network lies in memory.
-/
import Derived.Test.YtmogacccffkkbaaNtH
namespace Go.Proofs.Ytmogacccffkkbaa.Nt
open Go.ChangeShapes Go.WideShapes Go.ChangeAt Go.RowKit
open Ba (hidden Only In Has own_ne own_stay own_len own_some own_mono cell_lt heap_lt)
set_option linter.unusedVariables false
/-- a packet is laid in block r -/
def set5 (w : World) (r : Nat) (q : Pk) : World := ((((w.setCell ⟨r, 0, none⟩ (.int .i64 q.id)).setCell ⟨r, 1, none⟩ (.int .i64 q.sent)).setCell ⟨r, 2, none⟩ (.int .i64 q.len)).setCell ⟨r, 3, none⟩ (.bool q.forged)).setCell ⟨r, 4, none⟩ (.string (strOfNums q.bs))
theorem set5_has {w : World} {r : Nat} {x0 x1 x2 x3 x4 : Value} (h : Has w r #[x0, x1, x2, x3, x4] 88) (q : Pk) : Has (set5 w r q) r (pa q) 88 := ((((h.set 0 _).set 1 _).set 2 _).set 3 _).set 4 _
theorem set5_kept {TY : TypeId → Bool} {base : Nat} {w w1 : World} {r : Nat} (h : Kept TY base w w1) (hr : w.heap.size ≤ r) (q : Pk) : Kept TY base w (set5 w1 r q) := ((((h.setNew (p := ⟨r, 0, none⟩) hr _).setNew (p := ⟨r, 1, none⟩) hr _).setNew (p := ⟨r, 2, none⟩) hr _).setNew (p := ⟨r, 3, none⟩) hr _).setNew (p := ⟨r, 4, none⟩) hr _
/-- a packet in a block that is none of the network's stays -/
def Beside (vs : Nat → Nat → Value) (w w' : World) : Prop := ∀ r cs, Has w r cs 88 → (∀ i e, (vs i e).ownBlock ≠ some r) → Has w' r cs 88
/-- the network behind a call: its rows lie where they lay, or in new blocks -/
def Nos (base : Nat) (w : World) (t b : Nat) (vs : Nat → Nat → Value) (S' : St) (w' : World) : Prop := ∃ vs', No base w' t b vs' S' ∧ ∀ i e k, (vs' i e).ownBlock = some k → (vs i e).ownBlock = some k ∨ w.heap.size ≤ k
theorem set5_other {w : World} {r r' : Nat} {cs : Array Value} (h : Has w r' cs 88) (hne : r' ≠ r) (q : Pk) : Has (set5 w r q) r' cs 88 := ((((h.set_other (p := ⟨r, 0, none⟩) hne _).set_other (p := ⟨r, 1, none⟩) hne _).set_other (p := ⟨r, 2, none⟩) hne _).set_other (p := ⟨r, 3, none⟩) hne _).set_other (p := ⟨r, 4, none⟩) hne _
section
variable {base : Nat} {w w' w1 : World} {t b : Nat} {vs : Nat → Nat → Value} {S : St} {i e : Nat}
theorem No.beside (h : No base w t b vs S) {p : Addr} (h1 : ∀ i e k, (vs i e).ownBlock = some k → k ≠ p.block) (h2 : t ≠ p.block) (h3 : b ≠ p.block) (u : Value) : No base (w.setCell p u) t b vs S :=
  ⟨h.bt, h.bb, h.net.set_other h2 _, h.ln.move (fun cs hc => hc.set_other h3 _), fun i e => own_set_other (h.own i e) (h1 i e) _, h.ap⟩
theorem No.set5 (h : No base w t b vs S) {r : Nat} (h1 : ∀ i e k, (vs i e).ownBlock = some k → k ≠ r) (h2 : t ≠ r) (h3 : b ≠ r) (q : Pk) : No base (set5 w r q) t b vs S :=
  ((((h.beside (p := ⟨r, 0, none⟩) h1 h2 h3 _).beside (p := ⟨r, 1, none⟩) h1 h2 h3 _).beside (p := ⟨r, 2, none⟩) h1 h2 h3 _).beside (p := ⟨r, 3, none⟩) h1 h2 h3 _).beside (p := ⟨r, 4, none⟩) h1 h2 h3 _
theorem No.lts (h : No base w t b vs S) : t < w.heap.size ∧ b < w.heap.size ∧ ∀ i e k, (vs i e).ownBlock = some k → k < w.heap.size := by
  refine ⟨h.net.lt, ?_, fun i e k hk => ((h.own i e).lt k hk).2⟩
  obtain ⟨cs, hc⟩ := h.ln.has; exact hc.lt
theorem getD_self {L : List Pk} {j : Nat} : L.getD j zpk = L.getD j zpk := rfl
set_option maxHeartbeats 2000000 in
theorem take (h : No base w t b vs S) {o : Nat} (ha : At S i e o) (hl : (S.R i e).L.length ≤ 1000) {j : Int} (h0 : 0 ≤ j) (hj : j < ((S.R i e).L.length : Int)) :
    Calls Try.prog 54 #[.pointer (some ⟨b, o, none⟩), .int .i64 j] w fun e' w' => e' = .returned (pv ((S.R i e).L.getD j.toNat zpk)) ∧ Nos base w t b vs (S.row i e ⟨(S.R i e).T, (S.R i e).L.eraseIdx j.toNat⟩) w' ∧ Kept TYc base w w' ∧ Beside vs w w' := by
  obtain ⟨q, hq⟩ : ∃ q, q = (S.R i e).L.getD j.toNat zpk := ⟨_, rfl⟩
  rw [← hq]
  obtain ⟨W1, hW1⟩ : ∃ W1, W1 = (w.alloc (.cells #[.int .i64 0, .int .i64 0, .int .i64 0, .bool false, .string ByteArray.empty] 88)).alloc (.cells (pa q) 88) := ⟨_, rfl⟩
  obtain ⟨hlt, hlb, hlv⟩ := h.lts
  have hB0 : Below w.heap.size w (w.alloc (.cells #[.int .i64 0, .int .i64 0, .int .i64 0, .bool false, .string ByteArray.empty] 88)) := (Below.refl _ w).alloc (Nat.le_refl _) _
  have hB : Below w.heap.size w W1 := by rw [hW1]; exact hB0.alloc (by simp) _
  have hr : Has W1 w.heap.size #[.int .i64 0, .int .i64 0, .int .i64 0, .bool false, .string ByteArray.empty] 88 := by
    rw [hW1]; exact (Has.new w _ _).later ((Below.refl _ _).alloc (Nat.le_refl _) _)
  have hx : Has W1 (w.heap.size + 1) (pa q) 88 := by
    have := Has.new (w.alloc (.cells #[.int .i64 0, .int .i64 0, .int .i64 0, .bool false, .string ByteArray.empty] 88)) (pa q) 88
    rw [hW1]
    simpa using this
  have h1 := h.later hB
  obtain ⟨g, cap, ev, hg, hcap, hmax, k0, k1, k2, k3, k4⟩ := pk_cells (h.own i e) (j := j.toNat) (by omega) hq
  have hgv : (vs i e).ownBlock = some g := by rw [ev]; rfl
  have c4 := h.ln.cell ha.li ha.le 4 rfl
  have c4' := h1.ln.cell ha.li ha.le 4 rfl
  rw [← ha.lo, ev] at c4 c4'
  have hown := h1.own i e
  rw [ev] at hown
  have DE := hidden (delete hown h0 hj hl)
  have FIN : Hid (∀ w2, w2.ownsRow base 88 5 (.slice (some ⟨g, 0, none⟩) ((S.R i e).L.eraseIdx j.toNat).length cap) ((S.R i e).L.eraseIdx j.toNat).length (pcs ((S.R i e).L.eraseIdx j.toNat)) → Only [g] W1 w2 →
      (∃ x, w2.cell? ⟨b, o + 4, none⟩ = some x) ∧ w2.frozen? ⟨b, o + 4, none⟩ = false ∧ Has w2 w.heap.size #[.int .i64 0, .int .i64 0, .int .i64 0, .bool false, .string ByteArray.empty] 88 ∧ Has w2 (w.heap.size + 1) (pa q) 88 ∧
      Nos base w t b vs (S.row i e ⟨(S.R i e).T, (S.R i e).L.eraseIdx j.toNat⟩) (set5 (w2.setCell ⟨b, o + 4, none⟩ (.slice (some ⟨g, 0, none⟩) ((S.R i e).L.eraseIdx j.toNat).length cap)) w.heap.size q) ∧
      Kept TYc base w (set5 (w2.setCell ⟨b, o + 4, none⟩ (.slice (some ⟨g, 0, none⟩) ((S.R i e).L.eraseIdx j.toNat).length cap)) w.heap.size q) ∧
      Has (set5 (w2.setCell ⟨b, o + 4, none⟩ (.slice (some ⟨g, 0, none⟩) ((S.R i e).L.eraseIdx j.toNat).length cap)) w.heap.size q) w.heap.size (pa q) 88 ∧ Beside vs w (set5 (w2.setCell ⟨b, o + 4, none⟩ (.slice (some ⟨g, 0, none⟩) ((S.R i e).L.eraseIdx j.toNat).length cap)) w.heap.size q)) := fun w2 ho hO => by
    have hO' : Only (vs i e).ownBlock.toList W1 w2 := by rw [hgv]; exact hO
    have hbk : ∀ cs, Has W1 b cs 101 → Has w2 b cs 101 := fun cs hc => hc.stay hO (by intro hh; exact h1.nb b (by rw [hgv]; simp at hh; rw [hh]) rfl)
    obtain ⟨cs, hcs⟩ := h1.ln.has
    have hcs2 := hbk cs hcs
    have c5 := (h1.ln.move hbk).cell ha.li ha.le 4 rfl
    rw [← ha.lo] at c5
    have hr2 : Has w2 w.heap.size #[.int .i64 0, .int .i64 0, .int .i64 0, .bool false, .string ByteArray.empty] 88 := hr.stay hO (by simp; omega)
    have hx2 : Has w2 (w.heap.size + 1) (pa q) 88 := hx.stay hO (by simp; omega)
    have h3 := h1.turn ha.li ha.le hO' ho (fun k hk => .inl (by rw [hgv]; exact hk))
    rw [← ha.lo] at h3
    refine ⟨⟨_, c5⟩, hcs2.frozen _, hr2, hx2, ⟨_, h3.set5 (fun i' e' k hk => ?_) (by omega) (by omega) q, fun i' e' k hk => .inl ?_⟩, set5_kept (((Kept.of_below hB).trans (Kept.only hown rfl hO)).set (p := ⟨b, o + 4, none⟩) hcs2 rfl h.bb _) (Nat.le_refl _) q, set5_has (hr2.set_other (by show w.heap.size ≠ b; omega) _) q, fun r cs2 hrr hne => ?_⟩
    rotate_left
    · unfold up2 at hk
      split at hk
      · next hq2 => rw [hq2.1, hq2.2, hgv]; exact hk
      · exact hk
    · have hlr := hrr.lt
      have hr3 := (hrr.later hB).stay hO (by simp; intro hh; exact hne i e (by rw [hgv, hh]))
      exact set5_other (hr3.set_other (p := ⟨b, o + 4, none⟩) (fun ee => by subst ee; exact hr3.ne hcs2 (by decide) rfl) _) (by omega) q
    unfold up2 at hk
    split at hk
    · cases hk; show g ≠ w.heap.size; omega
    · have := hlv _ _ _ hk; omega
  have HW1 : Hid ((w.alloc (.cells #[.int .i64 0, .int .i64 0, .int .i64 0, .bool false, .string ByteArray.empty] 88)).alloc (.cells #[.int .i64 q.id, .int .i64 q.sent, .int .i64 q.len, .bool q.forged, .string (strOfNums q.bs)] 88) = W1) := hW1.symm
  rw [hW1] at c4' DE
  unfold pa at c4' DE
  generalize ((S.R i e).L.eraseIdx j.toNat).length = n1 at DE FIN
  generalize (S.R i e).L.length = n at *
  have hbne : w.heap.size ≠ b := by omega
  clear h h1 hown ev hq hB hB0 hr hx hgv ha hW1 hlv
  go_enter Try.func54, Try.ntmps54
  go_wp2_with fail
  refine Calls.mono DE.out ?_
  rintro e' w2 ⟨rfl, ho, hO⟩
  rw [HW1.out] at hO
  obtain ⟨⟨x, d0⟩, d1, d2, d3, d4, d5, d6, d7⟩ := FIN.out w2 ho hO
  have a0 := d2.cell 0 rfl
  have a1 := d2.cell 1 rfl
  have a2 := d2.cell 2 rfl
  have a3 := d2.cell 3 rfl
  have a4 := d2.cell 4 rfl
  have af := d2.frozen
  have b0 : w2.cell? ⟨w.heap.size + 1, 0, none⟩ = some (.int .i64 q.id) := d3.cell 0 rfl
  have b1 : w2.cell? ⟨w.heap.size + 1, 1, none⟩ = some (.int .i64 q.sent) := d3.cell 1 rfl
  have b2 : w2.cell? ⟨w.heap.size + 1, 2, none⟩ = some (.int .i64 q.len) := d3.cell 2 rfl
  have b3 : w2.cell? ⟨w.heap.size + 1, 3, none⟩ = some (.bool q.forged) := d3.cell 3 rfl
  have b4 : w2.cell? ⟨w.heap.size + 1, 4, none⟩ = some (.string (strOfNums q.bs)) := d3.cell 4 rfl
  have af0 := af 0
  have af1 := af 1
  have af2 := af 2
  have af3 := af 3
  have af4 := af 4
  have D4 := hidden d4
  have D5 := hidden d5
  have D6 := hidden d6
  have D7 := hidden d7
  have hb1 : w.heap.size + 1 ≠ b := by omega
  clear ho hO d2 d3 d4 d5 d6 d7 k0 k1 k2 k3 k4 c4 c4' af
  go_wp2
  refine bodyPost_ret (v := pv q) (by exact results_cell_row rfl _ _ w.heap.size 88 (pa q) (0, 0) _ rfl D6.out Try.underlying88 rfl (by kernel_rfl)) rfl ⟨rfl, D4.out, D5.out, D7.out⟩
theorem res_pkt {fn : Func} {p u : Tmp} (h : fn.results = #[.cell p 88, .tmp u]) (tmps : Array Value) {w : World} {g : Nat} (q : Pk) (hp : tmps.getD p undef = .pointer (some ⟨g, 0, none⟩)) (hg : Has w g (pa q) 88) : (results fn tmps).run Try.prog w = .ok (.tuple #[.agg (pa q), tmps.getD u undef]) w := by
  have hi : (Try.prog.info? 88).map (·.size) = some (pa q).size := by
    show (Try.prog.info? 88).map (·.size) = some 5
    kernel_rfl
  rw [results_cell_tmp h, hp]
  simp [asAddr, run_loadVar_row w g 88 88 (pa q) (0, 0) _ hg Try.underlying88 rfl hi]
/-- what is done with a packet that is there -/
def DoO (base : Nat) (w : World) (t b : Nat) (vs : Nat → Nat → Value) (S' : St) (v : Value) (c : Int) (e' : Ending) (w' : World) : Prop :=
  e' = .returned (.tuple #[v, .int .i64 c]) ∧ Nos base w t b vs S' w' ∧ Kept TYc base w w' ∧ Beside vs w w'
set_option maxHeartbeats 2000000 in
theorem deliver (h : No base w t b vs S) {o : Nat} (ha : At S i e o) (hr : Rok S.next (S.R i e)) (hn : S.next ≤ 1000) {j : Int} (h0 : 0 ≤ j) (hj : j < ((S.R i e).L.length : Int)) (en path at_ bits : Int) :
    Calls Try.prog 39 #[.pointer (some ⟨b, o, none⟩), .agg #[.int .i64 en, .int .i64 path, .int .i64 j, .int .i64 at_, .int .u8 bits]] w fun e' w' => DoO base w t b vs (S.row i e ⟨dlT (S.R i e).T, (S.R i e).L.eraseIdx j.toNat⟩) (pv ((S.R i e).L.getD j.toNat zpk)) 0 e' w' := by
  have hl := hr.len
  have := hr.s; have := hr.d; have := hr.l; have := hr.f; have := hr.sum; have := hr.few
  obtain ⟨hlt, hlb, hlv⟩ := h.lts
  have cd := h.ln.cell ha.li ha.le 1 rfl
  have fd := h.ln.frozen (o + 1)
  rw [← ha.lo] at cd
  obtain ⟨cs, hcs⟩ := h.ln.has
  have h1 := h.setT ha.li ha.le (k := 1) (by decide) (u := .int .i64 ((S.R i e).T.d + 1)) (T' := dlT (S.R i e).T) rfl
  rw [← ha.lo] at h1
  have hK1 : Kept TYc base w (w.setCell ⟨b, o + 1, none⟩ (.int .i64 ((S.R i e).T.d + 1))) := (Kept.refl _ _ _).set (p := ⟨b, o + 1, none⟩) hcs rfl h.bb _
  obtain ⟨W1, hW1⟩ : ∃ W1, W1 = ((w.setCell ⟨b, o + 1, none⟩ (.int .i64 ((S.R i e).T.d + 1))).alloc (.cells #[.int .i64 en, .int .i64 path, .int .i64 j, .int .i64 at_, .int .u8 bits] 92)).alloc (.cells #[.int .i64 0, .int .i64 0, .int .i64 0, .bool false, .string ByteArray.empty] 88) := ⟨_, rfl⟩
  have hB : Below (w.setCell ⟨b, o + 1, none⟩ (.int .i64 ((S.R i e).T.d + 1))).heap.size (w.setCell ⟨b, o + 1, none⟩ (.int .i64 ((S.R i e).T.d + 1))) W1 := by rw [hW1]; exact ((Below.refl _ _).alloc (Nat.le_refl _) _).alloc (by simp) _
  have hsz : (w.setCell ⟨b, o + 1, none⟩ (.int .i64 ((S.R i e).T.d + 1))).heap.size = w.heap.size := by simp [World.setCell]
  have h2 := h1.later hB
  have hrs : Has W1 (w.heap.size + 1) #[.int .i64 0, .int .i64 0, .int .i64 0, .bool false, .string ByteArray.empty] 88 := by
    have := Has.new ((w.setCell ⟨b, o + 1, none⟩ (.int .i64 ((S.R i e).T.d + 1))).alloc (.cells #[.int .i64 en, .int .i64 path, .int .i64 j, .int .i64 at_, .int .u8 bits] 92)) #[.int .i64 0, .int .i64 0, .int .i64 0, .bool false, .string ByteArray.empty] 88
    rw [hW1]
    simpa [hsz] using this
  have ha2 : At (S.row i e ⟨dlT (S.R i e).T, (S.R i e).L⟩) i e o := ⟨ha.li, ha.le, ha.lo⟩
  have er : (S.row i e ⟨dlT (S.R i e).T, (S.R i e).L⟩).R i e = ⟨dlT (S.R i e).T, (S.R i e).L⟩ := up2_same _ _ _ _
  have TA := take h2 ha2 (by rw [er]; show (S.R i e).L.length ≤ 1000; omega) h0 (by rw [er]; exact hj)
  rw [er] at TA
  have es : (S.row i e ⟨dlT (S.R i e).T, (S.R i e).L⟩).row i e ⟨dlT (S.R i e).T, (S.R i e).L.eraseIdx j.toNat⟩ = S.row i e ⟨dlT (S.R i e).T, (S.R i e).L.eraseIdx j.toNat⟩ := by unfold St.row; simp only [up2_up2]
  simp only [es] at TA
  rw [hW1] at TA
  have TA' := hidden TA
  obtain ⟨q, hq⟩ : ∃ q, q = (S.R i e).L.getD j.toNat zpk := ⟨_, rfl⟩
  rw [← hq] at TA' ⊢
  have FIN : Hid (∀ w2, Nos base W1 t b vs (S.row i e ⟨dlT (S.R i e).T, (S.R i e).L.eraseIdx j.toNat⟩) w2 → Kept TYc base W1 w2 → Beside vs W1 w2 → Has w2 (w.heap.size + 1) #[.int .i64 0, .int .i64 0, .int .i64 0, .bool false, .string ByteArray.empty] 88 ∧ Has (set5 w2 (w.heap.size + 1) q) (w.heap.size + 1) (pa q) 88 ∧
      DoO base w t b vs (S.row i e ⟨dlT (S.R i e).T, (S.R i e).L.eraseIdx j.toNat⟩) (pv q) 0 (.returned (.tuple #[pv q, .int .i64 0])) (set5 w2 (w.heap.size + 1) q)) := fun w2 hE hK hBs => by
    have hh := hBs _ _ hrs (fun i' e' hk => by have := hlv _ _ _ hk; omega)
    have hs1 := hrs.lt
    have hs2 := hB.size
    refine ⟨hh, set5_has hh q, rfl, ?_, ?_, fun r cs2 hrr hne => ?_⟩
    · obtain ⟨vs', hN, hG⟩ := hE
      refine ⟨vs', hN.set5 (fun i e k hk ek => ?_) (by omega) (by omega) q, fun i e k hk => (hG i e k hk).imp id (fun hx => by omega)⟩
      rcases hG i e k hk with h5 | h5
      · have := hlv _ _ _ h5; omega
      · omega
    · exact set5_kept ((hK1.later hB).trans hK) (by omega) q
    · have hlr := hrr.lt
      have h5 : Has W1 r cs2 88 := (hrr.set_other (p := ⟨b, o + 1, none⟩) (fun ee => by subst ee; exact hrr.ne hcs (by decide) rfl) _).later hB
      exact set5_other (hBs r cs2 h5 hne) (by omega) q
  have hWb : Hid (W1 = ((w.setCell ⟨b, o + 1, none⟩ (.int .i64 ((S.R i e).T.d + 1))).alloc (.cells #[.int .i64 en, .int .i64 path, .int .i64 j, .int .i64 at_, .int .u8 bits] 92)).alloc (.cells #[.int .i64 0, .int .i64 0, .int .i64 0, .bool false, .string ByteArray.empty] 88)) := hW1
  have hq1 : 0 ≤ (S.R i e).T.d := hr.d
  have hq2 : (S.R i e).T.d ≤ 1000 := by omega
  clear h h1 h2 hrs ha ha2 er TA es hq hB hK1 hW1 hcs hr hlv
  unfold pv at *
  generalize (S.R i e).T.d = dd at *
  go_enter Try.func39, Try.ntmps39
  go_wp2_with fail
  refine Calls.mono TA'.out ?_
  rintro e' w2 ⟨rfl, hE, hK, hBs⟩
  rw [← hWb.out] at hE hK hBs
  obtain ⟨g1, g2, g3⟩ := FIN.out w2 hE hK hBs
  have a0 := g1.cell 0 rfl
  have a1 := g1.cell 1 rfl
  have a2 := g1.cell 2 rfl
  have a3 := g1.cell 3 rfl
  have a4 := g1.cell 4 rfl
  have af0 := g1.frozen 0
  have af1 := g1.frozen 1
  have af2 := g1.frozen 2
  have af3 := g1.frozen 3
  have af4 := g1.frozen 4
  have G2 := hidden g2
  have G3 := hidden g3
  clear g1 g2 g3 hE hK hBs cd
  go_wp2
  exact bodyPost_ret (v := .tuple #[.agg #[.int .i64 q.id, .int .i64 q.sent, .int .i64 q.len, .bool q.forged, .string (strOfNums q.bs)], .int .i64 0]) (by exact res_pkt (p := 4) (u := 5) rfl _ q rfl G2.out) rfl G3.out
set_option maxHeartbeats 2000000 in
theorem drop (h : No base w t b vs S) {o : Nat} (ha : At S i e o) (hr : Rok S.next (S.R i e)) (hn : S.next ≤ 1000) {j : Int} (h0 : 0 ≤ j) (hj : j < ((S.R i e).L.length : Int)) (en path at_ bits : Int) :
    Calls Try.prog 42 #[.pointer (some ⟨b, o, none⟩), .agg #[.int .i64 en, .int .i64 path, .int .i64 j, .int .i64 at_, .int .u8 bits]] w fun e' w' => DoO base w t b vs (S.row i e ⟨drT (S.R i e).T, (S.R i e).L.eraseIdx j.toNat⟩) (pv ((S.R i e).L.getD j.toNat zpk)) 0 e' w' := by
  have hl := hr.len
  have := hr.s; have := hr.d; have := hr.l; have := hr.f; have := hr.sum; have := hr.few
  obtain ⟨hlt, hlb, hlv⟩ := h.lts
  have cd := h.ln.cell ha.li ha.le 2 rfl
  have fd := h.ln.frozen (o + 2)
  rw [← ha.lo] at cd
  obtain ⟨cs, hcs⟩ := h.ln.has
  have h1 := h.setT ha.li ha.le (k := 2) (by decide) (u := .int .i64 ((S.R i e).T.l + 1)) (T' := drT (S.R i e).T) rfl
  rw [← ha.lo] at h1
  have hK1 : Kept TYc base w (w.setCell ⟨b, o + 2, none⟩ (.int .i64 ((S.R i e).T.l + 1))) := (Kept.refl _ _ _).set (p := ⟨b, o + 2, none⟩) hcs rfl h.bb _
  obtain ⟨W1, hW1⟩ : ∃ W1, W1 = ((w.setCell ⟨b, o + 2, none⟩ (.int .i64 ((S.R i e).T.l + 1))).alloc (.cells #[.int .i64 en, .int .i64 path, .int .i64 j, .int .i64 at_, .int .u8 bits] 92)).alloc (.cells #[.int .i64 0, .int .i64 0, .int .i64 0, .bool false, .string ByteArray.empty] 88) := ⟨_, rfl⟩
  have hB : Below (w.setCell ⟨b, o + 2, none⟩ (.int .i64 ((S.R i e).T.l + 1))).heap.size (w.setCell ⟨b, o + 2, none⟩ (.int .i64 ((S.R i e).T.l + 1))) W1 := by rw [hW1]; exact ((Below.refl _ _).alloc (Nat.le_refl _) _).alloc (by simp) _
  have hsz : (w.setCell ⟨b, o + 2, none⟩ (.int .i64 ((S.R i e).T.l + 1))).heap.size = w.heap.size := by simp [World.setCell]
  have h2 := h1.later hB
  have hrs : Has W1 (w.heap.size + 1) #[.int .i64 0, .int .i64 0, .int .i64 0, .bool false, .string ByteArray.empty] 88 := by
    have := Has.new ((w.setCell ⟨b, o + 2, none⟩ (.int .i64 ((S.R i e).T.l + 1))).alloc (.cells #[.int .i64 en, .int .i64 path, .int .i64 j, .int .i64 at_, .int .u8 bits] 92)) #[.int .i64 0, .int .i64 0, .int .i64 0, .bool false, .string ByteArray.empty] 88
    rw [hW1]
    simpa [hsz] using this
  have ha2 : At (S.row i e ⟨drT (S.R i e).T, (S.R i e).L⟩) i e o := ⟨ha.li, ha.le, ha.lo⟩
  have er : (S.row i e ⟨drT (S.R i e).T, (S.R i e).L⟩).R i e = ⟨drT (S.R i e).T, (S.R i e).L⟩ := up2_same _ _ _ _
  have TA := take h2 ha2 (by rw [er]; show (S.R i e).L.length ≤ 1000; omega) h0 (by rw [er]; exact hj)
  rw [er] at TA
  have es : (S.row i e ⟨drT (S.R i e).T, (S.R i e).L⟩).row i e ⟨drT (S.R i e).T, (S.R i e).L.eraseIdx j.toNat⟩ = S.row i e ⟨drT (S.R i e).T, (S.R i e).L.eraseIdx j.toNat⟩ := by unfold St.row; simp only [up2_up2]
  simp only [es] at TA
  rw [hW1] at TA
  have TA' := hidden TA
  obtain ⟨q, hq⟩ : ∃ q, q = (S.R i e).L.getD j.toNat zpk := ⟨_, rfl⟩
  rw [← hq] at TA' ⊢
  have FIN : Hid (∀ w2, Nos base W1 t b vs (S.row i e ⟨drT (S.R i e).T, (S.R i e).L.eraseIdx j.toNat⟩) w2 → Kept TYc base W1 w2 → Beside vs W1 w2 → Has w2 (w.heap.size + 1) #[.int .i64 0, .int .i64 0, .int .i64 0, .bool false, .string ByteArray.empty] 88 ∧ Has (set5 w2 (w.heap.size + 1) q) (w.heap.size + 1) (pa q) 88 ∧
      DoO base w t b vs (S.row i e ⟨drT (S.R i e).T, (S.R i e).L.eraseIdx j.toNat⟩) (pv q) 0 (.returned (.tuple #[pv q, .int .i64 0])) (set5 w2 (w.heap.size + 1) q)) := fun w2 hE hK hBs => by
    have hh := hBs _ _ hrs (fun i' e' hk => by have := hlv _ _ _ hk; omega)
    have hs1 := hrs.lt
    have hs2 := hB.size
    refine ⟨hh, set5_has hh q, rfl, ?_, ?_, fun r cs2 hrr hne => ?_⟩
    · obtain ⟨vs', hN, hG⟩ := hE
      refine ⟨vs', hN.set5 (fun i e k hk ek => ?_) (by omega) (by omega) q, fun i e k hk => (hG i e k hk).imp id (fun hx => by omega)⟩
      rcases hG i e k hk with h5 | h5
      · have := hlv _ _ _ h5; omega
      · omega
    · exact set5_kept ((hK1.later hB).trans hK) (by omega) q
    · have hlr := hrr.lt
      have h5 : Has W1 r cs2 88 := (hrr.set_other (p := ⟨b, o + 2, none⟩) (fun ee => by subst ee; exact hrr.ne hcs (by decide) rfl) _).later hB
      exact set5_other (hBs r cs2 h5 hne) (by omega) q
  have hWb : Hid (W1 = ((w.setCell ⟨b, o + 2, none⟩ (.int .i64 ((S.R i e).T.l + 1))).alloc (.cells #[.int .i64 en, .int .i64 path, .int .i64 j, .int .i64 at_, .int .u8 bits] 92)).alloc (.cells #[.int .i64 0, .int .i64 0, .int .i64 0, .bool false, .string ByteArray.empty] 88)) := hW1
  have hq1 : 0 ≤ (S.R i e).T.l := hr.l
  have hq2 : (S.R i e).T.l ≤ 1000 := by omega
  clear h h1 h2 hrs ha ha2 er TA es hq hB hK1 hW1 hcs hr hlv
  unfold pv at *
  generalize (S.R i e).T.l = dd at *
  go_enter Try.func42, Try.ntmps42
  go_wp2_with fail
  refine Calls.mono TA'.out ?_
  rintro e' w2 ⟨rfl, hE, hK, hBs⟩
  rw [← hWb.out] at hE hK hBs
  obtain ⟨g1, g2, g3⟩ := FIN.out w2 hE hK hBs
  have a0 := g1.cell 0 rfl
  have a1 := g1.cell 1 rfl
  have a2 := g1.cell 2 rfl
  have a3 := g1.cell 3 rfl
  have a4 := g1.cell 4 rfl
  have af0 := g1.frozen 0
  have af1 := g1.frozen 1
  have af2 := g1.frozen 2
  have af3 := g1.frozen 3
  have af4 := g1.frozen 4
  have G2 := hidden g2
  have G3 := hidden g3
  clear g1 g2 g3 hE hK hBs cd
  go_wp2
  exact bodyPost_ret (v := .tuple #[.agg #[.int .i64 q.id, .int .i64 q.sent, .int .i64 q.len, .bool q.forged, .string (strOfNums q.bs)], .int .i64 0]) (by exact res_pkt (p := 4) (u := 5) rfl _ q rfl G2.out) rfl G3.out
end
end Go.Proofs.Ytmogacccffkkbaa.Nt
