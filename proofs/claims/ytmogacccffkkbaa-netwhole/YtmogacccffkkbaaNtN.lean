/-
  Spoil.
  Conditions: the network lies in memory.
-/
import Derived.Test.YtmogacccffkkbaaNtL
import Derived.Deep.QuietTactic
namespace Go.Proofs.Ytmogacccffkkbaa.Nt
open Go.ChangeShapes Go.WideShapes Go.ChangeAt Go.RowKit
open Ba (hidden Only In Has own_ne own_stay own_len own_some own_mono cell_lt heap_lt)
set_option linter.unusedVariables false
theorem pv_default : pv zpk = zv := rfl
theorem getD_set {bs : List Int} {k j : Nat} {x : Int} : (bs.set k x).getD j 0 = if j = k ∧ k < bs.length then x else bs.getD j 0 := by
  rw [List.getD_eq_getElem?_getD, List.getD_eq_getElem?_getD, List.getElem?_set]
  by_cases h1 : k = j
  · subst h1
    by_cases h2 : k < bs.length
    · simp [h2]
    · rw [if_pos rfl, if_neg h2, if_neg (fun h => h2 h.2), List.getElem?_eq_none (by omega)]
  · rw [if_neg h1, if_neg (fun h => h1 h.1.symm)]
/-- a byte is turned -/
theorem By.flip {base : Nat} {w : World} {g n : Nat} {bs : List Int} (h : By base w (some ⟨g, 0, none⟩) n bs) {k : Nat} (hk : k < n) {bits : Int} (hb : 0 ≤ bits ∧ bits < 256) : By base (w.setCell ⟨g, k, none⟩ (.int .u8 (Go.bits .xor .u8 (bs.getD k 0) bits))) (some ⟨g, 0, none⟩) n (flip bs k bits) := by
  obtain ⟨h1, h2, h3⟩ := h
  rcases h3 with h3 | ⟨b', off, e, hb', hc, hj⟩
  · omega
  cases e
  refine ⟨by rw [flip_len]; exact h1, h2.flip k hb, .inr ⟨g, 0, rfl, by simpa [World.setCell] using hb', ?_, fun j hjl => ?_⟩⟩
  · rcases hc with hc | ⟨cs, m, hc⟩
    · exact .inl hc
    · refine .inr ⟨cs.setIfInBounds k (.int .u8 (Go.bits .xor .u8 (bs.getD k 0) bits)), m, ?_⟩
      simp only [World.setCell, Array.getElem?_modify, hc]
      simp
  · rw [Nat.zero_add]
    have hj0 := hj j hjl
    rw [Nat.zero_add] at hj0
    unfold Nt.flip
    rw [getD_set]
    by_cases ejk : j = k
    · subst ejk
      rw [if_pos ⟨rfl, by omega⟩]
      exact World.cell?_setCell_same _ _ _ hj0
    · rw [if_neg (fun h => ejk h.1), World.cell?_setCell_other _ _ _ _ (fun hh => ejk (by cases hh; rfl))]
      exact hj0
section
variable {base : Nat} {w w' w1 : World} {t b : Nat} {vs : Nat → Nat → Value} {S : St} {i e : Nat}
/-- a packet's bytes are turned -/
theorem No.spoilt (h : No base w t b vs S) {g n cap j : Nat} {q : Pk} (hv : vs i e = .slice (some ⟨g, 0, none⟩) n cap) (hj : (S.R i e).L[j]? = some q) (bs : List Int) : No base (w.setCell ⟨g, j * 5 + 4, none⟩ (.string (strOfNums bs))) t b vs (S.row i e ⟨(S.R i e).T, (S.R i e).L.set j { q with bs := bs }⟩) ∧ Only [g] w (w.setCell ⟨g, j * 5 + 4, none⟩ (.string (strOfNums bs))) := by
  have hO : Only [g] w (w.setCell ⟨g, j * 5 + 4, none⟩ (.string (strOfNums bs))) := Only.setCell w (p := ⟨g, j * 5 + 4, none⟩) (by simp) _
  have hown := h.own i e
  rw [hv] at hown
  obtain ⟨_, _, en⟩ := own_len hown
  cases en
  refine ⟨h.turn0 (by rw [hv]; exact hO) ?_, hO⟩
  have hs := hown.stored (j * 5 + 4) (.string (strOfNums bs))
  have hf := flat_set pc_len (S.R i e).L hj (c := 4) (u := .string (strOfNums bs)) (y := { q with bs := bs }) (by decide) rfl
  rw [hv, List.length_set]
  unfold pcs at hs ⊢
  rw [hf] at hs
  exact hs.1
set_option maxHeartbeats 4000000 in
theorem spoil (h : No base w t b vs S) {o : Nat} (ha : At S i e o) (hr : Rok S.next (S.R i e)) (hn : S.next ≤ 1000) {j : Int} (h0 : 0 ≤ j) (hj : j < ((S.R i e).L.length : Int)) (en path at_ bits : Int) (hbi : 0 ≤ bits ∧ bits < 256) {q : Pk} (hq : q = (S.R i e).L.getD j.toNat zpk) (hat : 0 ≤ at_ ∧ at_ < (q.bs.length : Int)) :
    Calls Try.prog 43 #[.pointer (some ⟨b, o, none⟩), .agg #[.int .i64 en, .int .i64 path, .int .i64 j, .int .i64 at_, .int .u8 bits]] w fun e' w' => DoO base w t b vs (S.row i e ⟨(S.R i e).T, (S.R i e).L.set j.toNat { q with bs := flip q.bs at_.toNat bits }⟩) (pv { q with bs := flip q.bs at_.toNat bits }) 0 e' w' := by
  have hl := hr.len
  have hjl : j.toNat < (S.R i e).L.length := by omega
  have hx := cell_at hjl
  rw [← hq] at hx
  have hpk := hr.ok q (List.mem_of_getElem? hx)
  obtain ⟨hlt, hlb, hlv⟩ := h.lts
  have hB := spotW_below w en path j at_ bits
  have hrs := spotW_res w en path j at_ bits
  obtain ⟨W1, hW1⟩ : ∃ W1, W1 = spotW w en path j at_ bits := ⟨_, rfl⟩
  rw [← hW1] at hB hrs
  have hsp : Has W1 w.heap.size #[.int .i64 en, .int .i64 path, .int .i64 j, .int .i64 at_, .int .u8 bits] 92 := by
    rw [hW1]
    unfold spotW
    exact (Has.new w _ _).later ((Below.refl _ _).alloc (Nat.le_refl _) _)
  have h2 := h.later hB
  obtain ⟨g, cap, ev, hg, hcap, hmax, k0, k1, k2, k3, k4⟩ := pk_cells (h2.own i e) (j := j.toNat) hjl hq
  have hgv : (vs i e).ownBlock = some g := by rw [ev]; rfl
  have c4 := h2.ln.cell ha.li ha.le 4 rfl
  rw [← ha.lo, ev] at c4
  obtain ⟨cp, mk, m1, m2, m3, m4, m5⟩ := bytes_mk base hpk.1
  have HM : Hid (∀ N, Below W1.heap.size W1 (mk (W1.drewN N)) ∧ By base (mk (W1.drewN N)) (some ⟨W1.heap.size, 0, none⟩) q.bs.length q.bs ∧ (∀ k, k < q.bs.length → (mk (W1.drewN N)).frozen? ⟨W1.heap.size, k, none⟩ = false) ∧ (mk (W1.drewN N)).heap.size = W1.heap.size + 1) := fun N =>
    ⟨⟨(m3 (W1.drewN N)).os, (m3 (W1.drewN N)).tape, (m3 (W1.drewN N)).output, (m3 (W1.drewN N)).size, (m3 (W1.drewN N)).block⟩, m2 (W1.drewN N), fun k hk => m5 (W1.drewN N) k hk, m4 (W1.drewN N)⟩
  obtain ⟨fl, hfl⟩ : ∃ fl, fl = flip q.bs at_.toNat bits := ⟨_, rfl⟩
  obtain ⟨y, hy⟩ : ∃ y, y = q.bs.getD at_.toNat 0 := ⟨_, rfl⟩
  obtain ⟨z, hz⟩ : ∃ z, z = Go.bits .xor .u8 y bits := ⟨_, rfl⟩
  rw [← hfl]
  have hWl : w.heap.size + 1 < W1.heap.size := hrs.lt
  have FIN : Hid (∀ W2, Below W1.heap.size W1 W2 → By base W2 (some ⟨W1.heap.size, 0, none⟩) q.bs.length q.bs → ∀ W3, W3 = W2.drew.setCell ⟨W1.heap.size, at_.toNat, none⟩ (.int .u8 z) →
      (∀ cap, (convert 32 9 (.slice (some ⟨W1.heap.size, 0, none⟩) q.bs.length cap)).run Try.prog W3 = .ok (.string (strOfNums fl)) W3) ∧
      (W3.cell? ⟨g, j.toNat * 5, none⟩ = some (.int .i64 q.id) ∧ W3.cell? ⟨g, j.toNat * 5 + 1, none⟩ = some (.int .i64 q.sent) ∧ W3.cell? ⟨g, j.toNat * 5 + 2, none⟩ = some (.int .i64 q.len) ∧ W3.cell? ⟨g, j.toNat * 5 + 3, none⟩ = some (.bool q.forged) ∧ W3.cell? ⟨g, j.toNat * 5 + 4, none⟩ = some (.string (strOfNums q.bs)) ∧ W3.frozen? ⟨g, j.toNat * 5 + 4, none⟩ = false) ∧
      Has (W3.setCell ⟨g, j.toNat * 5 + 4, none⟩ (.string (strOfNums fl))) (w.heap.size + 1) #[.int .i64 0, .int .i64 0, .int .i64 0, .bool false, .string ByteArray.empty] 88 ∧
      Has (set5 (W3.setCell ⟨g, j.toNat * 5 + 4, none⟩ (.string (strOfNums fl))) (w.heap.size + 1) { q with bs := fl }) (w.heap.size + 1) (pa { q with bs := fl }) 88 ∧
      DoO base w t b vs (S.row i e ⟨(S.R i e).T, (S.R i e).L.set j.toNat { q with bs := fl }⟩) (pv { q with bs := fl }) 0 (.returned (.tuple #[pv { q with bs := fl }, .int .i64 0])) (set5 (W3.setCell ⟨g, j.toNat * 5 + 4, none⟩ (.string (strOfNums fl))) (w.heap.size + 1) { q with bs := fl })) := fun W2 hB2 hby W3 hW3 => by
    have hgw : g < w.heap.size := hlv _ _ _ hgv
    have hN3 : No base W3 t b vs S := by
      rw [hW3]
      exact ((h2.later hB2).later (w' := W2.drew) (Below.refl _ _).drew).beside (p := ⟨W1.heap.size, at_.toNat, none⟩) (fun i e k hk => by have := hlv _ _ _ hk; show k ≠ W1.heap.size; omega) (by show t ≠ W1.heap.size; omega) (by show b ≠ W1.heap.size; omega) _
    have hf := hby.flip (k := at_.toNat) (by omega) hbi
    rw [← hy, ← hz, ← hfl] at hf
    have hf3 : By base W3 (some ⟨W1.heap.size, 0, none⟩) q.bs.length fl := by rw [hW3]; exact hf
    have hown3 := hN3.own i e
    obtain ⟨g', cap', ev', hg', _, _, q0, q1, q2, q3, q4⟩ := pk_cells hown3 (j := j.toNat) hjl hq
    rw [ev] at ev'
    cases ev'
    rw [ev] at hown3
    obtain ⟨hN4, hO4⟩ := hN3.spoilt (i := i) (e := e) ev hx fl
    have hr3 : Has W3 (w.heap.size + 1) #[.int .i64 0, .int .i64 0, .int .i64 0, .bool false, .string ByteArray.empty] 88 := by
      rw [hW3]
      have h5 : Has W2.drew (w.heap.size + 1) #[.int .i64 0, .int .i64 0, .int .i64 0, .bool false, .string ByteArray.empty] 88 := hrs.later hB2.drew
      exact h5.set_other (p := ⟨W1.heap.size, at_.toNat, none⟩) (by show w.heap.size + 1 ≠ W1.heap.size; omega) _
    have hr4 : Has (W3.setCell ⟨g, j.toNat * 5 + 4, none⟩ (.string (strOfNums fl))) (w.heap.size + 1) #[.int .i64 0, .int .i64 0, .int .i64 0, .bool false, .string ByteArray.empty] 88 := hr3.set_other (p := ⟨g, j.toNat * 5 + 4, none⟩) (by show w.heap.size + 1 ≠ g; omega) _
    refine ⟨fun cap => hf3.conv cap, ⟨q0, q1, q2, q3, q4, hown3.frozenAt _⟩, hr4, set5_has hr4 _, rfl, ⟨vs, hN4.set5 (fun i e k hk => by have := hlv _ _ _ hk; omega) (by omega) (by omega) _, fun i e k hk => .inl hk⟩, ?_, fun r cs hrr hne => ?_⟩
    · refine set5_kept ?_ (by omega) _
      have hk3 : Kept TYc base w W3 := by
        rw [hW3]
        exact (((Kept.of_below hB).later hB2).drew).setNew (p := ⟨W1.heap.size, at_.toNat, none⟩) (by show w.heap.size ≤ W1.heap.size; omega) _
      exact hk3.trans (Kept.only hown3 rfl hO4)
    · have hlr := hrr.lt
      have h5 : Has W2.drew r cs 88 := (hrr.later hB).later hB2.drew
      have h6 : Has W3 r cs 88 := by rw [hW3]; exact h5.set_other (p := ⟨W1.heap.size, at_.toNat, none⟩) (by show r ≠ W1.heap.size; omega) _
      exact set5_other (h6.set_other (p := ⟨g, j.toNat * 5 + 4, none⟩) (fun ee => hne i e (by rw [hgv, ee])) _) (by omega) _
  have str := str_size q.bs
  have HW1 : Hid (W1 = (w.alloc (.cells #[.int .i64 en, .int .i64 path, .int .i64 j, .int .i64 at_, .int .u8 bits] 92)).alloc (.cells #[.int .i64 0, .int .i64 0, .int .i64 0, .bool false, .string ⟨#[]⟩] 88)) := hW1
  have s0 := hsp.cell 2 rfl
  have s1 := hsp.cell 3 rfl
  have s2 := hsp.cell 4 rfl
  have hW0 : w.heap.size < W1.heap.size := hsp.lt
  have HY := hidden hy
  have HX2 : Hid (∀ (W2 : World) (cap : Nat), (Instr.indexAt 32 (.slice (some ⟨W1.heap.size, 0, none⟩) q.bs.length cap) (.int .i64 at_)).run Try.prog W2 = .ok (.pointer (some ⟨W1.heap.size, at_.toNat, none⟩)) W2) := fun W2 cap => by
    simp [go_sem]
    intro hx
    exact absurd (hx hat.1) (by omega)
  have HXR : Hid (∀ (x y' : Operand) (w : World), (do eqGuard .xor 5 x y' (.int .u8 y) (.int .u8 bits); binOp .xor 5 (.int .u8 y) (.int .u8 bits) : Sem Value).run Try.prog w = .ok (.int .u8 z) w) := fun x y' w => by rw [hz]; simp [go_sem]
  have HQL : Hid (at_.toNat < q.bs.length) := by unfold Hid; omega
  have hgW : g ≠ W1.heap.size := by omega
  generalize (S.R i e).L.length = n at *
  generalize hbl : q.bs.length = bl at *
  generalize hst : strOfNums q.bs = str0 at *
  clear h h2 ha hr hlv hx hpk hB hrs hsp hW1 ev hgv hq m2 m3 m4 m5 hfl hy hz hst
  go_enter Try.func43, Try.ntmps43
  go_upto_region 1 with fail
  rw [← HW1.out]
  go_quiet (fail)
  revert nq
  intro n1
  go_wp2
  go_quiet (fail)
  revert nq
  intro n2
  go_wp2
  obtain ⟨W2, hW2⟩ : ∃ W2, W2 = mk (W1.drewN (n1 + n2)) := ⟨_, rfl⟩
  rw [← hW2]
  obtain ⟨b1, b2, b3, b4⟩ := HM.out (n1 + n2)
  rw [← hW2] at b1 b2 b3 b4
  have HB1 := hidden b1
  have HB2 := hidden b2
  have HF2 := hidden (b3 at_.toNat HQL.out)
  have HSP : Hid (W2.cell? ⟨w.heap.size, 3, none⟩ = some (.int .i64 at_) ∧ W2.cell? ⟨w.heap.size, 4, none⟩ = some (.int .u8 bits)) := ⟨(b1.cell (p := ⟨w.heap.size, 3, none⟩) hW0).trans s1, (b1.cell (p := ⟨w.heap.size, 4, none⟩) hW0).trans s2⟩
  have HBY : Hid (W2.cell? ⟨W1.heap.size, at_.toNat, none⟩ = some (.int .u8 y)) := by
    obtain ⟨_, _, h3⟩ := b2
    rcases h3 with h3 | ⟨b', off, e, _, _, hj⟩
    · have := HQL.out; unfold Hid; omega
    · cases e
      have := hj at_.toNat HQL.out
      rw [Nat.zero_add, ← HY.out] at this
      exact this
  generalize cp (W1.drewN (n1 + n2)) = cpv
  clear b1 b2 b3 b4 hW2 m1
  refine Ord.wp_region_ex0 (X := Unit) (by kernel_rfl) 51 (fun x => [(some 34, .slice (some ⟨W1.heap.size, 0, none⟩) bl cpv), (some 35, .pointer (some ⟨w.heap.size, 3, none⟩)), (some 36, .int .i64 at_), (some 37, .pointer (some ⟨W1.heap.size, at_.toNat, none⟩)), (some 38, .int .u8 y), (some 39, .pointer (some ⟨w.heap.size, 4, none⟩)), (some 40, .int .u8 bits), (some 41, .int .u8 z), (some 42, .pointer (some ⟨W1.heap.size, at_.toNat, none⟩)), (none, undef)]) [some 34, some 35, some 36, some 37, some 38, some 39, some 40, some 41, some 42, none] rfl (fun listed hsz hr => Ord.all_listedC (rank := [0, 1, 2, 3, 4, 5, 6, 7, 8, 9]) (by kernel_rfl) hsz hr) (by rfl) (fun _ => rfl) (by kernel_rfl) (Rg.StM [9] (fun k _ w' => (k = 0 → w' = W2.drew) ∧ (k = 1 → w' = W2.drew.setCell ⟨W1.heap.size, at_.toNat, none⟩ (.int .u8 z)))) (fun _ _ _ _ hL h => h.ext (n := 10) (by decide) hL) ?_ ?_ () ?_
  case refine_1 =>
    intro x Lq iq oq ac w' ho hi hcl hdep hF hW
    have f1 : ac.tmps.size = 51 := hF.1
    match iq, ho, hi, hdep with
    | 0, ho, hi, hdep =>
      cases ho
      have da0 : ac.eval (.tmp 7) = .slice (some ⟨W1.heap.size, 0, none⟩) bl cpv := hF.old 7 rfl
      exact Ord.ex_value x rfl rfl (Rg.mv da0 rfl) rfl (hW.keep (by decide))
    | 1, ho, hi, hdep =>
      cases ho
      have da0 : ac.eval (.tmp 3) = .pointer (some ⟨w.heap.size, 0, none⟩) := hF.old 3 rfl
      exact Ord.ex_value x rfl rfl (Rg.fa da0 rfl (by simp [go_sem])) rfl (hW.keep (by decide))
    | 2, ho, hi, hdep =>
      cases ho
      have da0 : ac.eval (.tmp 35) = .pointer (some ⟨w.heap.size, 3, none⟩) := hF.2.2.2 1 35 _ rfl (hdep ⟨1, .data⟩ (by simp) rfl)
      obtain ⟨kq, hlo, hhi, hA⟩ := hW.range 0 0 (.inl rfl) (.inr ⟨9, rfl, (Rg.no_of (fun h => hcl 9 _ rfl (h) ⟨2, .phase⟩ (by simp) rfl) hi)⟩)
      exact Ord.ex_value x rfl rfl (Rg.load da0 rfl (by rw [hA.1 (by omega)]; simp [go_sem, HSP.out.1])) rfl (hW.keep (by decide))
    | 3, ho, hi, hdep =>
      cases ho
      have da0 : ac.eval (.tmp 34) = .slice (some ⟨W1.heap.size, 0, none⟩) bl cpv := hF.2.2.2 0 34 _ rfl (hdep ⟨0, .data⟩ (by simp) rfl)
      have da1 : ac.eval (.tmp 36) = .int .i64 at_ := hF.2.2.2 2 36 _ rfl (hdep ⟨2, .data⟩ (by simp) rfl)
      exact Ord.ex_value x rfl rfl (Rg.ix da0 da1 rfl (HX2.out _ _)) rfl (hW.keep (by decide))
    | 4, ho, hi, hdep =>
      cases ho
      have da0 : ac.eval (.tmp 37) = .pointer (some ⟨W1.heap.size, at_.toNat, none⟩) := hF.2.2.2 3 37 _ rfl (hdep ⟨3, .data⟩ (by simp) rfl)
      obtain ⟨kq, hlo, hhi, hA⟩ := hW.range 0 0 (.inl rfl) (.inr ⟨9, rfl, (Rg.no_of (fun h => hcl 9 _ rfl (h) ⟨4, .phase⟩ (by simp) rfl) hi)⟩)
      exact Ord.ex_value x rfl rfl (Rg.load da0 rfl (by rw [hA.1 (by omega)]; simp [go_sem, HBY.out])) rfl (hW.keep (by decide))
    | 5, ho, hi, hdep =>
      cases ho
      have da0 : ac.eval (.tmp 3) = .pointer (some ⟨w.heap.size, 0, none⟩) := hF.old 3 rfl
      exact Ord.ex_value x rfl rfl (Rg.fa da0 rfl (by simp [go_sem])) rfl (hW.keep (by decide))
    | 6, ho, hi, hdep =>
      cases ho
      have da0 : ac.eval (.tmp 39) = .pointer (some ⟨w.heap.size, 4, none⟩) := hF.2.2.2 5 39 _ rfl (hdep ⟨5, .data⟩ (by simp) rfl)
      obtain ⟨kq, hlo, hhi, hA⟩ := hW.range 0 0 (.inl rfl) (.inr ⟨9, rfl, (Rg.no_of (fun h => hcl 9 _ rfl (h) ⟨6, .phase⟩ (by simp) rfl) hi)⟩)
      exact Ord.ex_value x rfl rfl (Rg.load da0 rfl (by rw [hA.1 (by omega)]; simp [go_sem, HSP.out.2])) rfl (hW.keep (by decide))
    | 7, ho, hi, hdep =>
      cases ho
      have da0 : ac.eval (.tmp 38) = .int .u8 y := hF.2.2.2 4 38 _ rfl (hdep ⟨4, .data⟩ (by simp) rfl)
      have da1 : ac.eval (.tmp 40) = .int .u8 bits := hF.2.2.2 6 40 _ rfl (hdep ⟨6, .data⟩ (by simp) rfl)
      exact Ord.ex_value x rfl rfl (Rg.bin da0 da1 rfl (HXR.out _ _ _)) rfl (hW.keep (by decide))
    | 8, ho, hi, hdep =>
      cases ho
      have da0 : ac.eval (.tmp 34) = .slice (some ⟨W1.heap.size, 0, none⟩) bl cpv := hF.2.2.2 0 34 _ rfl (hdep ⟨0, .data⟩ (by simp) rfl)
      have da1 : ac.eval (.tmp 36) = .int .i64 at_ := hF.2.2.2 2 36 _ rfl (hdep ⟨2, .data⟩ (by simp) rfl)
      exact Ord.ex_value x rfl rfl (Rg.ix da0 da1 rfl (HX2.out _ _)) rfl (hW.keep (by decide))
    | 9, ho, hi, hdep =>
      cases ho
      have da0 : ac.eval (.tmp 42) = .pointer (some ⟨W1.heap.size, at_.toNat, none⟩) := hF.2.2.2 8 42 _ rfl (hdep ⟨8, .data⟩ (by simp) rfl)
      have da1 : ac.eval (.tmp 41) = .int .u8 z := hF.2.2.2 7 41 _ rfl (hdep ⟨7, .data⟩ (by simp) rfl)
      have hA := hW.at (k := 0) rfl hi (.inl rfl)
      have hw := hA.1 rfl
      subst hw
      exact Rg.ex_skip x rfl rfl (Rg.sto da0 da1 rfl (by simp [go_sem, HBY.out, HF2.out])) rfl (hW.next (k := 0) rfl (by decide) hi (.inl rfl) ⟨fun e => absurd e (by decide), fun _ => rfl⟩)
  case refine_3 => exact Rg.StM.first ⟨fun _ => rfl, fun e => absurd e (by decide)⟩
  case refine_2 =>
    intro x w2 hW
    have hw := hW.last.2 rfl
    obtain ⟨f1, ⟨q0, q1, q2, q3, q4, q5⟩, f3, f4, f5⟩ := FIN.out W2 HB1.out HB2.out w2 hw
    have a0 := f3.cell 0 rfl
    have a1 := f3.cell 1 rfl
    have a2 := f3.cell 2 rfl
    have a3 := f3.cell 3 rfl
    have a4 := f3.cell 4 rfl
    have af0 := f3.frozen 0
    have af1 := f3.frozen 1
    have af2 := f3.frozen 2
    have af3 := f3.frozen 3
    have af4 := f3.frozen 4
    have F4 := hidden f4
    have F5 := hidden f5
    have fc := f1 cpv
    clear hW hw f1 f3 f4 f5 FIN HM
    simp only [Ord.puts, Ord.prs]
    go_simp
    go_wp2
    exact bodyPost_ret (v := .tuple #[pv { q with bs := fl }, .int .i64 0]) (by exact res_pkt (p := 4) (u := 5) rfl _ _ rfl F4.out) rfl F5.out
set_option maxHeartbeats 4000000 in
theorem spoil_no (h : No base w t b vs S) {o : Nat} (ha : At S i e o) (hr : Rok S.next (S.R i e)) (hn : S.next ≤ 1000) {j : Int} (h0 : 0 ≤ j) (hj : j < ((S.R i e).L.length : Int)) (en path at_ bits : Int) {q : Pk} (hq : q = (S.R i e).L.getD j.toNat zpk) (hat : ¬ (0 ≤ at_ ∧ at_ < (q.bs.length : Int))) :
    Calls Try.prog 43 #[.pointer (some ⟨b, o, none⟩), .agg #[.int .i64 en, .int .i64 path, .int .i64 j, .int .i64 at_, .int .u8 bits]] w fun e' w' => DoO base w t b vs S (pv zpk) 92 e' w' := by
  have hl := hr.len
  have hjl : j.toNat < (S.R i e).L.length := by omega
  obtain ⟨hlt, hlb, hlv⟩ := h.lts
  have hB := spotW_below w en path j at_ bits
  have hrs := spotW_res w en path j at_ bits
  obtain ⟨W1, hW1⟩ : ∃ W1, W1 = spotW w en path j at_ bits := ⟨_, rfl⟩
  rw [← hW1] at hB hrs
  have hsp : Has W1 w.heap.size #[.int .i64 en, .int .i64 path, .int .i64 j, .int .i64 at_, .int .u8 bits] 92 := by
    rw [hW1]
    unfold spotW
    exact (Has.new w _ _).later ((Below.refl _ _).alloc (Nat.le_refl _) _)
  have h2 := h.later hB
  obtain ⟨g, cap, ev, hg, hcap, hmax, k0, k1, k2, k3, k4⟩ := pk_cells (h2.own i e) (j := j.toNat) hjl hq
  have c4 := h2.ln.cell ha.li ha.le 4 rfl
  rw [← ha.lo, ev] at c4
  have FIN : Hid (∀ W3, W3.heap = W1.heap → W3.os = W1.os → W3.tape = W1.tape → W3.output = W1.output → Has W3 (w.heap.size + 1) #[.int .i64 0, .int .i64 0, .int .i64 0, .bool false, .string ByteArray.empty] 88 ∧ (∀ x, x = set5 W3 (w.heap.size + 1) zpk → Has x (w.heap.size + 1) #[.int .i64 0, .int .i64 0, .int .i64 0, .bool false, .string ByteArray.empty] 88 ∧ DoO base w t b vs S (pv zpk) 92 (.returned (.tuple #[zv, .int .i64 92])) x)) := fun W3 hh e1 e2 e3 => by
    have hB3 : Below w.heap.size w W3 := ⟨e1.trans hB.os, e2.trans hB.tape, e3.trans hB.output, by rw [hh]; exact hB.size, fun k hk => by rw [hh]; exact hB.block k hk⟩
    have hr3 : Has W3 (w.heap.size + 1) #[.int .i64 0, .int .i64 0, .int .i64 0, .bool false, .string ByteArray.empty] 88 := by unfold Has; rw [hh]; exact hrs
    refine ⟨hr3, fun x hx => ?_⟩
    subst hx
    refine ⟨set5_has hr3 zpk, rfl, ⟨vs, (h.later hB3).set5 (fun i e k hk => by have := hlv _ _ _ hk; omega) (by omega) (by omega) _, fun i e k hk => .inl hk⟩, set5_kept (Kept.of_below hB3) (by omega) _, fun r cs hrr hne => set5_other (hrr.later hB3) (by have := hrr.lt; omega) _⟩
  have str := str_size q.bs
  have HW1 : Hid (W1 = (w.alloc (.cells #[.int .i64 en, .int .i64 path, .int .i64 j, .int .i64 at_, .int .u8 bits] 92)).alloc (.cells #[.int .i64 0, .int .i64 0, .int .i64 0, .bool false, .string ⟨#[]⟩] 88)) := hW1
  have s0 := hsp.cell 2 rfl
  have s1 := hsp.cell 3 rfl
  have s2 := hsp.cell 4 rfl
  have hW0 : w.heap.size + 1 < W1.heap.size := hrs.lt
  have a0 := hrs.cell 0 rfl
  have a1 := hrs.cell 1 rfl
  have a2 := hrs.cell 2 rfl
  have a3 := hrs.cell 3 rfl
  have a4 := hrs.cell 4 rfl
  have af0 := hrs.frozen 0
  have af1 := hrs.frozen 1
  have af2 := hrs.frozen 2
  have af3 := hrs.frozen 3
  have af4 := hrs.frozen 4
  generalize (S.R i e).L.length = n at *
  generalize hbl : q.bs.length = bl at *
  generalize hst : strOfNums q.bs = str0 at *
  clear h h2 ha hr hlv hB hrs hsp hW1 ev hq hst
  by_cases hneg : at_ < 0
  · go_enter Try.func43, Try.ntmps43
    go_upto_region 1 with fail
    rw [← HW1.out]
    go_quiet (fail)
    revert nq
    intro n1
    go_wp2
    go_quiet (fail)
    revert nq
    intro n2
    go_wp2
    obtain ⟨f1, f2⟩ := FIN.out (W1.drewN (n1 + n2)) rfl rfl rfl rfl
    obtain ⟨f3, f4⟩ := f2 _ rfl
    exact bodyPost_ret (v := .tuple #[zv, .int .i64 92]) (by exact res_zero (p := 4) (u := 5) rfl _ rfl f3) rfl f4
  · have hbig : (bl : Int) ≤ at_ := by omega
    go_enter Try.func43, Try.ntmps43
    go_upto_region 1 with fail
    rw [← HW1.out]
    go_quiet (fail)
    revert nq
    intro n1
    go_wp2
    go_quiet (fail)
    revert nq
    intro n2
    go_wp2
    obtain ⟨f1, f2⟩ := FIN.out (W1.drewN (n1 + n2)) rfl rfl rfl rfl
    obtain ⟨f3, f4⟩ := f2 _ rfl
    exact bodyPost_ret (v := .tuple #[zv, .int .i64 92]) (by exact res_zero (p := 4) (u := 5) rfl _ rfl f3) rfl f4
set_option maxHeartbeats 2000000 in
theorem spoil_ (h : No base w t b vs S) (hI : Inv S) (hn : S.next ≤ 1000) (en path j at_ : Int) {bits : Int} (hbi : 0 ≤ bits ∧ bits < 256) :
    Calls Try.prog 19 #[.pointer (some ⟨t, 0, none⟩), .int .i64 en, .int .i64 path, .int .i64 j, .int .i64 at_, .int .u8 bits] w fun e' w' => ErO base w t b (spS S en path j at_ bits) (spE S en path j at_) e' w' := by
  by_cases hE : trE S en path j = 0
  · obtain ⟨hp, h0, hj⟩ := trE_iff.1 hE
    have hr := hI.rows path.toNat en.toNat
    obtain ⟨q, hq⟩ : ∃ q, q = (S.R path.toNat en.toNat).L.getD j.toNat zpk := ⟨_, rfl⟩
    have hq2 : pkAt S en path j = q := hq.symm
    obtain ⟨S', q', c, hT, hS', hc⟩ : ∃ (S' : St) (q' : Pk) (c : Int), Calls Try.prog 38 #[.pointer (some ⟨t, 0, none⟩), sv en path j at_ bits, .func (.func 43) #[] #[]] w (fun e' w' => DoO base w t b vs S' (pv q') c e' w') ∧ spS S en path j at_ bits = S' ∧ spE S en path j at_ = c := by
      by_cases hat : 0 ≤ at_ ∧ at_ < (q.bs.length : Int)
      · have e1 : spE S en path j at_ = 0 := by unfold spE; rw [if_pos hE, hq2, if_pos hat]
        refine ⟨_, _, 0, treat_ok_spoil h hI hn hE (fun h1 => spoil h1 (At.of hp) hr hn h0 hj en path at_ bits hbi hq hat), ?_, e1⟩
        unfold spS
        rw [if_pos e1, hq2]
      · have e1 : spE S en path j at_ = 92 := by unfold spE; rw [if_pos hE, hq2, if_neg hat]
        refine ⟨_, _, 92, treat_ok_spoil h hI hn hE (fun h1 => spoil_no h1 (At.of hp) hr hn h0 hj en path at_ bits hq hat), ?_, e1⟩
        unfold spS
        rw [e1]
        exact if_neg (by decide)
    rw [hS', hc]
    have TR := hidden hT
    unfold sv at TR
    have FIN : Hid (∀ (w2 : World) (e' : Ending), DoO base w t b vs S' (pv q') c e' w2 → ∀ o, ErO base w t b S' c (.returned (.int .i64 c)) (w2.alloc o)) := fun w2 e' hD o => by
      obtain ⟨_, ⟨vs', hN, _⟩, hK, _⟩ := hD
      exact ⟨rfl, ⟨vs', hN.later ((Below.refl _ _).alloc (Nat.le_refl _) o)⟩, hK.alloc o⟩
    unfold pv at TR FIN
    clear h hE hp h0 hj hr hq hq2 hS' hc hT
    go_enter Try.func19, Try.ntmps19
    go_wp2_with fail
    refine Calls.mono TR.out ?_
    intro e' w2 hD
    have HD := hidden (FIN.out _ _ hD)
    obtain rfl := hD.1
    clear hD
    go_wp2
    go_ret
    exact HD.out _
  · have TR := hidden (treat_no_spoil h hI hn hE (at_ := at_) (bits := bits))
    unfold sv zv at TR
    have e1 : spE S en path j at_ = trE S en path j := by unfold spE; rw [if_neg hE]
    have e2 : spS S en path j at_ bits = S := by unfold spS; rw [e1, if_neg hE]
    rw [e1, e2]
    have FIN : Hid (∀ (w2 : World), Below w.heap.size w w2 → ∀ o, ErO base w t b S (trE S en path j) (.returned (.int .i64 (trE S en path j))) (w2.alloc o)) := fun w2 hB o => by
      have hB2 : Below w.heap.size w (w2.alloc o) := hB.alloc hB.size o
      exact ⟨rfl, ⟨vs, h.later hB2⟩, Kept.of_below hB2⟩
    clear e1 e2
    generalize trE S en path j = c at *
    clear h
    go_enter Try.func19, Try.ntmps19
    go_wp2_with fail
    refine Calls.mono TR.out ?_
    rintro e' w2 ⟨rfl, hB⟩
    have HD := hidden (FIN.out _ hB)
    clear hB
    go_wp2
    go_ret
    exact HD.out _
end
end Go.Proofs.Ytmogacccffkkbaa.Nt
