/-
  Encode and Check of package packet.
  Conditions: the numbers lie within their kinds, the cells hold them, the program's table holds its sixteen numbers.
-/
import Derived.Test.YtmnndkhdekpecaaGreatDoorPkA
import Derived.BigRegion
namespace Go.Proofs.YtmnndkhdekpecaaGreatDoor.Pkt
open Go.ChangeShapes Go.WideShapes Go.ChangeAt Go.RowKit
open Chu (Ch Ck Cks Chk val cv cc ld tot encA EncR)
open Par (hidden Bytes Row cell_lt)
set_option linter.unusedVariables false
set_option maxRecDepth 20000

theorem mk12 (w : World) : (Instr.makeSlice 27 (.int .i64 12) (.int .i64 12)).run Tryz.prog w = .ok (.slice (some ⟨w.heap.size, 0, none⟩) 12 12) (w.alloc (.cells #[.int .u8 0, .int .u8 0, .int .u8 0, .int .u8 0, .int .u8 0, .int .u8 0, .int .u8 0, .int .u8 0, .int .u8 0, .int .u8 0, .int .u8 0, .int .u8 0] 5)) := by
  kernel_rfl
set_option maxHeartbeats 2000000 in
theorem headBytes (base : Nat) (p : Pk) (w : World) (hp : PkOk base w p) : Calls Tryz.prog 28 #[pkv p] w fun e w' => ∃ g, e = .returned (.slice (some ⟨g, 0, none⟩) 12 12) ∧ Row w.heap.size w' (some ⟨g, 0, none⟩) 12 (hdz p.f p.t p.g) ∧ Below w.heap.size w w' := by
  have hm := fun w => mk12 w
  obtain ⟨hf, ht, hg, _⟩ := hp
  obtain ⟨f, t, g, a, n, c, l⟩ := p
  simp only at hf ht hg
  have HBY := hidden (hdz_bytes hf ht hg)
  unfold pkv pkc
  go_enter Tryz.func28, Tryz.ntmps28
  go_wp2_with fail
  go_region
  go_wp2
  go_region
  go_wp2
  go_region
  go_wp2
  go_ret
  exact ⟨_, rfl, row_at _ _ _ _ rfl rfl HBY.out (by show 12 ≤ _; omega) _ (by simp) _ (by simp), ((((Below.refl _ w).alloc (Nat.le_refl _) _).alloc (by simp) _).drew.drew).drew⟩
/-- a head and what stands behind it, one behind the other -/
theorem two_parts (w : World) (g b len cap : Nat) (G : Nat) (xs ys : List Int) (hG : G = w.heap.size) (h1 : Crc.Row w (some ⟨g, 0, none⟩) 12 xs) (h2 : Crc.Row w (some ⟨b, 0, none⟩) len ys) :
    Crc.Parts (w.alloc (.cells #[.slice (some ⟨g, 0, none⟩) 12 12, .slice (some ⟨b, 0, none⟩) len cap] 27)) (some ⟨G, 0, none⟩) 2 [(some ⟨g, 0, none⟩, 12, 12, xs), (some ⟨b, 0, none⟩, len, cap, ys)] := by
  have hb := below_new w (.cells #[.slice (some ⟨g, 0, none⟩) 12 12, .slice (some ⟨b, 0, none⟩) len cap] 27)
  refine ⟨rfl, by decide, ?_, .inr ⟨_, _, rfl, ?_⟩⟩
  · intro p hp
    simp only [List.mem_cons, List.not_mem_nil, or_false] at hp
    rcases hp with rfl | rfl
    · exact h1.later hb
    · exact h2.later hb
  · intro j p hj
    rw [World.cell?_alloc_at _ _ _ _ hG]
    match j, hj with
    | 0, hj => cases hj; rfl
    | 1, hj => cases hj; rfl
/-- what Encode leaves -/
def EncO (w w' : World) (p : Pk) (v : Value) (er : Int) : Prop :=
  PEnc p.f p.t (p.l.map val) er ∧ (er ≠ 0 → v = .slice none 0 0) ∧ (er = 0 → w'.ownsRow w.heap.size 5 1 v (12 + tot (p.l.map val)) ((pby p.f p.t p.g (p.l.map val)).map (Value.int .u8))) ∧ Below w.heap.size w w'
theorem own_down {w : World} {base base' e s n : Nat} {v : Value} {xs : List Value} (h : w.ownsRow base e s v n xs) (hb : base' ≤ base) : w.ownsRow base' e s v n xs := Crc.own_le h hb
set_option maxHeartbeats 1000000 in
theorem encode (base : Nat) (w : World) (p : Pk) (hp : PkOk base w p) (ht : Crc.Tab w) :
    Calls Tryz.prog 8 #[pkv p] w fun e w' => ∃ v er, e = .returned (.tuple #[v, .int .i64 er]) ∧ EncO w w' p v er := by
  have HP := hidden hp
  have HT := hidden ht
  have hnl := hp.2.2.2.2.1
  have hll : (p.l.map val).length = p.n := by rw [List.length_map]; exact hp.2.2.2.1
  have HLL := hidden hll
  have HB0 := hidden (below_new w (.cells (pkc p) 26))
  have P1 := hidden (hasPorts p (w.alloc (.cells (pkc p) 26)))
  have HX := hidden (Px.new w p 26)
  clear hp ht hll
  simp only [pkv, pkc] at *
  go_enter Tryz.func8, Tryz.ntmps8
  go_wp2_with fail
  refine Calls.mono P1.out ?_
  rintro e w1 ⟨rfl, b1⟩
  have HB1 := hidden (HB0.out.trans (b1.mono HB0.out.size))
  have HX1 := hidden (HX.out.later b1)
  clear b1 P1 HX HB0
  by_cases hpo : p.f ≠ 0 ∧ p.t ≠ 0
  · rw [portsB_t hpo]
    have HPO := hidden hpo
    clear hpo
    obtain ⟨c0, c1, c2, c3⟩ := HX1.out
    by_cases h0 : p.n = 0
    · have e0 : p.l.map val = [] := List.eq_nil_of_length_eq_zero (by rw [HLL.out, h0])
      have HR := hidden (show EncO w w1 p (.slice none 0 0) 73 from ⟨.inr (.inl ⟨HPO.out, e0, rfl⟩), fun _ => rfl, fun h => absurd h (by decide), HB1.out⟩)
      rw [h0] at c3
      go_wp2
      go_ret2
      exact ⟨_, _, rfl, HR.out⟩
    · have i0 : ¬ (p.n : Int) = 0 := by omega
      have HNE := hidden (show p.l.map val ≠ [] from fun e => h0 (by rw [← HLL.out, e]; rfl))
      have TG := hidden (together base w1 p.a p.n p.c p.l (HP.out.2.2.2.later HB1.out))
      go_wp2_with fail
      refine Calls.mono TG.out ?_
      rintro e w2 ⟨tt, rfl, htt, b2⟩
      have HTT := hidden htt
      have HB2 := hidden (HB1.out.trans (b2.mono HB1.out.size))
      have HX2 := hidden (HX1.out.later b2)
      clear b2 htt TG c0 c1 c2 c3
      obtain ⟨c0, c1, c2, c3⟩ := HX2.out
      cases tt with
      | false =>
        have HMX := hidden (show Mixed (p.l.map val) from Classical.not_not.1 fun h => by simpa using HTT.out.2 h)
        have HR := hidden (show EncO w w2 p (.slice none 0 0) 74 from ⟨.inr (.inr (.inl ⟨HPO.out, HNE.out, HMX.out, rfl⟩)), fun _ => rfl, fun h => absurd h (by decide), HB2.out⟩)
        go_wp2
        go_ret2
        exact ⟨_, _, rfl, HR.out⟩
      | true =>
        have HMX := hidden (HTT.out.1 rfl)
        have EN := hidden (Chu.encode base w2 p.a p.n p.c p.l (HP.out.2.2.2.later HB2.out))
        go_wp2_with fail
        refine Calls.mono EN.out ?_
        rintro e w3 ⟨v, er, rfl, hE, hbad, hgood, b3⟩
        have HE := hidden hE
        have HB3 := hidden (HB2.out.trans (b3.mono HB2.out.size))
        have HX3 := hidden (HX2.out.later b3)
        clear b3 hE EN c0 c1 c2 c3
        obtain ⟨c0, c1, c2, c3⟩ := HX3.out
        by_cases he : er = 0
        · subst he
          obtain ⟨g, cap, rfl, hcap⟩ := hgood rfl
          obtain ⟨hall, htot⟩ := encR_ok HE.out
          have HALL := hidden hall
          have hvk : ∀ v ∈ p.l.map val, Chu.VOk v := by
            intro v hv
            obtain ⟨c, hc, rfl⟩ := List.mem_map.1 hv
            exact (HP.out.2.2.2.2.2.1 c hc).vok
          have hby := Chu.encA_bytes hvk hall
          have hrow := hcap.row hby
          rw [Chu.encA_len hall] at hrow
          have HROW := hidden hrow
          clear hgood hbad hcap hrow hall
          by_cases hlong : 65524 < tot (p.l.map val)
          · have i1 : (65536 : Int) < 12 + (tot (p.l.map val) : Int) := by omega
            have HR := hidden (show EncO w w3 p (.slice none 0 0) 2 from ⟨.inr (.inr (.inr (.inr (.inl ⟨HPO.out, HNE.out, HMX.out, HE.out, hlong, rfl⟩)))), fun _ => rfl, fun h => absurd h (by decide), HB3.out⟩)
            go_wp2
            go_ret2
            exact ⟨_, _, rfl, HR.out⟩
          · have i1 : ¬ (65536 : Int) < 12 + (tot (p.l.map val) : Int) := by omega
            have HD := hidden (headBytes base p w3 (HP.out.later HB3.out))
            go_wp2_with fail
            refine Calls.mono HD.out ?_
            rintro e w4 ⟨hg, rfl, hrow4, b4⟩
            have HB4 := hidden (HB3.out.trans (b4.mono HB3.out.size))
            have hp2 := two_parts w4 hg g (tot (p.l.map val)) cap _ _ _ rfl (crow hrow4) (crow (HROW.out.later b4))
            have hal : Crc.all [(some (⟨hg, 0, none⟩ : Addr), 12, 12, hdz p.f p.t p.g), (some ⟨g, 0, none⟩, tot (p.l.map val), cap, encA (p.l.map val))] = pre p.f p.t p.g (encA (p.l.map val)) := by simp [Crc.all, pre]
            have hlen : (pre p.f p.t p.g (encA (p.l.map val))).length = 12 + tot (p.l.map val) := by rw [pre_len, Chu.encA_len HALL.out]
            have CO := Crc.concat _ 2 2 _ _ hp2 (by
              intro q hq hn
              simp only [List.mem_cons, List.not_mem_nil, or_false] at hq
              rcases hq with rfl | rfl <;> cases hn) (by rw [hal, hlen]; omega) (by rw [hal, hlen]; omega)
            rw [hal, hlen] at CO
            have HCO := hidden CO
            have HB5 := hidden (HB4.out.trans ((below_new w4 (.cells #[.slice (some ⟨hg, 0, none⟩) 12 12, .slice (some ⟨g, 0, none⟩) (tot (p.l.map val)) cap] 27)).mono HB4.out.size))
            have HPB := hidden (pre_bytes HP.out.1 HP.out.2.1 HP.out.2.2.1 hby)
            have HLN := hidden hlen
            clear CO hp2 hal hrow4 b4 hby hlen
            go_wp2_with fail
            refine Calls.mono HCO.out ?_
            rintro e w6 ⟨v, rfl, hown, b6⟩
            obtain ⟨va, vc, rfl, hr6, hcap6, hnone6, _⟩ := Crc.row_own hown HPB.out (by omega)
            obtain ⟨vb, voff, rfl⟩ : ∃ vb voff, va = some ⟨vb, voff, none⟩ := by
              rcases hr6.2.2.2 with h | ⟨b, off, h, _⟩
              · omega
              · exact ⟨b, off, h⟩
            have HB6 := hidden (HB5.out.trans (b6.mono HB5.out.size))
            have PU := hidden (Crc.put vb voff (12 + tot (p.l.map val)) vc _ w6 (HT.out.later HB6.out HT.out.pos) hr6 (by omega) hcap6 (by omega))
            clear hown hr6 hcap6 hnone6 b6 HCO
            go_wp2_with fail
            refine Calls.mono PU.out ?_
            rintro e w7 ⟨v7, rfl, hown7, b7⟩
            have HR := hidden (show EncO w w7 p v7 0 from ⟨.inr (.inr (.inr (.inr (.inr ⟨HPO.out, HNE.out, HMX.out, HE.out, by omega, rfl⟩)))), fun h => absurd rfl h, fun _ => own_down hown7 HB6.out.size, HB6.out.trans (b7.mono HB6.out.size)⟩)
            clear hown7 b7
            go_wp2
            go_ret2
            exact ⟨_, _, rfl, HR.out⟩
        · obtain rfl := hbad he
          have hne := Chu.bne_t he
          have HR := hidden (show EncO w w3 p (.slice none 0 0) er from ⟨.inr (.inr (.inr (.inl ⟨HPO.out, HNE.out, HMX.out, HE.out, he⟩))), fun _ => rfl, fun h => absurd h he, HB3.out⟩)
          clear hgood hbad
          go_wp2
          go_ret2
          exact ⟨_, _, rfl, HR.out⟩
  · rw [portsB_f hpo]
    have HR := hidden (show EncO w w1 p (.slice none 0 0) 72 from ⟨.inl ⟨by omega, rfl⟩, fun _ => rfl, fun h => absurd h (by decide), HB1.out⟩)
    clear hpo
    go_wp2
    go_ret2
    exact ⟨_, _, rfl, HR.out⟩
theorem check (base : Nat) (w : World) (p : Pk) (hp : PkOk base w p) (ht : Crc.Tab w) :
    Calls Tryz.prog 10 #[pkv p] w fun e w' => ∃ er, e = .returned (.int .i64 er) ∧ PEnc p.f p.t (p.l.map val) er ∧ Below w.heap.size w w' := by
  have hb := below_new w (.cells (pkc p) 26)
  have EN := hidden (encode base _ p (hp.later hb) (ht.later hb ht.pos))
  have HB := hidden hb
  clear hp ht hb
  simp only [pkv, pkc] at *
  go_enter Tryz.func10, Tryz.ntmps10
  go_wp2_with fail
  refine Calls.mono EN.out ?_
  rintro e w1 ⟨v, er, rfl, h1, _, _, b1⟩
  have H1 := hidden h1
  have HB1 := hidden (HB.out.trans (b1.mono HB.out.size))
  clear h1 b1
  go_wp2
  go_ret
  exact ⟨_, rfl, H1.out, HB1.out⟩
end Go.Proofs.YtmnndkhdekpecaaGreatDoor.Pkt
