/-
  The document's reader: parameters; flags of chunks without a value. The document's reader: a value. The document's reader: a value. The document's reader: a value. What the document's Decode tells. What the document's All tells.
  Conditions: as at each lemma.
-/
import Derived.Test.YtmnndkhdekpecaaGreatDoorChRb
import Derived.Test.YtmnndkhdekpecaaGreatDoorParN
import Derived.Test.YtmnndkhdekpecaaGreatDoorCe
import Derived.Test.YtmnndkhdekpecaaGreatDoorOr
import Derived.Test.YtmnndkhdekpecaaGreatDoorCf
namespace Go.Proofs.YtmnndkhdekpecaaGreatDoor.Chu
open Go.ChangeShapes Go.WideShapes Go.ChangeAt Go.RowKit
open Par (hidden Bytes Row Prm Prms cell_lt Cap cells_new cutA thrown form_of)
set_option linter.unusedVariables false
attribute [local go_sem ↓] execOp_ld execOp_bx execOp_st
attribute [local go_sem] run_box

theorem rBeat (c : Ck) (w : World) : Calls Tryz.prog 76 #[cv c] w fun e w' => e = .returned (.bool (beat c.kind)) ∧ Below w.heap.size w w' := by
  have q0 := (Bx.new w c).c0
  have HB := hidden (below_box w c)
  by_cases h4 : c.kind = 4
  · have e : beat c.kind = true := by rw [h4]; rfl
    rw [e]
    rw [h4] at q0
    go_enter Tryz.func76, Tryz.ntmps76
    go_wp2
    go_ret
    exact ⟨rfl, HB.out⟩
  · have e4 := beq_f h4
    have e : beat c.kind = (c.kind == 5) := by unfold beat; rw [e4]; rfl
    rw [e]
    go_enter Tryz.func76, Tryz.ntmps76
    go_wp2
    go_ret
    exact ⟨rfl, HB.out⟩
/-- the flags of a chunk without a value -/
theorem rBareF (c : Ck) (w : World) (hk : c.kind = 8 ∨ c.kind = 11 ∨ c.kind = 14) (hf : 0 ≤ c.flags ∧ c.flags < 256) : Calls Tryz.prog 75 #[cv c] w fun e w' => ∃ d : Ck, e = .returned (cv d) ∧ d.flags = flg c.kind c.flags ∧ Below w.heap.size w w' := by
  have b1 := Bx.new w c
  have b2 : Bx ((w.alloc (.cells (cc c) 59)).alloc (.cells #[.int .u8 0, .int .u8 0, .int .u32 0, .int .u16 0, .int .u16 0, .int .u32 0, .int .u32 0, .int .u32 0, .int .u16 0, .int .u16 0, .slice none 0 0, .slice none 0 0, .slice none 0 0, .slice none 0 0, .slice none 0 0] 59)) (w.heap.size + 1) (zck 0) := by
    have := Bx.new (w.alloc (.cells (cc c) 59)) (zck 0)
    rw [World.size_alloc] at this
    exact this
  obtain ⟨W, hS, hbx, hbw⟩ := newvar ((w.alloc (.cells (cc c) 59)).alloc (.cells #[.int .u8 0, .int .u8 0, .int .u32 0, .int .u16 0, .int .u16 0, .int .u32 0, .int .u32 0, .int .u32 0, .int .u16 0, .int .u16 0, .slice none 0 0, .slice none 0 0, .slice none 0 0, .slice none 0 0, .slice none 0 0] 59)) (zck c.kind)
  have hsz : ((w.alloc (.cells (cc c) 59)).alloc (.cells #[.int .u8 0, .int .u8 0, .int .u32 0, .int .u16 0, .int .u16 0, .int .u32 0, .int .u32 0, .int .u32 0, .int .u16 0, .int .u16 0, .slice none 0 0, .slice none 0 0, .slice none 0 0, .slice none 0 0, .slice none 0 0] 59)).heap.size = w.heap.size + 2 := by simp
  rw [hsz] at hS hbx hbw
  have hbb : Below w.heap.size w W := (((Below.refl _ w).alloc (Nat.le_refl _) (.cells (cc c) 59)).alloc (by simp) _).trans (hbw.mono (by omega))
  have x1 : Bx W w.heap.size c := (b1.alloc (.cells #[.int .u8 0, .int .u8 0, .int .u32 0, .int .u16 0, .int .u16 0, .int .u32 0, .int .u32 0, .int .u32 0, .int .u16 0, .int .u16 0, .slice none 0 0, .slice none 0 0, .slice none 0 0, .slice none 0 0, .slice none 0 0] 59)).later (by rw [hsz]; exact hbw)
  have x2 : Bx W (w.heap.size + 1) (zck 0) := b2.later (by rw [hsz]; exact hbw)
  have q0 := ((Bx.new w c).alloc (.cells #[.int .u8 0, .int .u8 0, .int .u32 0, .int .u16 0, .int .u16 0, .int .u32 0, .int .u32 0, .int .u32 0, .int .u16 0, .int .u16 0, .slice none 0 0, .slice none 0 0, .slice none 0 0, .slice none 0 0, .slice none 0 0] 59)).c0
  have hS' : (sto (.pointer (some ⟨w.heap.size + 2, 0, none⟩)) (.agg #[.int .u8 c.kind, .int .u8 0, .int .u32 0, .int .u16 0, .int .u16 0, .int .u32 0, .int .u32 0, .int .u32 0, .int .u16 0, .int .u16 0, .slice none 0 0, .slice none 0 0, .slice none 0 0, .slice none 0 0, .slice none 0 0])).run Tryz.prog (((w.alloc (.cells (cc c) 59)).alloc (.cells #[.int .u8 0, .int .u8 0, .int .u32 0, .int .u16 0, .int .u16 0, .int .u32 0, .int .u32 0, .int .u32 0, .int .u16 0, .int .u16 0, .slice none 0 0, .slice none 0 0, .slice none 0 0, .slice none 0 0, .slice none 0 0] 59)).alloc (.cells #[.int .u8 0, .int .u8 0, .int .u32 0, .int .u16 0, .int .u16 0, .int .u32 0, .int .u32 0, .int .u32 0, .int .u16 0, .int .u16 0, .slice none 0 0, .slice none 0 0, .slice none 0 0, .slice none 0 0, .slice none 0 0] 59)) = .ok () W := hS
  have q0' := x1.c0
  have HX1 := hidden x1
  have HX2 := hidden x2
  have HX3 := hidden hbx
  have HB := hidden hbb
  clear hS b1 b2 hbw hbb hsz x1 x2 hbx
  generalize hkk : c.kind = k at *
  have fin : ∀ (W' : World) (d : Ck), Bx W' (w.heap.size + 2) d → Bx W' (w.heap.size + 1) (zck 0) → Below w.heap.size w W' → (sto (.pointer (some ⟨w.heap.size + 1, 0, none⟩)) (cv d)).run Tryz.prog W' = .ok () (stoW W' (w.heap.size + 1) d) ∧ Bx (stoW W' (w.heap.size + 1) d) (w.heap.size + 1) d ∧ Below w.heap.size w (stoW W' (w.heap.size + 1) d) := fun W' d h1 h2 h3 => ⟨sto_run h2 d, stoW_bx h2 d, stoW_below d h3 (by omega)⟩
  rcases hk with rfl | rfl | rfl
  · obtain ⟨f1, f2, f3⟩ := fin W _ HX3.out HX2.out HB.out
    have l3 := HX3.out.ld
    have F2 := hidden f2
    have F3 := hidden f3
    clear f2 f3 fin
    go_enter Tryz.func75, Tryz.ntmps75
    go_wp2
    exact bodyPost_ret (v := cv (zck 8)) (cell_res Tryz.results75 F2.out _ rfl) rfl ⟨zck 8, rfl, by simp [flg, zck], F3.out⟩
  · obtain ⟨f1, f2, f3⟩ := fin W _ HX3.out HX2.out HB.out
    have l3 := HX3.out.ld
    have F2 := hidden f2
    have F3 := hidden f3
    clear f2 f3 fin
    go_enter Tryz.func75, Tryz.ntmps75
    go_wp2
    exact bodyPost_ret (v := cv (zck 11)) (cell_res Tryz.results75 F2.out _ rfl) rfl ⟨zck 11, rfl, by simp [flg, zck], F3.out⟩
  · have q1 := HX1.out.c1
    have q3 := HX3.out.c1
    have z3 := HX3.out.fr 1
    have hr : c.flags.tmod 2 = c.flags % 2 := Int.tmod_eq_emod_of_nonneg hf.1
    have hw : ∀ z : Int, IntKind.u8.wrap z = z % 256 := fun _ => rfl
    have hw2 : c.flags % 2 % 256 = c.flags % 2 := by omega
    have x4 : Bx (W.setCell ⟨w.heap.size + 2, 1, none⟩ (.int .u8 (c.flags % 2))) (w.heap.size + 2) { zck 14 with flags := c.flags % 2 } := HX3.out.s1 _
    have x5 : Bx (W.setCell ⟨w.heap.size + 2, 1, none⟩ (.int .u8 (c.flags % 2))) (w.heap.size + 1) (zck 0) := HX2.out.keep (by omega) _ _
    have b5 : Below w.heap.size w (W.setCell ⟨w.heap.size + 2, 1, none⟩ (.int .u8 (c.flags % 2))) := HB.out.setCell (by simp) _
    obtain ⟨f1, f2, f3⟩ := fin _ _ x4 x5 b5
    have l3 := x4.ld
    have F2 := hidden f2
    have F3 := hidden f3
    clear f2 f3 fin x4 x5 b5
    go_enter Tryz.func75, Tryz.ntmps75
    go_wp2
    exact bodyPost_ret (v := cv { zck 14 with flags := c.flags % 2 }) (cell_res Tryz.results75 F2.out _ rfl) rfl ⟨_, rfl, by simp [flg], F3.out⟩
/-- what is told of parameters -/
def PrR (w : World) (v : List Int) (c : Ck) (e : Ending) (w' : World) : Prop :=
  ∃ c' er, e = .returned (.tuple #[cv c', .int .i64 er]) ∧ Below w.heap.size w w' ∧ ∃ l q cd, Par.Out v l q cd ∧ ((cd ≠ 0 ∧ er = cd) ∨ (cd = 0 ∧ beat c.kind = true ∧ ¬ OneBeat l ∧ er = 61) ∨ (cd = 0 ∧ (beat c.kind = true → OneBeat l) ∧ er = 0 ∧ val c' = { val c with ps := l } ∧ Lsts w.heap.size w' c'))
theorem lsts_p {n : Nat} {w : World} {c : Ck} (h : Lsts n w c) {a : Option Addr} {l k : Nat} {xs : List Prm} (hp : Prms n w a l xs) : Lsts n w { c with pa := a, pl := l, pc := k, ps := xs } := ⟨h.1, h.2.1, h.2.2.1, h.2.2.2.1, h.2.2.2.2.1, hp⟩
set_option maxRecDepth 20000 in
set_option maxHeartbeats 1000000 in
theorem rParams (base : Nat) (w : World) (a : Option Addr) (len cap : Nat) (v : List Int) (c : Ck) (hr : Row base w a len v) (hlc : len ≤ cap) (hnn : a = none → len = 0 ∧ cap = 0) (hl : ∀ nn w, Lsts nn w c) :
    Calls Tryz.prog 106 #[cv c, .slice a len cap] w fun e w' => PrR w v c e w' := by
  have S0 := Ds.start w c hl
  have hcc : (cc (zck 0)) = #[.int .u8 0, .int .u8 0, .int .u32 0, .int .u16 0, .int .u16 0, .int .u32 0, .int .u32 0, .int .u32 0, .int .u16 0, .int .u16 0, .slice none 0 0, .slice none 0 0, .slice none 0 0, .slice none 0 0, .slice none 0 0] := rfl
  rw [hcc] at S0
  have HS := hidden S0
  have DE := hidden (Par.rDecode base _ a len cap v (hr.later S0.2.2.1) hlc hnn)
  clear S0 hcc hr hl hlc hnn
  go_enter Tryz.func106, Tryz.ntmps106
  go_wp2_with fail
  generalize hW : World.alloc (World.alloc w (.cells (cc c) 59)) _ = W at *
  clear hW
  refine Calls.mono DE.out ?_
  rintro e w1 ⟨pa, n, pcap, ps, q, cd, rfl, hP, _, hO, b1⟩
  have s1 := HS.out.later b1
  have hP' : Prms (w.heap.size + 2) w1 pa n ps := prms_mono hP HS.out.2.2.2.1
  have HO := hidden hO
  have HP := hidden hP'
  have HS1 := hidden s1
  clear DE hP hP' hO s1 b1 HS
  by_cases hcd : cd = 0
  case neg =>
    have hne := bne_t hcd
    obtain ⟨f1, f2, f3, f4, f5⟩ := HS1.out.fin
    have F3 := hidden f3
    have F4 := hidden f4
    have HCD := hidden hcd
    clear f3 f4 f5 hcd
    go_wp2
    exact bodyPost_ret (v := .tuple #[cv c, .int .i64 cd]) (cell_res2 Tryz.results106 F3.out _ rfl rfl) rfl ⟨c, cd, rfl, F4.out, _, q, cd, HO.out, .inl ⟨HCD.out, rfl⟩⟩
  subst hcd
  have q14 := HS1.out.1.c14
  have z14 := HS1.out.1.fr 14
  have s2 := HS1.out.store (HS1.out.1.s14 pa n pcap ps) (lsts_p HS1.out.2.2.2.2 HP.out)
  have HS2 := hidden s2
  have HP2 := hidden (HP.out.set (x := ⟨w.heap.size, 14, none⟩) (by simp) (.slice pa n pcap))
  have l2 := s2.1.ld
  clear s2
  go_wp2_with fail
  clear q14 z14 l2
  generalize w1.setCell ⟨w.heap.size, 14, none⟩ (.slice pa n pcap) = W2 at *
  generalize hc2 : ({ c with pa := pa, pl := n, pc := pcap, ps := ps } : Ck) = c2 at *
  have HC2 := hidden hc2
  have hk2 : c2.kind = c.kind := by rw [← hc2]
  have HV2 := hidden (show val c2 = { val c with ps := ps.map Par.val } by rw [← hc2]; rfl)
  refine Calls.mono (rBeat c2 W2) ?_
  rintro e w3 ⟨rfl, b3⟩
  rw [hk2]
  have s3 := HS2.out.later b3
  have hP3 := HP2.out.later b3
  obtain ⟨f1, f2, f3, f4, f5⟩ := s3.fin
  have F3 := hidden f3
  have F4 := hidden f4
  have F5 := hidden f5
  have hpl := hP3.1
  clear hc2 hk2 b3 s3 f3 f4 f5 HS1 HS2 HP HP2 HC2
  by_cases hb : beat c.kind = true
  case neg =>
    have hb' : beat c.kind = false := by simpa using hb
    have HB := hidden hb
    rw [hb']
    clear hb hb' hP3
    go_wp2
    exact bodyPost_ret (v := .tuple #[cv c2, .int .i64 0]) (cell_res2 Tryz.results106 F3.out _ rfl rfl) rfl ⟨c2, 0, rfl, F4.out, _, q, 0, HO.out, .inr (.inr ⟨rfl, fun h => absurd h HB.out, rfl, HV2.out, F5.out⟩)⟩
  rw [hb]
  have HB := hidden hb
  clear hb
  by_cases h1 : n = 1
  case neg =>
    have e1 : ((n : Int) != 1) = true := bne_t (by omega)
    have HN := hidden (show ¬ OneBeat (ps.map Par.val) from fun ⟨b, h⟩ => by
      have := congrArg List.length h
      simp at this
      omega)
    clear hP3 h1
    go_wp2
    exact bodyPost_ret (v := .tuple #[cv c2, .int .i64 61]) (cell_res2 Tryz.results106 F3.out _ rfl rfl) rfl ⟨c2, 61, rfl, F4.out, _, q, 0, HO.out, .inr (.inl ⟨rfl, HB.out, HN.out, rfl⟩)⟩
  subst h1
  obtain ⟨b, off, t, a', len', cap', zs', rfl, hpk, hc1, _, _⟩ := hP3.get (k := 0) (by omega)
  obtain ⟨p, rfl⟩ : ∃ p, ps = [p] := by
    match ps, hpl with
    | [p], _ => exact ⟨p, rfl⟩
  simp only [List.getElem?_cons_zero, Option.some.injEq] at hpk
  subst hpk
  simp only [Nat.zero_mul, Nat.add_zero] at hc1
  clear hP3 hpl
  by_cases ht : t = 1
  · subst ht
    have HN := hidden (show OneBeat ([((1 : Int), a', len', cap', zs')].map Par.val) from ⟨zs', rfl⟩)
    go_wp2
    exact bodyPost_ret (v := .tuple #[cv c2, .int .i64 0]) (cell_res2 Tryz.results106 F3.out _ rfl rfl) rfl ⟨c2, 0, rfl, F4.out, _, q, 0, HO.out, .inr (.inr ⟨rfl, fun _ => HN.out, rfl, HV2.out, F5.out⟩)⟩
  · have e1 := bne_t ht
    have HN := hidden (show ¬ OneBeat ([(t, a', len', cap', zs')].map Par.val) from fun ⟨b, h⟩ => by simp [Par.val] at h; exact ht h.1)
    clear ht
    go_wp2
    exact bodyPost_ret (v := .tuple #[cv c2, .int .i64 61]) (cell_res2 Tryz.results106 F3.out _ rfl rfl) rfl ⟨c2, 61, rfl, F4.out, _, q, 0, HO.out, .inr (.inl ⟨rfl, HB.out, HN.out, rfl⟩)⟩
end Go.Proofs.YtmnndkhdekpecaaGreatDoor.Chu
namespace Go.Proofs.YtmnndkhdekpecaaGreatDoor.Chu
open Go.ChangeShapes Go.WideShapes Go.ChangeAt Go.RowKit
open Par (hidden Bytes Row Prm Prms cell_lt Cap cells_new cutA thrown form_of)
set_option linter.unusedVariables false
attribute [local go_sem ↓] execOp_ld execOp_bx execOp_st
attribute [local go_sem] run_box

/-- a chunk of a kind, with flags -/
def kf (k f : Int) : Ck := { zck k with flags := f }
theorem kf_lsts (k f : Int) (nn : Nat) (w : World) : Lsts nn w (kf k f) := zck_lsts nn k w
/-- the result of a callee is stored -/
theorem Ds.sub {w W1 w2 : World} {c1 : Ck} (h : Ds w W1 c1) (hb : Below W1.heap.size W1 w2) (c' : Ck) : (sto (.pointer (some ⟨w.heap.size + 1, 0, none⟩)) (cv c')).run Tryz.prog w2 = .ok () (stoW w2 (w.heap.size + 1) c') ∧
    Bx (stoW w2 (w.heap.size + 1) c') (w.heap.size + 1) c' ∧ Below w.heap.size w (stoW w2 (w.heap.size + 1) c') ∧ (Lsts W1.heap.size w2 c' → Lsts w.heap.size (stoW w2 (w.heap.size + 1) c') c') := by
  have h2 := h.later hb
  have hbb := stoW_below c' (Below.refl (w.heap.size + 1) w2) (Nat.le_refl _)
  have hT : Tch (w.heap.size + 1) w.heap.size w2 (stoW w2 (w.heap.size + 1) c') := ⟨hbb.os, hbb.tape, hbb.output, hbb.size, fun k hk hB _ => other_setCells (w.heap.size + 1) k hB _ _ _⟩
  have hs := h.2.2.2.1
  exact ⟨sto_run h2.2.1 c', stoW_bx h2.2.1 c', stoW_below c' h2.2.2.1 (by omega), fun hl => (hl.tch (by omega) (by omega) hT).mono (by omega)⟩
theorem RdR.of {w W1 w2 W3 : World} {v : List Int} {k : Int} {x : Ch} {c' : Ck} {er : Int} {y : Ch} (hf : Fil k v x er y) (h : er = 0 → val c' = y ∧ Lsts W1.heap.size w2 c') (hl : Lsts W1.heap.size w2 c' → Lsts w.heap.size W3 c') (hb : Below w.heap.size w W3) : RdR w v k x (.returned (.tuple #[cv c', .int .i64 er])) W3 := ⟨c', er, y, rfl, hf, fun e => ⟨(h e).1, hl (h e).2⟩, hb⟩
theorem fil7_bad {v : List Int} {x : Ch} (h : v.length ≠ 4) (y : Ch) : Fil 7 v x 61 y := by
  unfold Fil
  by_cases hl : v.length < nb 7
  · rw [if_pos hl]
  · rw [if_neg hl, if_neg (by decide), if_pos rfl]
    exact .inl ⟨h, rfl⟩
theorem fil7_ok {v : List Int} {x : Ch} (h : v.length = 4) : Fil 7 v x 0 { x with tsn := n4 v 0 } := by
  have h7 : nb 7 = 4 := rfl
  unfold Fil
  rw [if_neg (by rw [h7]; omega), if_neg (by decide), if_pos rfl]
  exact .inr ⟨h, rfl, rfl⟩
theorem tmod_n (f n : Int) (h : 0 ≤ f) : f.tmod n = f % n := Int.tmod_eq_emod_of_nonneg h
theorem lsts_b {n : Nat} {w : World} {c : Ck} (h : Lsts n w c) {a : Option Addr} {l k : Nat} {xs : List Int} (hp : Row n w a l xs) (hn : a = none → l = 0 ∧ k = 0) : Lsts n w { c with ba := a, bl := l, bc := k, bs := xs } := ⟨h.1, h.2.1, h.2.2.1, hp, hn, h.2.2.2.2.2⟩
set_option maxRecDepth 20000 in
set_option maxHeartbeats 1000000 in
theorem read3 (base : Nat) (w : World) (a : Option Addr) (len cap : Nat) (v : List Int) (f : Int) (hf : 0 ≤ f ∧ f < 256) (hr : Row base w a len v) (hlc : len ≤ cap) (hnn : a = none → len = 0 ∧ cap = 0) :
    Calls Tryz.prog 90 #[cv (kf 3 f), .slice a len cap] w fun e w' => RdR w v 3 (zch 3 (flg 3 f)) e w' := by
  have S0 := Ds.start w (kf 3 f) (kf_lsts 3 f)
  have hcc : (cc (zck 0)) = #[.int .u8 0, .int .u8 0, .int .u32 0, .int .u16 0, .int .u16 0, .int .u32 0, .int .u32 0, .int .u32 0, .int .u16 0, .int .u16 0, .slice none 0 0, .slice none 0 0, .slice none 0 0, .slice none 0 0, .slice none 0 0] := rfl
  rw [hcc] at S0
  have HS := hidden S0
  have hzl := hr.1
  have hlim := hr.2.2.1
  have HR := hidden hr
  have HBY := hidden hr.2.1
  clear S0 hcc hr
  have hfl : flg 3 f = 0 := by simp [flg]
  rw [hfl]
  go_enter Tryz.func90, Tryz.ntmps90
  go_upto_region 1 with fail
  generalize hW : World.alloc (World.alloc w (.cells (cc (kf 3 f)) 59)) _ = W at *
  clear hW
  have q0 : W.cell? ⟨w.heap.size, 0, none⟩ = some (.int .u8 3) := HS.out.1.c0
  have q1 : W.cell? ⟨w.heap.size, 1, none⟩ = some (.int .u8 f) := HS.out.1.c1
  have z1 := HS.out.1.fr 1
  have s1 : Ds w (W.setCell ⟨w.heap.size, 1, none⟩ (.int .u8 0)) (kf 3 0) := HS.out.store (HS.out.1.s1 0) (kf_lsts _ _ _ _)
  have l1 := s1.1.ld
  have HS1 := hidden s1
  clear s1
  go_wp2_with fail
  clear q0 q1 z1 l1
  generalize World.setCell _ ⟨w.heap.size, 1, none⟩ (.int .u8 0) = W1 at *
  refine Calls.mono (rLists3 base W1 a len cap v (kf 3 0) (HR.out.later HS1.out.2.2.1) rfl (kf_lsts _ _) ⟨rfl, rfl, rfl, rfl⟩) ?_
  rintro e w2 ⟨c', er, y, rfl, hF, hok, b2⟩
  obtain ⟨t1, t2, t3, t4⟩ := HS1.out.sub b2 c'
  have T2 := hidden t2
  have T3 := hidden t3
  have T4 := hidden t4
  have HF := hidden hF
  have HOK := hidden hok
  clear t2 t3 t4 hF hok b2
  go_wp2
  exact bodyPost_ret (v := .tuple #[cv c', .int .i64 er]) (cell_res2 Tryz.results90 T2.out _ rfl rfl) rfl (RdR.of HF.out HOK.out T4.out T3.out)
set_option maxRecDepth 20000 in
set_option maxHeartbeats 1000000 in
theorem read16 (base : Nat) (w : World) (a : Option Addr) (len cap : Nat) (v : List Int) (f : Int) (hf : 0 ≤ f ∧ f < 256) (hr : Row base w a len v) (hlc : len ≤ cap) (hnn : a = none → len = 0 ∧ cap = 0) :
    Calls Tryz.prog 90 #[cv (kf 16 f), .slice a len cap] w fun e w' => RdR w v 16 (zch 16 (flg 16 f)) e w' := by
  have S0 := Ds.start w (kf 16 f) (kf_lsts 16 f)
  have hcc : (cc (zck 0)) = #[.int .u8 0, .int .u8 0, .int .u32 0, .int .u16 0, .int .u16 0, .int .u32 0, .int .u32 0, .int .u32 0, .int .u16 0, .int .u16 0, .slice none 0 0, .slice none 0 0, .slice none 0 0, .slice none 0 0, .slice none 0 0] := rfl
  rw [hcc] at S0
  have HS := hidden S0
  have hzl := hr.1
  have hlim := hr.2.2.1
  have HR := hidden hr
  have HBY := hidden hr.2.1
  clear S0 hcc hr
  have hfl : flg 16 f = 0 := by simp [flg]
  rw [hfl]
  go_enter Tryz.func90, Tryz.ntmps90
  go_upto_region 1 with fail
  generalize hW : World.alloc (World.alloc w (.cells (cc (kf 16 f)) 59)) _ = W at *
  clear hW
  have q0 : W.cell? ⟨w.heap.size, 0, none⟩ = some (.int .u8 16) := HS.out.1.c0
  have q1 : W.cell? ⟨w.heap.size, 1, none⟩ = some (.int .u8 f) := HS.out.1.c1
  have z1 := HS.out.1.fr 1
  have s1 : Ds w (W.setCell ⟨w.heap.size, 1, none⟩ (.int .u8 0)) (kf 16 0) := HS.out.store (HS.out.1.s1 0) (kf_lsts _ _ _ _)
  have l1 := s1.1.ld
  have HS1 := hidden s1
  clear s1
  go_wp2_with fail
  clear q0 q1 z1 l1
  generalize World.setCell _ ⟨w.heap.size, 1, none⟩ (.int .u8 0) = W1 at *
  refine Calls.mono (rLists16 base W1 a len cap v (kf 16 0) (HR.out.later HS1.out.2.2.1) rfl (kf_lsts _ _) ⟨rfl, rfl, rfl, rfl⟩) ?_
  rintro e w2 ⟨c', er, y, rfl, hF, hok, b2⟩
  obtain ⟨t1, t2, t3, t4⟩ := HS1.out.sub b2 c'
  have T2 := hidden t2
  have T3 := hidden t3
  have T4 := hidden t4
  have HF := hidden hF
  have HOK := hidden hok
  clear t2 t3 t4 hF hok b2
  go_wp2
  exact bodyPost_ret (v := .tuple #[cv c', .int .i64 er]) (cell_res2 Tryz.results90 T2.out _ rfl rfl) rfl (RdR.of HF.out HOK.out T4.out T3.out)
set_option maxRecDepth 20000 in
set_option maxHeartbeats 1000000 in
theorem read4 (base : Nat) (w : World) (a : Option Addr) (len cap : Nat) (v : List Int) (f : Int) (hf : 0 ≤ f ∧ f < 256) (hr : Row base w a len v) (hlc : len ≤ cap) (hnn : a = none → len = 0 ∧ cap = 0) :
    Calls Tryz.prog 90 #[cv (kf 4 f), .slice a len cap] w fun e w' => RdR w v 4 (zch 4 (flg 4 f)) e w' := by
  have S0 := Ds.start w (kf 4 f) (kf_lsts 4 f)
  have hcc : (cc (zck 0)) = #[.int .u8 0, .int .u8 0, .int .u32 0, .int .u16 0, .int .u16 0, .int .u32 0, .int .u32 0, .int .u32 0, .int .u16 0, .int .u16 0, .slice none 0 0, .slice none 0 0, .slice none 0 0, .slice none 0 0, .slice none 0 0] := rfl
  rw [hcc] at S0
  have HS := hidden S0
  have hzl := hr.1
  have hlim := hr.2.2.1
  have HR := hidden hr
  have HBY := hidden hr.2.1
  clear S0 hcc hr
  have hfl : flg 4 f = 0 := by simp [flg]
  rw [hfl]
  have hFil : ∀ l q cd er y, Par.Out v l q cd → ((cd ≠ 0 ∧ er = cd) ∨ (cd = 0 ∧ ¬ OneBeat l ∧ er = 61) ∨ (cd = 0 ∧ OneBeat l ∧ er = 0 ∧ y = { zch 4 (0) with ps := l })) → Fil 4 v (zch 4 (0)) er y := by
    intro l q cd er y hO h
    unfold Fil
    rw [if_neg (by simp [nb]), if_neg (by decide), if_neg (by decide), if_neg (by decide), if_neg (by decide), if_pos (by decide)]
    exact ⟨l, q, cd, hO, h⟩
  have HFil := hidden hFil
  have hrm : f.tmod 2 = f % 2 := tmod_n f 2 hf.1
  have hw : ∀ z : Int, IntKind.u8.wrap z = z % 256 := fun _ => rfl
  have hw2 : f % 2 % 256 = f % 2 := by omega
  clear hFil
  go_enter Tryz.func90, Tryz.ntmps90
  go_upto_region 1 with fail
  generalize hW : World.alloc (World.alloc w (.cells (cc (kf 4 f)) 59)) _ = W at *
  clear hW
  have q0 : W.cell? ⟨w.heap.size, 0, none⟩ = some (.int .u8 4) := HS.out.1.c0
  have q1 : W.cell? ⟨w.heap.size, 1, none⟩ = some (.int .u8 f) := HS.out.1.c1
  have z1 := HS.out.1.fr 1
  have s1 : Ds w (W.setCell ⟨w.heap.size, 1, none⟩ (.int .u8 (0))) (kf 4 (0)) := HS.out.store (HS.out.1.s1 (0)) (kf_lsts _ _ _ _)
  have l1 := s1.1.ld
  have HS1 := hidden s1
  clear s1
  go_wp2_with fail
  clear q0 q1 z1 l1
  generalize World.setCell _ ⟨w.heap.size, 1, none⟩ (.int .u8 (0)) = W1 at *
  refine Calls.mono (rParams base W1 a len cap v (kf 4 (0)) (HR.out.later HS1.out.2.2.1) hlc hnn (kf_lsts _ _)) ?_
  rintro e w2 ⟨c', er, rfl, b2, l, q, cd, hO, h⟩
  obtain ⟨t1, t2, t3, t4⟩ := HS1.out.sub b2 c'
  have T2 := hidden t2
  have T3 := hidden t3
  have T4 := hidden t4
  have HO := hidden hO
  have HH := hidden h
  clear t2 t3 t4 hO h b2
  go_wp2
  refine bodyPost_ret (v := .tuple #[cv c', .int .i64 er]) (cell_res2 Tryz.results90 T2.out _ rfl rfl) rfl ?_
  rcases HH.out with ⟨h1, rfl⟩ | ⟨h1, h2, h3, rfl⟩ | ⟨h1, h2, rfl, h4, h5⟩
  · exact RdR.of (W1 := W1) (w2 := w2) (y := val c') (HFil.out l q _ _ _ HO.out (.inl ⟨h1, rfl⟩)) (fun e => absurd e h1) T4.out T3.out
  · exact RdR.of (W1 := W1) (w2 := w2) (y := val c') (HFil.out l q _ _ _ HO.out (.inr (.inl ⟨h1, h3, rfl⟩))) (fun e => by cases e) T4.out T3.out
  · exact RdR.of (W1 := W1) (w2 := w2) (HFil.out l q _ _ _ HO.out (.inr (.inr ⟨h1, h2 rfl, rfl, rfl⟩))) (fun _ => ⟨h4, h5⟩) T4.out T3.out
set_option maxRecDepth 20000 in
set_option maxHeartbeats 1000000 in
theorem read5 (base : Nat) (w : World) (a : Option Addr) (len cap : Nat) (v : List Int) (f : Int) (hf : 0 ≤ f ∧ f < 256) (hr : Row base w a len v) (hlc : len ≤ cap) (hnn : a = none → len = 0 ∧ cap = 0) :
    Calls Tryz.prog 90 #[cv (kf 5 f), .slice a len cap] w fun e w' => RdR w v 5 (zch 5 (flg 5 f)) e w' := by
  have S0 := Ds.start w (kf 5 f) (kf_lsts 5 f)
  have hcc : (cc (zck 0)) = #[.int .u8 0, .int .u8 0, .int .u32 0, .int .u16 0, .int .u16 0, .int .u32 0, .int .u32 0, .int .u32 0, .int .u16 0, .int .u16 0, .slice none 0 0, .slice none 0 0, .slice none 0 0, .slice none 0 0, .slice none 0 0] := rfl
  rw [hcc] at S0
  have HS := hidden S0
  have hzl := hr.1
  have hlim := hr.2.2.1
  have HR := hidden hr
  have HBY := hidden hr.2.1
  clear S0 hcc hr
  have hfl : flg 5 f = 0 := by simp [flg]
  rw [hfl]
  have hFil : ∀ l q cd er y, Par.Out v l q cd → ((cd ≠ 0 ∧ er = cd) ∨ (cd = 0 ∧ ¬ OneBeat l ∧ er = 61) ∨ (cd = 0 ∧ OneBeat l ∧ er = 0 ∧ y = { zch 5 (0) with ps := l })) → Fil 5 v (zch 5 (0)) er y := by
    intro l q cd er y hO h
    unfold Fil
    rw [if_neg (by simp [nb]), if_neg (by decide), if_neg (by decide), if_neg (by decide), if_neg (by decide), if_pos (by decide)]
    exact ⟨l, q, cd, hO, h⟩
  have HFil := hidden hFil
  have hrm : f.tmod 2 = f % 2 := tmod_n f 2 hf.1
  have hw : ∀ z : Int, IntKind.u8.wrap z = z % 256 := fun _ => rfl
  have hw2 : f % 2 % 256 = f % 2 := by omega
  clear hFil
  go_enter Tryz.func90, Tryz.ntmps90
  go_upto_region 1 with fail
  generalize hW : World.alloc (World.alloc w (.cells (cc (kf 5 f)) 59)) _ = W at *
  clear hW
  have q0 : W.cell? ⟨w.heap.size, 0, none⟩ = some (.int .u8 5) := HS.out.1.c0
  have q1 : W.cell? ⟨w.heap.size, 1, none⟩ = some (.int .u8 f) := HS.out.1.c1
  have z1 := HS.out.1.fr 1
  have s1 : Ds w (W.setCell ⟨w.heap.size, 1, none⟩ (.int .u8 (0))) (kf 5 (0)) := HS.out.store (HS.out.1.s1 (0)) (kf_lsts _ _ _ _)
  have l1 := s1.1.ld
  have HS1 := hidden s1
  clear s1
  go_wp2_with fail
  clear q0 q1 z1 l1
  generalize World.setCell _ ⟨w.heap.size, 1, none⟩ (.int .u8 (0)) = W1 at *
  refine Calls.mono (rParams base W1 a len cap v (kf 5 (0)) (HR.out.later HS1.out.2.2.1) hlc hnn (kf_lsts _ _)) ?_
  rintro e w2 ⟨c', er, rfl, b2, l, q, cd, hO, h⟩
  obtain ⟨t1, t2, t3, t4⟩ := HS1.out.sub b2 c'
  have T2 := hidden t2
  have T3 := hidden t3
  have T4 := hidden t4
  have HO := hidden hO
  have HH := hidden h
  clear t2 t3 t4 hO h b2
  go_wp2
  refine bodyPost_ret (v := .tuple #[cv c', .int .i64 er]) (cell_res2 Tryz.results90 T2.out _ rfl rfl) rfl ?_
  rcases HH.out with ⟨h1, rfl⟩ | ⟨h1, h2, h3, rfl⟩ | ⟨h1, h2, rfl, h4, h5⟩
  · exact RdR.of (W1 := W1) (w2 := w2) (y := val c') (HFil.out l q _ _ _ HO.out (.inl ⟨h1, rfl⟩)) (fun e => absurd e h1) T4.out T3.out
  · exact RdR.of (W1 := W1) (w2 := w2) (y := val c') (HFil.out l q _ _ _ HO.out (.inr (.inl ⟨h1, h3, rfl⟩))) (fun e => by cases e) T4.out T3.out
  · exact RdR.of (W1 := W1) (w2 := w2) (HFil.out l q _ _ _ HO.out (.inr (.inr ⟨h1, h2 rfl, rfl, rfl⟩))) (fun _ => ⟨h4, h5⟩) T4.out T3.out
set_option maxRecDepth 20000 in
set_option maxHeartbeats 1000000 in
theorem read6 (base : Nat) (w : World) (a : Option Addr) (len cap : Nat) (v : List Int) (f : Int) (hf : 0 ≤ f ∧ f < 256) (hr : Row base w a len v) (hlc : len ≤ cap) (hnn : a = none → len = 0 ∧ cap = 0) :
    Calls Tryz.prog 90 #[cv (kf 6 f), .slice a len cap] w fun e w' => RdR w v 6 (zch 6 (flg 6 f)) e w' := by
  have S0 := Ds.start w (kf 6 f) (kf_lsts 6 f)
  have hcc : (cc (zck 0)) = #[.int .u8 0, .int .u8 0, .int .u32 0, .int .u16 0, .int .u16 0, .int .u32 0, .int .u32 0, .int .u32 0, .int .u16 0, .int .u16 0, .slice none 0 0, .slice none 0 0, .slice none 0 0, .slice none 0 0, .slice none 0 0] := rfl
  rw [hcc] at S0
  have HS := hidden S0
  have hzl := hr.1
  have hlim := hr.2.2.1
  have HR := hidden hr
  have HBY := hidden hr.2.1
  clear S0 hcc hr
  have hfl : flg 6 f = f % 2 := by simp [flg]
  rw [hfl]
  have hFil : ∀ l q cd er y, Par.Out v l q cd → ((cd ≠ 0 ∧ er = cd) ∨ (cd = 0 ∧ er = 0 ∧ y = { zch 6 (f % 2) with ps := l })) → Fil 6 v (zch 6 (f % 2)) er y := by
    intro l q cd er y hO h
    unfold Fil
    rw [if_neg (by simp [nb]), if_neg (by decide), if_neg (by decide), if_neg (by decide), if_neg (by decide), if_neg (by decide), if_pos (by decide)]
    exact ⟨l, q, cd, hO, h⟩
  have HFil := hidden hFil
  have hrm : f.tmod 2 = f % 2 := tmod_n f 2 hf.1
  have hw : ∀ z : Int, IntKind.u8.wrap z = z % 256 := fun _ => rfl
  have hw2 : f % 2 % 256 = f % 2 := by omega
  clear hFil
  go_enter Tryz.func90, Tryz.ntmps90
  go_upto_region 1 with fail
  generalize hW : World.alloc (World.alloc w (.cells (cc (kf 6 f)) 59)) _ = W at *
  clear hW
  have q0 : W.cell? ⟨w.heap.size, 0, none⟩ = some (.int .u8 6) := HS.out.1.c0
  have q1 : W.cell? ⟨w.heap.size, 1, none⟩ = some (.int .u8 f) := HS.out.1.c1
  have z1 := HS.out.1.fr 1
  have s1 : Ds w (W.setCell ⟨w.heap.size, 1, none⟩ (.int .u8 (f % 2))) (kf 6 (f % 2)) := HS.out.store (HS.out.1.s1 (f % 2)) (kf_lsts _ _ _ _)
  have l1 := s1.1.ld
  have HS1 := hidden s1
  clear s1
  go_wp2_with fail
  clear q0 q1 z1 l1
  generalize World.setCell _ ⟨w.heap.size, 1, none⟩ (.int .u8 (f % 2)) = W1 at *
  refine Calls.mono (rParams base W1 a len cap v (kf 6 (f % 2)) (HR.out.later HS1.out.2.2.1) hlc hnn (kf_lsts _ _)) ?_
  rintro e w2 ⟨c', er, rfl, b2, l, q, cd, hO, h⟩
  obtain ⟨t1, t2, t3, t4⟩ := HS1.out.sub b2 c'
  have T2 := hidden t2
  have T3 := hidden t3
  have T4 := hidden t4
  have HO := hidden hO
  have HH := hidden h
  clear t2 t3 t4 hO h b2
  go_wp2
  refine bodyPost_ret (v := .tuple #[cv c', .int .i64 er]) (cell_res2 Tryz.results90 T2.out _ rfl rfl) rfl ?_
  rcases HH.out with ⟨h1, rfl⟩ | ⟨h1, h2, h3, rfl⟩ | ⟨h1, h2, rfl, h4, h5⟩
  · exact RdR.of (W1 := W1) (w2 := w2) (y := val c') (HFil.out l q _ _ _ HO.out (.inl ⟨h1, rfl⟩)) (fun e => absurd e h1) T4.out T3.out
  · exact absurd h2 (by simp [beat, kf, zck])
  · exact RdR.of (W1 := W1) (w2 := w2) (HFil.out l q _ _ _ HO.out (.inr ⟨h1, rfl, rfl⟩)) (fun _ => ⟨h4, h5⟩) T4.out T3.out
set_option maxRecDepth 20000 in
set_option maxHeartbeats 1000000 in
theorem read9 (base : Nat) (w : World) (a : Option Addr) (len cap : Nat) (v : List Int) (f : Int) (hf : 0 ≤ f ∧ f < 256) (hr : Row base w a len v) (hlc : len ≤ cap) (hnn : a = none → len = 0 ∧ cap = 0) :
    Calls Tryz.prog 90 #[cv (kf 9 f), .slice a len cap] w fun e w' => RdR w v 9 (zch 9 (flg 9 f)) e w' := by
  have S0 := Ds.start w (kf 9 f) (kf_lsts 9 f)
  have hcc : (cc (zck 0)) = #[.int .u8 0, .int .u8 0, .int .u32 0, .int .u16 0, .int .u16 0, .int .u32 0, .int .u32 0, .int .u32 0, .int .u16 0, .int .u16 0, .slice none 0 0, .slice none 0 0, .slice none 0 0, .slice none 0 0, .slice none 0 0] := rfl
  rw [hcc] at S0
  have HS := hidden S0
  have hzl := hr.1
  have hlim := hr.2.2.1
  have HR := hidden hr
  have HBY := hidden hr.2.1
  clear S0 hcc hr
  have hfl : flg 9 f = 0 := by simp [flg]
  rw [hfl]
  have hFil : ∀ l q cd er y, Par.Out v l q cd → ((cd ≠ 0 ∧ er = cd) ∨ (cd = 0 ∧ er = 0 ∧ y = { zch 9 (0) with ps := l })) → Fil 9 v (zch 9 (0)) er y := by
    intro l q cd er y hO h
    unfold Fil
    rw [if_neg (by simp [nb]), if_neg (by decide), if_neg (by decide), if_neg (by decide), if_neg (by decide), if_neg (by decide), if_pos (by decide)]
    exact ⟨l, q, cd, hO, h⟩
  have HFil := hidden hFil
  have hrm : f.tmod 2 = f % 2 := tmod_n f 2 hf.1
  have hw : ∀ z : Int, IntKind.u8.wrap z = z % 256 := fun _ => rfl
  have hw2 : f % 2 % 256 = f % 2 := by omega
  clear hFil
  go_enter Tryz.func90, Tryz.ntmps90
  go_upto_region 1 with fail
  generalize hW : World.alloc (World.alloc w (.cells (cc (kf 9 f)) 59)) _ = W at *
  clear hW
  have q0 : W.cell? ⟨w.heap.size, 0, none⟩ = some (.int .u8 9) := HS.out.1.c0
  have q1 : W.cell? ⟨w.heap.size, 1, none⟩ = some (.int .u8 f) := HS.out.1.c1
  have z1 := HS.out.1.fr 1
  have s1 : Ds w (W.setCell ⟨w.heap.size, 1, none⟩ (.int .u8 (0))) (kf 9 (0)) := HS.out.store (HS.out.1.s1 (0)) (kf_lsts _ _ _ _)
  have l1 := s1.1.ld
  have HS1 := hidden s1
  clear s1
  go_wp2_with fail
  clear q0 q1 z1 l1
  generalize World.setCell _ ⟨w.heap.size, 1, none⟩ (.int .u8 (0)) = W1 at *
  refine Calls.mono (rParams base W1 a len cap v (kf 9 (0)) (HR.out.later HS1.out.2.2.1) hlc hnn (kf_lsts _ _)) ?_
  rintro e w2 ⟨c', er, rfl, b2, l, q, cd, hO, h⟩
  obtain ⟨t1, t2, t3, t4⟩ := HS1.out.sub b2 c'
  have T2 := hidden t2
  have T3 := hidden t3
  have T4 := hidden t4
  have HO := hidden hO
  have HH := hidden h
  clear t2 t3 t4 hO h b2
  go_wp2
  refine bodyPost_ret (v := .tuple #[cv c', .int .i64 er]) (cell_res2 Tryz.results90 T2.out _ rfl rfl) rfl ?_
  rcases HH.out with ⟨h1, rfl⟩ | ⟨h1, h2, h3, rfl⟩ | ⟨h1, h2, rfl, h4, h5⟩
  · exact RdR.of (W1 := W1) (w2 := w2) (y := val c') (HFil.out l q _ _ _ HO.out (.inl ⟨h1, rfl⟩)) (fun e => absurd e h1) T4.out T3.out
  · exact absurd h2 (by simp [beat, kf, zck])
  · exact RdR.of (W1 := W1) (w2 := w2) (HFil.out l q _ _ _ HO.out (.inr ⟨h1, rfl, rfl⟩)) (fun _ => ⟨h4, h5⟩) T4.out T3.out
set_option maxRecDepth 20000 in
set_option maxHeartbeats 1000000 in
theorem read7 (base : Nat) (w : World) (a : Option Addr) (len cap : Nat) (v : List Int) (f : Int) (hf : 0 ≤ f ∧ f < 256) (hr : Row base w a len v) (hlc : len ≤ cap) (hnn : a = none → len = 0 ∧ cap = 0) :
    Calls Tryz.prog 90 #[cv (kf 7 f), .slice a len cap] w fun e w' => RdR w v 7 (zch 7 (flg 7 f)) e w' := by
  have S0 := Ds.start w (kf 7 f) (kf_lsts 7 f)
  have hcc : (cc (zck 0)) = #[.int .u8 0, .int .u8 0, .int .u32 0, .int .u16 0, .int .u16 0, .int .u32 0, .int .u32 0, .int .u32 0, .int .u16 0, .int .u16 0, .slice none 0 0, .slice none 0 0, .slice none 0 0, .slice none 0 0, .slice none 0 0] := rfl
  rw [hcc] at S0
  have HS := hidden S0
  have hzl := hr.1
  have hlim := hr.2.2.1
  have HR := hidden hr
  have HBY := hidden hr.2.1
  clear S0 hcc hr
  have hfl : flg 7 f = 0 := by simp [flg]
  rw [hfl]
  go_enter Tryz.func90, Tryz.ntmps90
  go_upto_region 1 with fail
  generalize hW : World.alloc (World.alloc w (.cells (cc (kf 7 f)) 59)) _ = W at *
  clear hW
  have q0 : W.cell? ⟨w.heap.size, 0, none⟩ = some (.int .u8 7) := HS.out.1.c0
  have q1 : W.cell? ⟨w.heap.size, 1, none⟩ = some (.int .u8 f) := HS.out.1.c1
  have z1 := HS.out.1.fr 1
  by_cases h4 : len = 4
  case neg =>
    have e4 : ((len : Int) != 4) = true := bne_t (by omega)
    obtain ⟨f1, f2, f3, f4, f5⟩ := HS.out.fin
    have F3 := hidden f3
    have F4 := hidden f4
    clear f3 f4 f5
    go_wp2
    exact bodyPost_ret (v := .tuple #[cv (kf 7 f), .int .i64 61]) (cell_res2 Tryz.results90 F3.out _ rfl rfl) rfl (rd_bad (fun y => fil7_bad (by omega) y) (by decide) F4.out)
  subst h4
  have s1 : Ds w _ (kf 7 0) := HS.out.store (HS.out.1.s1 0) (kf_lsts _ _ _ _)
  have q2 := HS.out.1.c2
  have z2 := HS.out.1.fr 2
  have s2 : Ds w _ { kf 7 0 with tsn := n4 v 0 } := s1.store (s1.1.s2 (n4 v 0)) s1.2.2.2.2
  obtain ⟨f1, f2, f3, f4, f5⟩ := s2.fin
  have F3 := hidden f3
  have F4 := hidden f4
  have F5 := hidden f5
  clear s1 s2 f3 f4 f5
  go_wp2_with fail
  refine Calls.mono (rGet4 base _ a 4 cap 0 v (HR.out.later HS.out.2.2.1) (by omega)) ?_
  rintro e wz ⟨rfl, rfl⟩
  go_wp2
  exact bodyPost_ret (v := .tuple #[cv { kf 7 0 with tsn := n4 v 0 }, .int .i64 0]) (cell_res2 Tryz.results90 F3.out _ rfl rfl) rfl (rd_ok (fil7_ok (by omega)) F5.out F4.out)
set_option maxRecDepth 20000 in
set_option maxHeartbeats 1000000 in
theorem read8 (base : Nat) (w : World) (a : Option Addr) (len cap : Nat) (v : List Int) (f : Int) (hf : 0 ≤ f ∧ f < 256) (hr : Row base w a len v) (hlc : len ≤ cap) (hnn : a = none → len = 0 ∧ cap = 0) :
    Calls Tryz.prog 90 #[cv (kf 8 f), .slice a len cap] w fun e w' => RdR w v 8 (zch 8 (flg 8 f)) e w' := by
  have S0 := Ds.start w (kf 8 f) (kf_lsts 8 f)
  have hcc : (cc (zck 0)) = #[.int .u8 0, .int .u8 0, .int .u32 0, .int .u16 0, .int .u16 0, .int .u32 0, .int .u32 0, .int .u32 0, .int .u16 0, .int .u16 0, .slice none 0 0, .slice none 0 0, .slice none 0 0, .slice none 0 0, .slice none 0 0] := rfl
  rw [hcc] at S0
  have HS := hidden S0
  have hzl := hr.1
  have hlim := hr.2.2.1
  have HR := hidden hr
  have HBY := hidden hr.2.1
  clear S0 hcc hr
  go_enter Tryz.func90, Tryz.ntmps90
  go_upto_region 1 with fail
  generalize hW : World.alloc (World.alloc w (.cells (cc (kf 8 f)) 59)) _ = W at *
  clear hW
  have q0 : W.cell? ⟨w.heap.size, 0, none⟩ = some (.int .u8 8) := HS.out.1.c0
  have q1 : W.cell? ⟨w.heap.size, 1, none⟩ = some (.int .u8 f) := HS.out.1.c1
  have z1 := HS.out.1.fr 1
  by_cases h0 : len = 0
  case neg =>
    have e0 : ((len : Int) != 0) = true := bne_t (by omega)
    obtain ⟨f1, f2, f3, f4, f5⟩ := HS.out.fin
    have F3 := hidden f3
    have F4 := hidden f4
    clear f3 f4 f5
    go_wp2
    exact bodyPost_ret (v := .tuple #[cv (kf 8 f), .int .i64 61]) (cell_res2 Tryz.results90 F3.out _ rfl rfl) rfl (rd_bad (fun y => by unfold Fil; rw [if_neg (by simp [nb]), if_neg (by decide), if_neg (by decide), if_pos (by decide)]; exact .inl ⟨by omega, rfl⟩) (by decide) F4.out)
  have e0 : ((len : Int) != 0) = false := bne_f (by omega)
  have l0 := HS.out.1.ld
  go_wp2_with fail
  clear q0 q1 z1 l0
  refine Calls.mono (rBareF (kf 8 f) W (by simp [kf, zck]) hf) ?_
  rintro e w2 ⟨d, rfl, hd, b2⟩
  have hd' : d.flags = flg 8 f := hd
  have hfd : ∀ x, (Instr.field 59 (cv d) 1).run Tryz.prog x = .ok (.int .u8 (flg 8 f)) x := fun x => by rw [← hd']; rfl
  have s2 := HS.out.later b2
  have q1 := s2.1.c1
  have z1 := s2.1.fr 1
  have s3 : Ds w _ (kf 8 (flg 8 f)) := s2.store (s2.1.s1 (flg 8 f)) (kf_lsts _ _ _ _)
  obtain ⟨f1, f2, f3, f4, f5⟩ := s3.fin
  have F3 := hidden f3
  have F4 := hidden f4
  have F5 := hidden f5
  clear s2 s3 f3 f4 f5 b2 hd hd'
  generalize hff : flg 8 f = ff at *
  have HFF := hidden hff
  clear hff
  go_wp2
  exact bodyPost_ret (v := .tuple #[cv (kf 8 ff), .int .i64 0]) (cell_res2 Tryz.results90 F3.out _ rfl rfl) rfl (rd_ok (by unfold Fil; rw [if_neg (by simp [nb]), if_neg (by decide), if_neg (by decide), if_pos (by decide)]; exact .inr ⟨by omega, rfl, by rw [HFF.out]; rfl⟩) F5.out F4.out)
set_option maxRecDepth 20000 in
set_option maxHeartbeats 1000000 in
theorem read11 (base : Nat) (w : World) (a : Option Addr) (len cap : Nat) (v : List Int) (f : Int) (hf : 0 ≤ f ∧ f < 256) (hr : Row base w a len v) (hlc : len ≤ cap) (hnn : a = none → len = 0 ∧ cap = 0) :
    Calls Tryz.prog 90 #[cv (kf 11 f), .slice a len cap] w fun e w' => RdR w v 11 (zch 11 (flg 11 f)) e w' := by
  have S0 := Ds.start w (kf 11 f) (kf_lsts 11 f)
  have hcc : (cc (zck 0)) = #[.int .u8 0, .int .u8 0, .int .u32 0, .int .u16 0, .int .u16 0, .int .u32 0, .int .u32 0, .int .u32 0, .int .u16 0, .int .u16 0, .slice none 0 0, .slice none 0 0, .slice none 0 0, .slice none 0 0, .slice none 0 0] := rfl
  rw [hcc] at S0
  have HS := hidden S0
  have hzl := hr.1
  have hlim := hr.2.2.1
  have HR := hidden hr
  have HBY := hidden hr.2.1
  clear S0 hcc hr
  go_enter Tryz.func90, Tryz.ntmps90
  go_upto_region 1 with fail
  generalize hW : World.alloc (World.alloc w (.cells (cc (kf 11 f)) 59)) _ = W at *
  clear hW
  have q0 : W.cell? ⟨w.heap.size, 0, none⟩ = some (.int .u8 11) := HS.out.1.c0
  have q1 : W.cell? ⟨w.heap.size, 1, none⟩ = some (.int .u8 f) := HS.out.1.c1
  have z1 := HS.out.1.fr 1
  by_cases h0 : len = 0
  case neg =>
    have e0 : ((len : Int) != 0) = true := bne_t (by omega)
    obtain ⟨f1, f2, f3, f4, f5⟩ := HS.out.fin
    have F3 := hidden f3
    have F4 := hidden f4
    clear f3 f4 f5
    go_wp2
    exact bodyPost_ret (v := .tuple #[cv (kf 11 f), .int .i64 61]) (cell_res2 Tryz.results90 F3.out _ rfl rfl) rfl (rd_bad (fun y => by unfold Fil; rw [if_neg (by simp [nb]), if_neg (by decide), if_neg (by decide), if_pos (by decide)]; exact .inl ⟨by omega, rfl⟩) (by decide) F4.out)
  have e0 : ((len : Int) != 0) = false := bne_f (by omega)
  have l0 := HS.out.1.ld
  go_wp2_with fail
  clear q0 q1 z1 l0
  refine Calls.mono (rBareF (kf 11 f) W (by simp [kf, zck]) hf) ?_
  rintro e w2 ⟨d, rfl, hd, b2⟩
  have hd' : d.flags = flg 11 f := hd
  have hfd : ∀ x, (Instr.field 59 (cv d) 1).run Tryz.prog x = .ok (.int .u8 (flg 11 f)) x := fun x => by rw [← hd']; rfl
  have s2 := HS.out.later b2
  have q1 := s2.1.c1
  have z1 := s2.1.fr 1
  have s3 : Ds w _ (kf 11 (flg 11 f)) := s2.store (s2.1.s1 (flg 11 f)) (kf_lsts _ _ _ _)
  obtain ⟨f1, f2, f3, f4, f5⟩ := s3.fin
  have F3 := hidden f3
  have F4 := hidden f4
  have F5 := hidden f5
  clear s2 s3 f3 f4 f5 b2 hd hd'
  generalize hff : flg 11 f = ff at *
  have HFF := hidden hff
  clear hff
  go_wp2
  exact bodyPost_ret (v := .tuple #[cv (kf 11 ff), .int .i64 0]) (cell_res2 Tryz.results90 F3.out _ rfl rfl) rfl (rd_ok (by unfold Fil; rw [if_neg (by simp [nb]), if_neg (by decide), if_neg (by decide), if_pos (by decide)]; exact .inr ⟨by omega, rfl, by rw [HFF.out]; rfl⟩) F5.out F4.out)
set_option maxRecDepth 20000 in
set_option maxHeartbeats 1000000 in
theorem read14 (base : Nat) (w : World) (a : Option Addr) (len cap : Nat) (v : List Int) (f : Int) (hf : 0 ≤ f ∧ f < 256) (hr : Row base w a len v) (hlc : len ≤ cap) (hnn : a = none → len = 0 ∧ cap = 0) :
    Calls Tryz.prog 90 #[cv (kf 14 f), .slice a len cap] w fun e w' => RdR w v 14 (zch 14 (flg 14 f)) e w' := by
  have S0 := Ds.start w (kf 14 f) (kf_lsts 14 f)
  have hcc : (cc (zck 0)) = #[.int .u8 0, .int .u8 0, .int .u32 0, .int .u16 0, .int .u16 0, .int .u32 0, .int .u32 0, .int .u32 0, .int .u16 0, .int .u16 0, .slice none 0 0, .slice none 0 0, .slice none 0 0, .slice none 0 0, .slice none 0 0] := rfl
  rw [hcc] at S0
  have HS := hidden S0
  have hzl := hr.1
  have hlim := hr.2.2.1
  have HR := hidden hr
  have HBY := hidden hr.2.1
  clear S0 hcc hr
  go_enter Tryz.func90, Tryz.ntmps90
  go_upto_region 1 with fail
  generalize hW : World.alloc (World.alloc w (.cells (cc (kf 14 f)) 59)) _ = W at *
  clear hW
  have q0 : W.cell? ⟨w.heap.size, 0, none⟩ = some (.int .u8 14) := HS.out.1.c0
  have q1 : W.cell? ⟨w.heap.size, 1, none⟩ = some (.int .u8 f) := HS.out.1.c1
  have z1 := HS.out.1.fr 1
  by_cases h0 : len = 0
  case neg =>
    have e0 : ((len : Int) != 0) = true := bne_t (by omega)
    obtain ⟨f1, f2, f3, f4, f5⟩ := HS.out.fin
    have F3 := hidden f3
    have F4 := hidden f4
    clear f3 f4 f5
    go_wp2
    exact bodyPost_ret (v := .tuple #[cv (kf 14 f), .int .i64 61]) (cell_res2 Tryz.results90 F3.out _ rfl rfl) rfl (rd_bad (fun y => by unfold Fil; rw [if_neg (by simp [nb]), if_neg (by decide), if_neg (by decide), if_pos (by decide)]; exact .inl ⟨by omega, rfl⟩) (by decide) F4.out)
  have e0 : ((len : Int) != 0) = false := bne_f (by omega)
  have l0 := HS.out.1.ld
  go_wp2_with fail
  clear q0 q1 z1 l0
  refine Calls.mono (rBareF (kf 14 f) W (by simp [kf, zck]) hf) ?_
  rintro e w2 ⟨d, rfl, hd, b2⟩
  have hd' : d.flags = flg 14 f := hd
  have hfd : ∀ x, (Instr.field 59 (cv d) 1).run Tryz.prog x = .ok (.int .u8 (flg 14 f)) x := fun x => by rw [← hd']; rfl
  have s2 := HS.out.later b2
  have q1 := s2.1.c1
  have z1 := s2.1.fr 1
  have s3 : Ds w _ (kf 14 (flg 14 f)) := s2.store (s2.1.s1 (flg 14 f)) (kf_lsts _ _ _ _)
  obtain ⟨f1, f2, f3, f4, f5⟩ := s3.fin
  have F3 := hidden f3
  have F4 := hidden f4
  have F5 := hidden f5
  clear s2 s3 f3 f4 f5 b2 hd hd'
  generalize hff : flg 14 f = ff at *
  have HFF := hidden hff
  clear hff
  go_wp2
  exact bodyPost_ret (v := .tuple #[cv (kf 14 ff), .int .i64 0]) (cell_res2 Tryz.results90 F3.out _ rfl rfl) rfl (rd_ok (by unfold Fil; rw [if_neg (by simp [nb]), if_neg (by decide), if_neg (by decide), if_pos (by decide)]; exact .inr ⟨by omega, rfl, by rw [HFF.out]; rfl⟩) F5.out F4.out)
set_option maxRecDepth 20000 in
set_option maxHeartbeats 1000000 in
theorem read0 (base : Nat) (w : World) (a : Option Addr) (len cap : Nat) (v : List Int) (f : Int) (hf : 0 ≤ f ∧ f < 256) (hr : Row base w a len v) (hlc : len ≤ cap) (hnn : a = none → len = 0 ∧ cap = 0) :
    Calls Tryz.prog 90 #[cv (kf 0 f), .slice a len cap] w fun e w' => RdR w v 0 (zch 0 (flg 0 f)) e w' := by
  have S0 := Ds.start w (kf 0 f) (kf_lsts 0 f)
  have hcc : (cc (zck 0)) = #[.int .u8 0, .int .u8 0, .int .u32 0, .int .u16 0, .int .u16 0, .int .u32 0, .int .u32 0, .int .u32 0, .int .u16 0, .int .u16 0, .slice none 0 0, .slice none 0 0, .slice none 0 0, .slice none 0 0, .slice none 0 0] := rfl
  rw [hcc] at S0
  have HS := hidden S0
  have hzl := hr.1
  have hlim := hr.2.2.1
  have HR := hidden hr
  have HBY := hidden hr.2.1
  clear S0 hcc hr
  have hfl : flg 0 f = f % 8 := by simp [flg]
  rw [hfl]
  go_enter Tryz.func90, Tryz.ntmps90
  go_upto_region 1 with fail
  generalize hW : World.alloc (World.alloc w (.cells (cc (kf 0 f)) 59)) _ = W at *
  clear hW
  have q0 : W.cell? ⟨w.heap.size, 0, none⟩ = some (.int .u8 0) := HS.out.1.c0
  have q1 : W.cell? ⟨w.heap.size, 1, none⟩ = some (.int .u8 f) := HS.out.1.c1
  have z1 := HS.out.1.fr 1
  by_cases h12 : len = 12
  · subst h12
    obtain ⟨f1, f2, f3, f4, f5⟩ := HS.out.fin
    have F3 := hidden f3
    have F4 := hidden f4
    clear f3 f4 f5
    go_wp2
    exact bodyPost_ret (v := .tuple #[cv (kf 0 f), .int .i64 62]) (cell_res2 Tryz.results90 F3.out _ rfl rfl) rfl (rd_bad (fun y => by unfold Fil; rw [if_neg (show ¬ v.length < nb 0 from (show ¬ v.length < 12 by omega)), if_neg (by decide), if_neg (by decide), if_neg (by decide), if_neg (by decide), if_neg (by decide), if_neg (by decide), if_pos rfl]; exact .inl ⟨by omega, rfl⟩) (by decide) F4.out)
  have e12 : ((len : Int) == 12) = false := beq_f (by omega)
  rcases Nat.lt_or_ge len 12 with hlt | hge
  · have hlt' : (len : Int) < 12 := by omega
    obtain ⟨f1, f2, f3, f4, f5⟩ := HS.out.fin
    have F3 := hidden f3
    have F4 := hidden f4
    clear f3 f4 f5
    go_wp2
    exact bodyPost_ret (v := .tuple #[cv (kf 0 f), .int .i64 61]) (cell_res2 Tryz.results90 F3.out _ rfl rfl) rfl (rd_bad (fun y => by unfold Fil; rw [if_pos (show v.length < nb 0 from (show v.length < 12 by omega))]) (by decide) F4.out)
  have hge' : ¬ (len : Int) < 12 := by omega
  obtain ⟨b, off, rfl, _, _⟩ := HR.out.2.2.2.resolve_left (by omega)
  have hrm : f.tmod 8 = f % 8 := tmod_n f 8 hf.1
  have hw : ∀ z : Int, IntKind.u8.wrap z = z % 256 := fun _ => rfl
  have hw2 : f % 8 % 256 = f % 8 := by omega
  have s1 : Ds w (W.setCell ⟨w.heap.size, 1, none⟩ (.int .u8 (f % 8))) (kf 0 (f % 8)) := HS.out.store (HS.out.1.s1 (f % 8)) (kf_lsts _ _ _ _)
  have HS1 := hidden s1
  clear s1
  go_wp2_with fail
  clear q0 q1 z1 hw hw2 hrm
  generalize W.setCell ⟨w.heap.size, 1, none⟩ (.int .u8 (f % 8)) = W1 at *
  have hR1 := HR.out.later HS1.out.2.2.1
  have HR1 := hidden hR1
  have q2 := HS1.out.1.c2
  have z2 := HS1.out.1.fr 2
  have q3 := HS1.out.1.c3
  have z3 := HS1.out.1.fr 3
  have q4 := HS1.out.1.c4
  have z4 := HS1.out.1.fr 4
  have q5 := HS1.out.1.c5
  have z5 := HS1.out.1.fr 5
  have s2 := HS1.out.store (HS1.out.1.s2 (n4 v 0)) HS1.out.2.2.2.2
  have s3 := s2.store (s2.1.s3 (n2 v 4)) s2.2.2.2.2
  have s4 := s3.store (s3.1.s4 (n2 v 6)) s3.2.2.2.2
  have s5 := s4.store (s4.1.s5 (n4 v 8)) s4.2.2.2.2
  have HS5 := hidden s5
  have wb4 := n2_bound HBY.out 4
  have wb6 := n2_bound HBY.out 6
  have hw : ∀ z : Int, IntKind.u16.wrap z = z % 65536 := fun _ => rfl
  have hx4 : n2 v 4 % 65536 = n2 v 4 := by omega
  have hx6 : n2 v 6 % 65536 = n2 v 6 := by omega
  clear hR1 s2 s3 s4 s5
  refine Calls.mono (rGet4 base W1 _ len cap 0 v HR1.out (by omega)) ?_
  rintro e wz ⟨rfl, rfl⟩
  go_wp2_with fail
  refine Calls.mono (rGet2 base W1 _ len cap 4 v HR1.out (by omega)) ?_
  rintro e wz ⟨rfl, rfl⟩
  go_wp2_with fail
  refine Calls.mono (rGet2 base W1 _ len cap 6 v HR1.out (by omega)) ?_
  rintro e wz ⟨rfl, rfl⟩
  go_wp2_with fail
  refine Calls.mono (rGet4 base W1 _ len cap 8 v HR1.out (by omega)) ?_
  rintro e wz ⟨rfl, rfl⟩
  go_upto_region 9 with fail
  generalize World.setCell _ ⟨w.heap.size, 5, none⟩ (.int .u32 (n4 v 8)) = W5 at *
  clear q2 q3 q4 q5 z2 z3 z4 z5 hw hx4 hx6
  have HRD := hidden (show Row base W5 (some ⟨b, off + 12, none⟩) (len - 12) (v.drop 12) from (HR.out.later HS5.out.2.2.1).drop 12 (by omega))
  have i3 : ¬ cap = 12 := by omega
  have i4 : (12 : Int) ≤ (cap : Int) := by omega
  obtain ⟨i0, hi, hz0, hz1, hz2⟩ := info_parts Par.info5
  have hE := Par.own_empty W5 W5.heap.size (Nat.le_refl _)
  have hEB : Below W5.heap.size W5 (W5.alloc (.cells #[] 5)) := (Below.refl _ W5).alloc (Nat.le_refl _) _
  have HE := hidden hE
  have HEB := hidden hEB
  have HN := hidden (((HRD.out).later hEB).news)
  clear hE hEB
  go_wp2_with (at_builtin; refine wpList_append_own _ rfl _ _ 27 rfl W5.heap.size 5 i0 (.int .u8 0) 1 1 Tryz.underlying27 hi hz0 hz1 hz2 rfl (by decide) _ _ _ rfl HE.out ⟨b, off + 12, none⟩ (len - 12) (cap - 12) (Par.cs (v.drop 12)) rfl ?c0 HN.out (Par.cs_one _) ?c3 ?c4 (by simp) ?_)
  case c0 => rw [Par.cs_len, Nat.mul_one]; rw [List.length_drop]; omega
  case c3 => unfold maxLen; omega
  case c4 => omega
  intro v' w6 ho6 hg6 hv6
  have ho7 : w6.ownsRow W5.heap.size 5 1 v' ((len - 12)) (Par.cs (v.drop 12)) := by simpa using ho6
  obtain ⟨ba, bc, rfl, hrow, hbl, hbm, hbn⟩ := Par.row_own ho7 HRD.out.2.1 (by omega)
  have b6 : Below W5.heap.size W5 w6 := HEB.out.grown hg6 (by simp) (fun j hj => (HE.out.lt j hj).1)
  have s7 := HS5.out.later b6
  have q13 := s7.1.c13
  have z13 := s7.1.fr 13
  have s8 := s7.store (s7.1.s13 ba (len - 12) bc (v.drop 12)) (lsts_b s7.2.2.2.2 (hrow.mono HS5.out.2.2.2.1) hbn)
  obtain ⟨f1, f2, f3, f4, f5⟩ := s8.fin
  have F3 := hidden f3
  have F4 := hidden f4
  have F5 := hidden f5
  clear s7 s8 f3 f4 f5 ho6 ho7 hg6 hv6 hrow b6 HE HEB HN
  generalize hc8 : ({ { kf 0 (f % 8) with tsn := n4 v 0, stream := n2 v 4, ssn := n2 v 6, proto := n4 v 8 } with ba := ba, bl := len - 12, bc := bc, bs := (v.drop 12) } : Ck) = c8 at *
  have HF8 := hidden (show Fil 0 v (zch 0 (f % 8)) 0 (val c8) by
    rw [← hc8]
    unfold Fil; rw [if_neg (show ¬ v.length < nb 0 from (show ¬ v.length < 12 by omega)), if_neg (by decide), if_neg (by decide), if_neg (by decide), if_neg (by decide), if_neg (by decide), if_neg (by decide), if_pos rfl]; exact .inr ⟨by omega, rfl, rfl⟩)
  clear hc8
  go_wp2
  exact bodyPost_ret (v := .tuple #[cv c8, .int .i64 0]) (cell_res2 Tryz.results90 F3.out _ rfl rfl) rfl (rd_ok HF8.out F5.out F4.out)
end Go.Proofs.YtmnndkhdekpecaaGreatDoor.Chu
namespace Go.Proofs.YtmnndkhdekpecaaGreatDoor.Chu
open Go.ChangeShapes Go.WideShapes Go.ChangeAt Go.RowKit
open Par (hidden Bytes Row Prm Prms cell_lt Cap cells_new cutA thrown form_of)
set_option linter.unusedVariables false
attribute [local go_sem ↓] execOp_ld execOp_bx execOp_st
attribute [local go_sem] run_box

set_option maxRecDepth 20000 in
set_option maxHeartbeats 1000000 in
theorem read10 (base : Nat) (w : World) (a : Option Addr) (len cap : Nat) (v : List Int) (f : Int) (hf : 0 ≤ f ∧ f < 256) (hr : Row base w a len v) (hlc : len ≤ cap) (hnn : a = none → len = 0 ∧ cap = 0) :
    Calls Tryz.prog 90 #[cv (kf 10 f), .slice a len cap] w fun e w' => RdR w v 10 (zch 10 (flg 10 f)) e w' := by
  have S0 := Ds.start w (kf 10 f) (kf_lsts 10 f)
  have hcc : (cc (zck 0)) = #[.int .u8 0, .int .u8 0, .int .u32 0, .int .u16 0, .int .u16 0, .int .u32 0, .int .u32 0, .int .u32 0, .int .u16 0, .int .u16 0, .slice none 0 0, .slice none 0 0, .slice none 0 0, .slice none 0 0, .slice none 0 0] := rfl
  rw [hcc] at S0
  have HS := hidden S0
  have hzl := hr.1
  have hlim := hr.2.2.1
  have HR := hidden hr
  have HBY := hidden hr.2.1
  clear S0 hcc hr
  have hfl : flg 10 f = 0 := by simp [flg]
  rw [hfl]
  go_enter Tryz.func90, Tryz.ntmps90
  go_upto_region 1 with fail
  generalize hW : World.alloc (World.alloc w (.cells (cc (kf 10 f)) 59)) _ = W at *
  clear hW
  have q0 : W.cell? ⟨w.heap.size, 0, none⟩ = some (.int .u8 10) := HS.out.1.c0
  have q1 : W.cell? ⟨w.heap.size, 1, none⟩ = some (.int .u8 f) := HS.out.1.c1
  have z1 := HS.out.1.fr 1
  have s1 : Ds w (W.setCell ⟨w.heap.size, 1, none⟩ (.int .u8 0)) (kf 10 0) := HS.out.store (HS.out.1.s1 0) (kf_lsts _ _ _ _)
  have HS1 := hidden s1
  clear s1
  go_upto_region 44 with fail
  clear q0 q1 z1
  generalize World.setCell _ ⟨w.heap.size, 1, none⟩ (.int .u8 0) = W1 at *
  rcases a with _ | ad
  · obtain ⟨h0, h1⟩ := hnn rfl
    subst h0; subst h1
    obtain rfl := List.eq_nil_of_length_eq_zero hzl
    obtain ⟨i0, hi, hz0, hz1, hz2⟩ := info_parts Par.info5
    have hE := Par.own_empty W1 W1.heap.size (Nat.le_refl _)
    have hEB : Below W1.heap.size W1 (W1.alloc (.cells #[] 5)) := (Below.refl _ W1).alloc (Nat.le_refl _) _
    have HE := hidden hE
    have s7 := HS1.out.later hEB
    have q13 := s7.1.c13
    have z13 := s7.1.fr 13
    have s8 := s7.store (s7.1.s13 (some ⟨W1.heap.size, 0, none⟩) 0 0 []) (lsts_b s7.2.2.2.2 ⟨rfl, bs_nil, by decide, .inl rfl⟩ (fun h => by cases h))
    obtain ⟨f1, f2, f3, f4, f5⟩ := s8.fin
    have F3 := hidden f3
    have F4 := hidden f4
    have F5 := hidden f5
    clear s7 s8 f3 f4 f5 hE hEB
    go_wp2_with (at_builtin; refine wpList_append_own_none rfl _ _ 27 rfl W1.heap.size 5 i0 1 Tryz.underlying27 hi _ _ _ rfl HE.out rfl ?_)
    go_wp2
    exact bodyPost_ret (cell_res2 Tryz.results90 F3.out _ rfl rfl) rfl (rd_ok (by unfold Fil; rw [if_neg (by simp [nb]), if_neg (by decide), if_neg (by decide), if_neg (by decide), if_neg (by decide), if_neg (by decide), if_neg (by decide), if_neg (by decide)]; exact ⟨rfl, rfl⟩) F5.out F4.out)
  have HRD := hidden (HR.out.later HS1.out.2.2.1)
  obtain ⟨i0, hi, hz0, hz1, hz2⟩ := info_parts Par.info5
  have hE := Par.own_empty W1 W1.heap.size (Nat.le_refl _)
  have hEB : Below W1.heap.size W1 (W1.alloc (.cells #[] 5)) := (Below.refl _ W1).alloc (Nat.le_refl _) _
  have HE := hidden hE
  have HEB := hidden hEB
  have HN := hidden (((HRD.out).later hEB).news)
  clear hE hEB
  go_wp2_with (at_builtin; refine wpList_append_own _ rfl _ _ 27 rfl W1.heap.size 5 i0 (.int .u8 0) 1 1 Tryz.underlying27 hi hz0 hz1 hz2 rfl (by decide) _ _ _ rfl HE.out ad len cap (Par.cs v) rfl ?c0 HN.out (Par.cs_one _) ?c3 ?c4 (by simp) ?_)
  case c0 => rw [Par.cs_len, Nat.mul_one]; exact hzl
  case c3 => unfold maxLen; omega
  case c4 => omega
  intro v' w6 ho6 hg6 hv6
  have ho7 : w6.ownsRow W1.heap.size 5 1 v' (len) (Par.cs v) := by simpa using ho6
  obtain ⟨ba, bc, rfl, hrow, hbl, hbm, hbn⟩ := Par.row_own ho7 HRD.out.2.1 (by omega)
  have b6 : Below W1.heap.size W1 w6 := HEB.out.grown hg6 (by simp) (fun j hj => (HE.out.lt j hj).1)
  have s7 := HS1.out.later b6
  have q13 := s7.1.c13
  have z13 := s7.1.fr 13
  have s8 := s7.store (s7.1.s13 ba (len) bc v) (lsts_b s7.2.2.2.2 (hrow.mono HS1.out.2.2.2.1) hbn)
  obtain ⟨f1, f2, f3, f4, f5⟩ := s8.fin
  have F3 := hidden f3
  have F4 := hidden f4
  have F5 := hidden f5
  clear s7 s8 f3 f4 f5 ho6 ho7 hg6 hv6 hrow b6 HE HEB HN
  generalize hc8 : ({ kf 10 0 with ba := ba, bl := len, bc := bc, bs := v } : Ck) = c8 at *
  have HF8 := hidden (show Fil 10 v (zch 10 0) 0 (val c8) by
    rw [← hc8]
    unfold Fil; rw [if_neg (by simp [nb]), if_neg (by decide), if_neg (by decide), if_neg (by decide), if_neg (by decide), if_neg (by decide), if_neg (by decide), if_neg (by decide)]; exact ⟨rfl, rfl⟩)
  clear hc8
  go_wp2
  exact bodyPost_ret (v := .tuple #[cv c8, .int .i64 0]) (cell_res2 Tryz.results90 F3.out _ rfl rfl) rfl (rd_ok HF8.out F5.out F4.out)
set_option maxRecDepth 20000 in
set_option maxHeartbeats 1000000 in
theorem readO (base : Nat) (w : World) (a : Option Addr) (len cap : Nat) (v : List Int) (k : Int) (hk : Oth k) (f : Int) (hf : 0 ≤ f ∧ f < 256) (hr : Row base w a len v) (hlc : len ≤ cap) (hnn : a = none → len = 0 ∧ cap = 0) :
    Calls Tryz.prog 90 #[cv (kf k f), .slice a len cap] w fun e w' => RdR w v k (zch k (flg k f)) e w' := by
  have S0 := Ds.start w (kf k f) (kf_lsts k f)
  have hcc : (cc (zck 0)) = #[.int .u8 0, .int .u8 0, .int .u32 0, .int .u16 0, .int .u16 0, .int .u32 0, .int .u32 0, .int .u32 0, .int .u16 0, .int .u16 0, .slice none 0 0, .slice none 0 0, .slice none 0 0, .slice none 0 0, .slice none 0 0] := rfl
  rw [hcc] at S0
  have HS := hidden S0
  have hzl := hr.1
  have hlim := hr.2.2.1
  have HR := hidden hr
  have HBY := hidden hr.2.1
  clear S0 hcc hr
  obtain ⟨k0, k1, k2, k3, k4, k5, k6, k7, k8, k9, k10, k11, k14, k16⟩ := hk
  have hfl : flg k f = f := by simp [flg, k0, k1, k2, k3, k4, k5, k6, k7, k8, k9, k10, k11, k14, k16]
  rw [hfl]
  have e0 := beq_f k0
  have e1 := beq_f k1
  have e2 := beq_f k2
  have e3 := beq_f k3
  have e4 := beq_f k4
  have e5 := beq_f k5
  have e6 := beq_f k6
  have e7 := beq_f k7
  have e8 := beq_f k8
  have e9 := beq_f k9
  have e10 := beq_f k10
  have e11 := beq_f k11
  have e14 := beq_f k14
  have e16 := beq_f k16
  have K0 := hidden k0
  have K1 := hidden k1
  have K2 := hidden k2
  have K3 := hidden k3
  have K4 := hidden k4
  have K5 := hidden k5
  have K6 := hidden k6
  have K7 := hidden k7
  have K8 := hidden k8
  have K9 := hidden k9
  have K10 := hidden k10
  have K11 := hidden k11
  have K14 := hidden k14
  have K16 := hidden k16
  clear k0 k1 k2 k3 k4 k5 k6 k7 k8 k9 k10 k11 k14 k16
  go_enter Tryz.func90, Tryz.ntmps90
  go_upto_region 1 with fail
  generalize hW : World.alloc (World.alloc w (.cells (cc (kf k f)) 59)) _ = W at *
  clear hW
  have q0 : W.cell? ⟨w.heap.size, 0, none⟩ = some (.int .u8 k) := HS.out.1.c0
  have q1 : W.cell? ⟨w.heap.size, 1, none⟩ = some (.int .u8 f) := HS.out.1.c1
  have z1 := HS.out.1.fr 1
  go_upto_region 44 with fail
  clear q0 q1 z1 e0 e1 e2 e3 e4 e5 e6 e7 e8 e9 e10 e11 e14 e16
  rcases a with _ | ad
  · obtain ⟨h0, h1⟩ := hnn rfl
    subst h0; subst h1
    obtain rfl := List.eq_nil_of_length_eq_zero hzl
    obtain ⟨i0, hi, hz0, hz1, hz2⟩ := info_parts Par.info5
    have hE := Par.own_empty W W.heap.size (Nat.le_refl _)
    have hEB : Below W.heap.size W (W.alloc (.cells #[] 5)) := (Below.refl _ W).alloc (Nat.le_refl _) _
    have HE := hidden hE
    have s7 := HS.out.later hEB
    have q13 := s7.1.c13
    have z13 := s7.1.fr 13
    have s8 := s7.store (s7.1.s13 (some ⟨W.heap.size, 0, none⟩) 0 0 []) (lsts_b s7.2.2.2.2 ⟨rfl, bs_nil, by decide, .inl rfl⟩ (fun h => by cases h))
    obtain ⟨f1, f2, f3, f4, f5⟩ := s8.fin
    have F3 := hidden f3
    have F4 := hidden f4
    have F5 := hidden f5
    clear s7 s8 f3 f4 f5 hE hEB
    go_wp2_with (at_builtin; refine wpList_append_own_none rfl _ _ 27 rfl W.heap.size 5 i0 1 Tryz.underlying27 hi _ _ _ rfl HE.out rfl ?_)
    go_wp2
    exact bodyPost_ret (cell_res2 Tryz.results90 F3.out _ rfl rfl) rfl (rd_ok (by unfold Fil; rw [if_neg (by simp [nb, K0.out, K1.out, K2.out, K3.out, K7.out, K16.out]), if_neg (by simp [K3.out, K16.out]), if_neg K7.out, if_neg (by simp [K8.out, K11.out, K14.out]), if_neg (by simp [K1.out, K2.out]), if_neg (by simp [K4.out, K5.out]), if_neg (by simp [K6.out, K9.out]), if_neg K0.out]; exact ⟨rfl, rfl⟩) F5.out F4.out)
  have HRD := hidden (HR.out.later HS.out.2.2.1)
  obtain ⟨i0, hi, hz0, hz1, hz2⟩ := info_parts Par.info5
  have hE := Par.own_empty W W.heap.size (Nat.le_refl _)
  have hEB : Below W.heap.size W (W.alloc (.cells #[] 5)) := (Below.refl _ W).alloc (Nat.le_refl _) _
  have HE := hidden hE
  have HEB := hidden hEB
  have HN := hidden (((HRD.out).later hEB).news)
  clear hE hEB
  go_wp2_with (at_builtin; refine wpList_append_own _ rfl _ _ 27 rfl W.heap.size 5 i0 (.int .u8 0) 1 1 Tryz.underlying27 hi hz0 hz1 hz2 rfl (by decide) _ _ _ rfl HE.out ad len cap (Par.cs v) rfl ?c0 HN.out (Par.cs_one _) ?c3 ?c4 (by simp) ?_)
  case c0 => rw [Par.cs_len, Nat.mul_one]; exact hzl
  case c3 => unfold maxLen; omega
  case c4 => omega
  intro v' w6 ho6 hg6 hv6
  have ho7 : w6.ownsRow W.heap.size 5 1 v' (len) (Par.cs v) := by simpa using ho6
  obtain ⟨ba, bc, rfl, hrow, hbl, hbm, hbn⟩ := Par.row_own ho7 HRD.out.2.1 (by omega)
  have b6 : Below W.heap.size W w6 := HEB.out.grown hg6 (by simp) (fun j hj => (HE.out.lt j hj).1)
  have s7 := HS.out.later b6
  have q13 := s7.1.c13
  have z13 := s7.1.fr 13
  have s8 := s7.store (s7.1.s13 ba (len) bc v) (lsts_b s7.2.2.2.2 (hrow.mono HS.out.2.2.2.1) hbn)
  obtain ⟨f1, f2, f3, f4, f5⟩ := s8.fin
  have F3 := hidden f3
  have F4 := hidden f4
  have F5 := hidden f5
  clear s7 s8 f3 f4 f5 ho6 ho7 hg6 hv6 hrow b6 HE HEB HN
  generalize hc8 : ({ kf k f with ba := ba, bl := len, bc := bc, bs := v } : Ck) = c8 at *
  have HF8 := hidden (show Fil k v (zch k f) 0 (val c8) by
    rw [← hc8]
    unfold Fil; rw [if_neg (by simp [nb, K0.out, K1.out, K2.out, K3.out, K7.out, K16.out]), if_neg (by simp [K3.out, K16.out]), if_neg K7.out, if_neg (by simp [K8.out, K11.out, K14.out]), if_neg (by simp [K1.out, K2.out]), if_neg (by simp [K4.out, K5.out]), if_neg (by simp [K6.out, K9.out]), if_neg K0.out]; exact ⟨rfl, rfl⟩)
  clear hc8
  go_wp2
  exact bodyPost_ret (v := .tuple #[cv c8, .int .i64 0]) (cell_res2 Tryz.results90 F3.out _ rfl rfl) rfl (rd_ok HF8.out F5.out F4.out)
end Go.Proofs.YtmnndkhdekpecaaGreatDoor.Chu
namespace Go.Proofs.YtmnndkhdekpecaaGreatDoor.Chu
open Go.ChangeShapes Go.WideShapes Go.ChangeAt Go.RowKit
open Par (hidden Bytes Row Prm Prms cell_lt Cap cells_new cutA thrown form_of)
set_option linter.unusedVariables false
attribute [local go_sem ↓] execOp_ld execOp_bx execOp_st
attribute [local go_sem] run_box

/-- what params tells, as a fact -/
def Pz (W : World) (v : List Int) (c c' : Ck) (er : Int) (w2 : World) : Prop := Below W.drew.heap.size W.drew w2 ∧ ∃ l q cd, Par.Out v l q cd ∧ ((cd ≠ 0 ∧ er = cd) ∨ (cd = 0 ∧ beat c.kind = true ∧ ¬ OneBeat l ∧ er = 61) ∨ (cd = 0 ∧ (beat c.kind = true → OneBeat l) ∧ er = 0 ∧ val c' = { val c with ps := l } ∧ Lsts W.drew.heap.size w2 c'))
section
variable {a : Act} {o : Oper} {w : World}
theorem e_ldc' {B : Nat} {c : Ck} (x : Operand) (hu : a.eval x = .pointer (some ⟨B, 0, none⟩)) (ho : o.op = .load 59 x) (hb : Bx w B c) : (execOp a.eval o).run Tryz.prog w = .ok (.value (cv c)) w := by
  unfold execOp
  rw [ho]
  simp only [hu]
  exact Ord.run_v hb.ld
theorem o_sl {b off len cap : Nat} {A : Option Addr} (x : Operand) (hx : a.eval x = .slice (some ⟨b, off, none⟩) len cap) (ho : o.op = .slice 27 x (some (.const (.int .i64 16))) none none) (hA : (if cap = 16 then (some ⟨b, off, none⟩ : Option Addr) else some ⟨b, off + 16, none⟩) = A) (h1 : 16 ≤ len) (h2 : len ≤ cap) : (execOp a.eval o).run Tryz.prog w = .ok (.value (.slice A (len - 16) (cap - 16))) w := by
  have i1 : (16 : Int) ≤ (len : Int) := by omega
  have i2 : (len : Int) ≤ (cap : Int) := by omega
  have i3 : (16 : Int) ≤ (cap : Int) := by omega
  unfold execOp
  rw [ho, ← hA]
  simp only [hx]
  go_simp
theorem o_par {u0 u1 : Value} (x y : Operand) (h0 : a.eval x = u0) (h1 : a.eval y = u1) (ho : o.op = .call { callee := .value (.func 106), args := #[x, y], argTypes := #[59, 27] }) : (execOp a.eval o).run Tryz.prog w = .ok (.enter 106 #[u0, u1]) w := by
  unfold execOp
  rw [ho]
  go_simp
  exact ⟨by cases x <;> simpa [Act.eval] using h0, by cases y <;> simpa [Act.eval] using h1⟩
theorem o_ex {n : Nat} {vs : Array Value} {u : Value} (x : Operand) (h0 : a.eval x = .tuple vs) (hn : vs[n]? = some u) (ho : o.op = .extract x n) : (execOp a.eval o).run Tryz.prog w = .ok (.value u) w := by
  unfold execOp
  rw [ho]
  simp only [h0]
  simp [go_sem, hn]
theorem o_as {v : Value} (x : Operand) (ho : o.op = .assign x) (hx : a.eval x = v) : (execOp a.eval o).run Tryz.prog w = .ok (.value v) w := by
  unfold execOp
  rw [ho]
  simp only [hx]
  rfl
theorem o_sto {p u : Value} {w' : World} (x y : Operand) (h0 : a.eval x = p) (h1 : a.eval y = u) (ho : o.op = .store 59 x y) (hr : (sto p u).run Tryz.prog w = .ok () w') : (execOp a.eval o).run Tryz.prog w = .ok .skip w' := by
  obtain ⟨d, op, ty, ps, af, gd⟩ := o
  simp only at ho
  subst ho
  rw [execOp_st, h0, h1]
  simp only [Sem.run_bind, hr, Result.andThen_ok, Sem.run_pure]
end
set_option maxRecDepth 20000 in
set_option maxHeartbeats 1000000 in
theorem read1 (base : Nat) (w : World) (a : Option Addr) (len cap : Nat) (v : List Int) (f : Int) (hf : 0 ≤ f ∧ f < 256) (hr : Row base w a len v) (hlc : len ≤ cap) (hnn : a = none → len = 0 ∧ cap = 0) :
    Calls Tryz.prog 90 #[cv (kf 1 f), .slice a len cap] w fun e w' => RdR w v 1 (zch 1 (flg 1 f)) e w' := by
  have S0 := Ds.start w (kf 1 f) (kf_lsts 1 f)
  have hcc : (cc (zck 0)) = #[.int .u8 0, .int .u8 0, .int .u32 0, .int .u16 0, .int .u16 0, .int .u32 0, .int .u32 0, .int .u32 0, .int .u16 0, .int .u16 0, .slice none 0 0, .slice none 0 0, .slice none 0 0, .slice none 0 0, .slice none 0 0] := rfl
  rw [hcc] at S0
  have HS := hidden S0
  have hzl := hr.1
  have hlim := hr.2.2.1
  have HR := hidden hr
  have HBY := hidden hr.2.1
  clear S0 hcc hr
  have hfl : flg 1 f = 0 := by simp [flg]
  rw [hfl]
  have hFil : ∀ l q cd er y, 16 ≤ v.length → Par.Out (v.drop 16) l q cd → ((cd ≠ 0 ∧ er = cd) ∨ (cd = 0 ∧ er = 0 ∧ y = { zch 1 0 with tag := n4 v 0, win := n4 v 4, out := n2 v 8, inn := n2 v 10, tsn := n4 v 12, ps := l })) → Fil 1 v (zch 1 0) er y := by
    intro l q cd er y hl hO h
    unfold Fil
    rw [if_neg (show ¬ v.length < nb 1 from (show ¬ v.length < 16 by omega)), if_neg (by decide), if_neg (by decide), if_neg (by decide), if_pos (by decide)]
    exact ⟨l, q, cd, hO, h⟩
  have HFil := hidden hFil
  clear hFil
  go_enter Tryz.func90, Tryz.ntmps90
  go_upto_region 1 with fail
  generalize hW : World.alloc (World.alloc w (.cells (cc (kf 1 f)) 59)) _ = W at *
  clear hW
  have q0 : W.cell? ⟨w.heap.size, 0, none⟩ = some (.int .u8 1) := HS.out.1.c0
  have q1 : W.cell? ⟨w.heap.size, 1, none⟩ = some (.int .u8 f) := HS.out.1.c1
  have z1 := HS.out.1.fr 1
  rcases Nat.lt_or_ge len 16 with hlt | hge
  · have hlt' : (len : Int) < 16 := by omega
    obtain ⟨f1, f2, f3, f4, f5⟩ := HS.out.fin
    have F3 := hidden f3
    have F4 := hidden f4
    clear f3 f4 f5
    go_wp2
    exact bodyPost_ret (v := .tuple #[cv (kf 1 f), .int .i64 61]) (cell_res2 Tryz.results90 F3.out _ rfl rfl) rfl (rd_bad (fun y => by unfold Fil; rw [if_pos (show v.length < nb 1 from (show v.length < 16 by omega))]) (by decide) F4.out)
  have hge' : ¬ (len : Int) < 16 := by omega
  obtain ⟨b, off, rfl, _, _⟩ := HR.out.2.2.2.resolve_left (by omega)
  have s1 : Ds w (W.setCell ⟨w.heap.size, 1, none⟩ (.int .u8 0)) (kf 1 0) := HS.out.store (HS.out.1.s1 0) (kf_lsts _ _ _ _)
  have HS1 := hidden s1
  clear s1
  go_wp2_with fail
  clear q0 q1 z1
  generalize W.setCell ⟨w.heap.size, 1, none⟩ (.int .u8 0) = W1 at *
  have HR1 := hidden (HR.out.later HS1.out.2.2.1)
  have q2 := HS1.out.1.c2
  have z2 := HS1.out.1.fr 2
  have q6 := HS1.out.1.c6
  have z6 := HS1.out.1.fr 6
  have q7 := HS1.out.1.c7
  have z7 := HS1.out.1.fr 7
  have q8 := HS1.out.1.c8
  have z8 := HS1.out.1.fr 8
  have q9 := HS1.out.1.c9
  have z9 := HS1.out.1.fr 9
  have s2 := HS1.out.store (HS1.out.1.s6 (n4 v 0)) HS1.out.2.2.2.2
  have s3 := s2.store (s2.1.s7 (n4 v 4)) s2.2.2.2.2
  have s4 := s3.store (s3.1.s8 (n2 v 8)) s3.2.2.2.2
  have s5 := s4.store (s4.1.s9 (n2 v 10)) s4.2.2.2.2
  have s6 := s5.store (s5.1.s2 (n4 v 12)) s5.2.2.2.2
  have HS5 := hidden s6
  have wb4 := n2_bound HBY.out 8
  have wb6 := n2_bound HBY.out 10
  have hw : ∀ z : Int, IntKind.u16.wrap z = z % 65536 := fun _ => rfl
  have hx4 : n2 v 8 % 65536 = n2 v 8 := by omega
  have hx6 : n2 v 10 % 65536 = n2 v 10 := by omega
  clear s2 s3 s4 s5 s6
  refine Calls.mono (rGet4 base W1 _ len cap 0 v HR1.out (by omega)) ?_
  rintro e wz ⟨rfl, rfl⟩
  go_wp2_with fail
  refine Calls.mono (rGet4 base W1 _ len cap 4 v HR1.out (by omega)) ?_
  rintro e wz ⟨rfl, rfl⟩
  go_wp2_with fail
  refine Calls.mono (rGet2 base W1 _ len cap 8 v HR1.out (by omega)) ?_
  rintro e wz ⟨rfl, rfl⟩
  go_wp2_with fail
  refine Calls.mono (rGet2 base W1 _ len cap 10 v HR1.out (by omega)) ?_
  rintro e wz ⟨rfl, rfl⟩
  go_wp2_with fail
  refine Calls.mono (rGet4 base W1 _ len cap 12 v HR1.out (by omega)) ?_
  rintro e wz ⟨rfl, rfl⟩
  go_upto_region 17 with fail
  generalize World.setCell _ ⟨w.heap.size, 2, none⟩ (.int .u32 (n4 v 12)) = W5 at *
  clear q2 q6 q7 q8 q9 z2 z6 z7 z8 z9 hw hx4 hx6
  generalize hc5 : ({ kf 1 0 with tag := n4 v 0, win := n4 v 4, out := n2 v 8, inn := n2 v 10, tsn := n4 v 12 } : Ck) = c5 at HS5
  have HC5 := hidden (show val c5 = { zch 1 0 with tag := n4 v 0, win := n4 v 4, out := n2 v 8, inn := n2 v 10, tsn := n4 v 12 } by rw [← hc5]; rfl)
  have HK5 := hidden (show c5.kind = 1 by rw [← hc5]; rfl)
  have HL5 := hidden (show ∀ nn w, Lsts nn w c5 by rw [← hc5]; exact fun nn w => zck_lsts nn 1 w)
  clear hc5
  obtain ⟨A4, hA4⟩ : ∃ A4, (if cap = 16 then (some ⟨b, off, none⟩ : Option Addr) else some ⟨b, off + 16, none⟩) = A4 := ⟨_, rfl⟩
  have HA4 := hidden (show cutA (some ⟨b, off, none⟩) cap 16 = A4 by rw [← hA4]; unfold cutA Addr.add; rfl)
  have HRD := hidden (show Row base W5 A4 (len - 16) (v.drop 16) by rw [← HA4.out]; exact Par.cutA_row (HR.out.later HS5.out.2.2.1) (by omega) hlc hnn)
  have HNA := hidden (show A4 = none → len - 16 = 0 ∧ cap - 16 = 0 by rw [← HA4.out]; exact Par.cutA_none hnn)
  have i4 : (16 : Int) ≤ (cap : Int) := by omega
  have i5 : (16 : Int) ≤ (len : Int) := by omega
  have HSD : Ds w W5.drew c5 := HS5.out.later (Par.below_drewN (Below.refl _ _) 1)
  have PA := hidden (rParams base W5.drew A4 (len - 16) (cap - 16) (v.drop 16) c5 HRD.out (by omega) HNA.out HL5.out)
  have HSDH := hidden HSD
  clear HSD
  refine Ord.wp_region_all (by kernel_rfl) (fun L ac x => ac.tmps.size = 135 ∧ ac.defers = [] ∧ ac.eval (.tmp 1) = .slice (some ⟨b, off, none⟩) len cap ∧ ac.eval (.tmp 2) = .pointer (some ⟨w.heap.size, 0, none⟩) ∧ ac.eval (.tmp 4) = .pointer (some ⟨w.heap.size + 1, 0, none⟩) ∧ (L 0 = true → ac.eval (.tmp 67) = cv c5) ∧ (L 1 = true → ac.eval (.tmp 68) = .slice (some ⟨b, off, none⟩) len cap) ∧ (L 2 = true → ac.eval (.tmp 69) = .slice A4 (len - 16) (cap - 16)) ∧
      ((L 3 = false ∧ x = W5.drew) ∨ ∃ c' er w2, Pz W5 (v.drop 16) c5 c' er w2 ∧ L 3 = true ∧ ac.eval (.tmp 70) = .tuple #[cv c', .int .i64 er] ∧ (L 4 = true → ac.eval (.tmp 71) = cv c') ∧ (L 5 = true → ac.eval (.tmp 72) = .int .i64 er) ∧ (L 7 = true → ac.eval (.tmp 5) = .int .i64 er) ∧ x = (if L 6 = true then stoW w2 (w.heap.size + 1) c' else w2))) (by kernel_rfl) ?_ ?_ ?_ ?_
  case refine_1 =>
    intro L i o ac x ho hi hcl hdep hG
    obtain ⟨g1, g2, k1, k2, k4, s0, s1, s2, hx⟩ := hG
    have bx : Below W5.drew.heap.size W5.drew x ∨ L 6 = true := by
      rcases hx with ⟨_, rfl⟩ | ⟨c', er, w2, hp, _, _, _, _, _, rfl⟩
      · exact .inl (Below.refl _ _)
      · cases h6 : L 6 with
        | true => exact .inr rfl
        | false => exact .inl (by simpa using hp.1)
    match i, ho, hi with
    | 0, ho, hi =>
      cases ho
      have b6 : L 6 = false := by
        cases h : L 6 with
        | false => rfl
        | true =>
          have h4 := hcl 6 _ rfl h ⟨4, .data⟩ (by simp) rfl
          have h3 := hcl 4 _ rfl h4 ⟨3, .data⟩ (by simp) rfl
          exact absurd (hcl 3 _ rfl h3 ⟨0, .data⟩ (by simp) rfl) (by rw [hi]; decide)
      have hb := bx.resolve_right (by rw [b6]; decide)
      refine Ord.wpOp_of rfl rfl (Ord.wp_value (v := cv c5) (w' := x) (e_ldc' _ k2 rfl (HSDH.out.later hb).1) ?_)
      exact ⟨(Ord.size_put _ 67 _).trans g1, g2, (Ord.eval_put_other _ 67 1 _ (by decide)).trans k1, (Ord.eval_put_other _ 67 2 _ (by decide)).trans k2, (Ord.eval_put_other _ 67 4 _ (by decide)).trans k4, fun _ => Ord.eval_put_same _ _ _ (by rw [g1]; decide), fun h => (Ord.eval_put_other _ 67 68 _ (by decide)).trans (s1 (by simpa [Ord.upd] using h)), fun h => (Ord.eval_put_other _ 67 69 _ (by decide)).trans (s2 (by simpa [Ord.upd] using h)), (by
        rcases hx with ⟨h3, rfl⟩ | ⟨c', er, w2, hp, h3, e70, s4, s5, s7, hx⟩
        · exact .inl ⟨by simpa [Ord.upd] using h3, rfl⟩
        · exact .inr ⟨c', er, w2, hp, by simpa [Ord.upd] using h3, (Ord.eval_put_other _ 67 70 _ (by decide)).trans e70, fun h => (Ord.eval_put_other _ 67 71 _ (by decide)).trans (s4 (by simpa [Ord.upd] using h)), fun h => (Ord.eval_put_other _ 67 72 _ (by decide)).trans (s5 (by simpa [Ord.upd] using h)), fun h => (Ord.eval_put_other _ 67 5 _ (by decide)).trans (s7 (by simpa [Ord.upd] using h)), by simpa [Ord.upd] using hx⟩)⟩
    | 1, ho, hi =>
      cases ho
      refine Ord.wpOp_of rfl rfl (Ord.wp_value (w' := x) (o_mv _ rfl k1) ?_)
      exact ⟨(Ord.size_put _ 68 _).trans g1, g2, (Ord.eval_put_other _ 68 1 _ (by decide)).trans k1, (Ord.eval_put_other _ 68 2 _ (by decide)).trans k2, (Ord.eval_put_other _ 68 4 _ (by decide)).trans k4, fun h => (Ord.eval_put_other _ 68 67 _ (by decide)).trans (s0 (by simpa [Ord.upd] using h)), fun _ => Ord.eval_put_same _ _ _ (by rw [g1]; decide), fun h => (Ord.eval_put_other _ 68 69 _ (by decide)).trans (s2 (by simpa [Ord.upd] using h)), (by
        rcases hx with ⟨h3, rfl⟩ | ⟨c', er, w2, hp, h3, e70, s4, s5, s7, hx⟩
        · exact .inl ⟨by simpa [Ord.upd] using h3, rfl⟩
        · exact .inr ⟨c', er, w2, hp, by simpa [Ord.upd] using h3, (Ord.eval_put_other _ 68 70 _ (by decide)).trans e70, fun h => (Ord.eval_put_other _ 68 71 _ (by decide)).trans (s4 (by simpa [Ord.upd] using h)), fun h => (Ord.eval_put_other _ 68 72 _ (by decide)).trans (s5 (by simpa [Ord.upd] using h)), fun h => (Ord.eval_put_other _ 68 5 _ (by decide)).trans (s7 (by simpa [Ord.upd] using h)), by simpa [Ord.upd] using hx⟩)⟩
    | 2, ho, hi =>
      cases ho
      have da := s1 (hdep ⟨1, .data⟩ (by simp) rfl)
      refine Ord.wpOp_of rfl rfl (Ord.wp_value (v := .slice A4 (len - 16) (cap - 16)) (w' := x) (o_sl _ da rfl hA4 (by omega) (by omega)) ?_)
      exact ⟨(Ord.size_put _ 69 _).trans g1, g2, (Ord.eval_put_other _ 69 1 _ (by decide)).trans k1, (Ord.eval_put_other _ 69 2 _ (by decide)).trans k2, (Ord.eval_put_other _ 69 4 _ (by decide)).trans k4, fun h => (Ord.eval_put_other _ 69 67 _ (by decide)).trans (s0 (by simpa [Ord.upd] using h)), fun h => (Ord.eval_put_other _ 69 68 _ (by decide)).trans (s1 (by simpa [Ord.upd] using h)), fun _ => Ord.eval_put_same _ _ _ (by rw [g1]; decide), (by
        rcases hx with ⟨h3, rfl⟩ | ⟨c', er, w2, hp, h3, e70, s4, s5, s7, hx⟩
        · exact .inl ⟨by simpa [Ord.upd] using h3, rfl⟩
        · exact .inr ⟨c', er, w2, hp, by simpa [Ord.upd] using h3, (Ord.eval_put_other _ 69 70 _ (by decide)).trans e70, fun h => (Ord.eval_put_other _ 69 71 _ (by decide)).trans (s4 (by simpa [Ord.upd] using h)), fun h => (Ord.eval_put_other _ 69 72 _ (by decide)).trans (s5 (by simpa [Ord.upd] using h)), fun h => (Ord.eval_put_other _ 69 5 _ (by decide)).trans (s7 (by simpa [Ord.upd] using h)), by simpa [Ord.upd] using hx⟩)⟩
    | 3, ho, hi =>
      cases ho
      have da := s0 (hdep ⟨0, .data⟩ (by simp) rfl)
      have db := s2 (hdep ⟨2, .data⟩ (by simp) rfl)
      have hx0 : x = W5.drew := by
        rcases hx with ⟨_, h⟩ | ⟨_, _, _, _, h3, _⟩
        · exact h
        · rw [hi] at h3; cases h3
      have l4 : L 4 = false := by
        cases h : L 4 with
        | false => rfl
        | true => exact absurd (hcl 4 _ rfl h ⟨3, .data⟩ (by simp) rfl) (by rw [hi]; decide)
      have l5 : L 5 = false := by
        cases h : L 5 with
        | false => rfl
        | true => exact absurd (hcl 5 _ rfl h ⟨3, .data⟩ (by simp) rfl) (by rw [hi]; decide)
      have l6 : L 6 = false := by
        cases h : L 6 with
        | false => rfl
        | true => exact absurd (hcl 6 _ rfl h ⟨4, .data⟩ (by simp) rfl) (by rw [l4]; decide)
      have l7 : L 7 = false := by
        cases h : L 7 with
        | false => rfl
        | true => exact absurd (hcl 7 _ rfl h ⟨5, .data⟩ (by simp) rfl) (by rw [l5]; decide)
      subst hx0
      refine Ord.wpOp_of rfl rfl ?_
      unfold Oper.wp
      rw [o_par _ _ da db rfl]
      refine Calls.mono PA.out ?_
      rintro e w2 ⟨c', er, rfl, b2, l, q, cd, hO, h⟩
      exact ⟨(Ord.size_put _ 70 _).trans g1, g2, (Ord.eval_put_other _ 70 1 _ (by decide)).trans k1, (Ord.eval_put_other _ 70 2 _ (by decide)).trans k2, (Ord.eval_put_other _ 70 4 _ (by decide)).trans k4, fun h => (Ord.eval_put_other _ 70 67 _ (by decide)).trans (s0 (by simpa [Ord.upd] using h)), fun h => (Ord.eval_put_other _ 70 68 _ (by decide)).trans (s1 (by simpa [Ord.upd] using h)), fun h => (Ord.eval_put_other _ 70 69 _ (by decide)).trans (s2 (by simpa [Ord.upd] using h)), .inr ⟨c', er, w2, ⟨b2, l, q, cd, hO, h⟩, by simp [Ord.upd], Ord.eval_put_same _ _ _ (by rw [g1]; decide), fun h' => absurd h' (by simp [Ord.upd, l4]), fun h' => absurd h' (by simp [Ord.upd, l5]), fun h' => absurd h' (by simp [Ord.upd, l7]), by simp [Ord.upd, l6]⟩⟩
    | 4, ho, hi =>
      cases ho
      have l3 : L 3 = true := hdep ⟨3, .data⟩ (by simp) rfl
      obtain ⟨c', er, w2, hp, h3, e70, s4, s5, s7, hx⟩ := hx.resolve_left (fun h => by rw [l3] at h; cases h.1)
      refine Ord.wpOp_of rfl rfl (Ord.wp_value (v := cv c') (w' := x) (o_ex (n := 0) _ e70 rfl rfl) ?_)
      exact ⟨(Ord.size_put _ 71 _).trans g1, g2, (Ord.eval_put_other _ 71 1 _ (by decide)).trans k1, (Ord.eval_put_other _ 71 2 _ (by decide)).trans k2, (Ord.eval_put_other _ 71 4 _ (by decide)).trans k4, fun h => (Ord.eval_put_other _ 71 67 _ (by decide)).trans (s0 (by simpa [Ord.upd] using h)), fun h => (Ord.eval_put_other _ 71 68 _ (by decide)).trans (s1 (by simpa [Ord.upd] using h)), fun h => (Ord.eval_put_other _ 71 69 _ (by decide)).trans (s2 (by simpa [Ord.upd] using h)), .inr ⟨c', er, w2, hp, by simpa [Ord.upd] using h3, (Ord.eval_put_other _ 71 70 _ (by decide)).trans e70, fun _ => Ord.eval_put_same _ _ _ (by rw [g1]; decide), fun h => (Ord.eval_put_other _ 71 72 _ (by decide)).trans (s5 (by simpa [Ord.upd] using h)), fun h => (Ord.eval_put_other _ 71 5 _ (by decide)).trans (s7 (by simpa [Ord.upd] using h)), by simpa [Ord.upd] using hx⟩⟩
    | 5, ho, hi =>
      cases ho
      have l3 : L 3 = true := hdep ⟨3, .data⟩ (by simp) rfl
      obtain ⟨c', er, w2, hp, h3, e70, s4, s5, s7, hx⟩ := hx.resolve_left (fun h => by rw [l3] at h; cases h.1)
      refine Ord.wpOp_of rfl rfl (Ord.wp_value (v := .int .i64 er) (w' := x) (o_ex (n := 1) _ e70 rfl rfl) ?_)
      exact ⟨(Ord.size_put _ 72 _).trans g1, g2, (Ord.eval_put_other _ 72 1 _ (by decide)).trans k1, (Ord.eval_put_other _ 72 2 _ (by decide)).trans k2, (Ord.eval_put_other _ 72 4 _ (by decide)).trans k4, fun h => (Ord.eval_put_other _ 72 67 _ (by decide)).trans (s0 (by simpa [Ord.upd] using h)), fun h => (Ord.eval_put_other _ 72 68 _ (by decide)).trans (s1 (by simpa [Ord.upd] using h)), fun h => (Ord.eval_put_other _ 72 69 _ (by decide)).trans (s2 (by simpa [Ord.upd] using h)), .inr ⟨c', er, w2, hp, by simpa [Ord.upd] using h3, (Ord.eval_put_other _ 72 70 _ (by decide)).trans e70, fun h => (Ord.eval_put_other _ 72 71 _ (by decide)).trans (s4 (by simpa [Ord.upd] using h)), fun _ => Ord.eval_put_same _ _ _ (by rw [g1]; decide), fun h => (Ord.eval_put_other _ 72 5 _ (by decide)).trans (s7 (by simpa [Ord.upd] using h)), by simpa [Ord.upd] using hx⟩⟩
    | 6, ho, hi =>
      cases ho
      have l4 : L 4 = true := hdep ⟨4, .data⟩ (by simp) rfl
      have l3 : L 3 = true := hcl 4 _ rfl l4 ⟨3, .data⟩ (by simp) rfl
      obtain ⟨c', er, w2, hp, h3, e70, s4, s5, s7, hx⟩ := hx.resolve_left (fun h => by rw [l3] at h; cases h.1)
      have hx0 : x = w2 := by rw [hx, hi]; simp
      subst hx0
      refine Ord.wpOp_of rfl rfl ?_
      unfold Oper.wp
      rw [o_sto _ _ k4 (s4 l4) rfl (HSDH.out.sub hp.1 c').1]
      exact ⟨g1, g2, k1, k2, k4, fun h => s0 (by simpa [Ord.upd] using h), fun h => s1 (by simpa [Ord.upd] using h), fun h => s2 (by simpa [Ord.upd] using h), .inr ⟨c', er, x, hp, by simpa [Ord.upd] using h3, e70, fun h => s4 (by simpa [Ord.upd] using h), fun h => s5 (by simpa [Ord.upd] using h), fun h => s7 (by simpa [Ord.upd] using h), by simp [Ord.upd]⟩⟩
    | 7, ho, hi =>
      cases ho
      have l3 : L 3 = true := hcl 5 _ rfl (hdep ⟨5, .data⟩ (by simp) rfl) ⟨3, .data⟩ (by simp) rfl
      obtain ⟨c', er, w2, hp, h3, e70, s4, s5, s7, hx⟩ := hx.resolve_left (fun h => by rw [l3] at h; cases h.1)
      refine Ord.wpOp_of rfl rfl (Ord.wp_value (v := .int .i64 er) (w' := x) (o_as _ rfl (s5 (hdep ⟨5, .data⟩ (by simp) rfl))) ?_)
      exact ⟨(Ord.size_put _ 5 _).trans g1, g2, (Ord.eval_put_other _ 5 1 _ (by decide)).trans k1, (Ord.eval_put_other _ 5 2 _ (by decide)).trans k2, (Ord.eval_put_other _ 5 4 _ (by decide)).trans k4, fun h => (Ord.eval_put_other _ 5 67 _ (by decide)).trans (s0 (by simpa [Ord.upd] using h)), fun h => (Ord.eval_put_other _ 5 68 _ (by decide)).trans (s1 (by simpa [Ord.upd] using h)), fun h => (Ord.eval_put_other _ 5 69 _ (by decide)).trans (s2 (by simpa [Ord.upd] using h)), .inr ⟨c', er, w2, hp, by simpa [Ord.upd] using h3, (Ord.eval_put_other _ 5 70 _ (by decide)).trans e70, fun h => (Ord.eval_put_other _ 5 71 _ (by decide)).trans (s4 (by simpa [Ord.upd] using h)), fun h => (Ord.eval_put_other _ 5 72 _ (by decide)).trans (s5 (by simpa [Ord.upd] using h)), fun _ => Ord.eval_put_same _ _ _ (by rw [g1]; decide), by simpa [Ord.upd] using hx⟩⟩
  case refine_2 =>
    intro L L' ac x hL ⟨g1, g2, k1, k2, k4, s0, s1, s2, hx⟩
    rw [hL 0 (by decide)] at s0
    rw [hL 1 (by decide)] at s1
    rw [hL 2 (by decide)] at s2
    rw [hL 3 (by decide), hL 4 (by decide), hL 5 (by decide), hL 6 (by decide), hL 7 (by decide)] at hx
    exact ⟨g1, g2, k1, k2, k4, s0, s1, s2, hx⟩
  case refine_3 =>
    intro ac x ⟨g1, g2, k1, k2, k4, s0, s1, s2, hx⟩
    obtain ⟨c', er, w2, hp, e3, e70, e4, e5, s7, rfl⟩ := hx.resolve_left (fun h => by cases h.1)
    have s7' := s7 rfl
    obtain ⟨t1, t2, t3, t4⟩ := HSDH.out.sub hp.1 c'
    rw [if_pos rfl]
    rename_i hKK
    refine hKK _ _ (wp_ret ?_)
    have h4 : ac.tmps.getD 4 undef = .pointer (some ⟨w.heap.size + 1, 0, none⟩) := k4
    have h5 : ac.tmps.getD 5 undef = .int .i64 er := s7'
    refine (show bodyPost Tryz.prog Tryz.f90 (fun e w' => RdR w v 1 (zch 1 0) e w') .ret ac _ from bodyPost_ret (v := .tuple #[cv c', .int .i64 er]) (cell_res2 Tryz.results90 t2 _ h4 h5) g2 ?_)
    obtain ⟨_, l, q, cd, hO, h⟩ := hp
    rcases h with ⟨h1, rfl⟩ | ⟨h1, h2, h3, rfl⟩ | ⟨h1, h2, rfl, h4', h5'⟩
    · exact RdR.of (W1 := W5.drew) (w2 := w2) (y := val c') (HFil.out l q _ _ _ (by omega) hO (.inl ⟨h1, rfl⟩)) (fun e => absurd e h1) t4 t3
    · rw [HK5.out] at h2
      exact absurd h2 (by decide)
    · exact RdR.of (W1 := W5.drew) (w2 := w2) (HFil.out l q _ _ _ (by omega) hO (.inr ⟨h1, rfl, rfl⟩)) (fun _ => ⟨by rw [h4', HC5.out], h5'⟩) t4 t3
  case refine_4 => exact ⟨rfl, rfl, rfl, rfl, rfl, (fun h => by cases h), (fun h => by cases h), (fun h => by cases h), .inl ⟨rfl, rfl⟩⟩
set_option maxRecDepth 20000 in
set_option maxHeartbeats 1000000 in
theorem read2 (base : Nat) (w : World) (a : Option Addr) (len cap : Nat) (v : List Int) (f : Int) (hf : 0 ≤ f ∧ f < 256) (hr : Row base w a len v) (hlc : len ≤ cap) (hnn : a = none → len = 0 ∧ cap = 0) :
    Calls Tryz.prog 90 #[cv (kf 2 f), .slice a len cap] w fun e w' => RdR w v 2 (zch 2 (flg 2 f)) e w' := by
  have S0 := Ds.start w (kf 2 f) (kf_lsts 2 f)
  have hcc : (cc (zck 0)) = #[.int .u8 0, .int .u8 0, .int .u32 0, .int .u16 0, .int .u16 0, .int .u32 0, .int .u32 0, .int .u32 0, .int .u16 0, .int .u16 0, .slice none 0 0, .slice none 0 0, .slice none 0 0, .slice none 0 0, .slice none 0 0] := rfl
  rw [hcc] at S0
  have HS := hidden S0
  have hzl := hr.1
  have hlim := hr.2.2.1
  have HR := hidden hr
  have HBY := hidden hr.2.1
  clear S0 hcc hr
  have hfl : flg 2 f = 0 := by simp [flg]
  rw [hfl]
  have hFil : ∀ l q cd er y, 16 ≤ v.length → Par.Out (v.drop 16) l q cd → ((cd ≠ 0 ∧ er = cd) ∨ (cd = 0 ∧ er = 0 ∧ y = { zch 2 0 with tag := n4 v 0, win := n4 v 4, out := n2 v 8, inn := n2 v 10, tsn := n4 v 12, ps := l })) → Fil 2 v (zch 2 0) er y := by
    intro l q cd er y hl hO h
    unfold Fil
    rw [if_neg (show ¬ v.length < nb 2 from (show ¬ v.length < 16 by omega)), if_neg (by decide), if_neg (by decide), if_neg (by decide), if_pos (by decide)]
    exact ⟨l, q, cd, hO, h⟩
  have HFil := hidden hFil
  clear hFil
  go_enter Tryz.func90, Tryz.ntmps90
  go_upto_region 1 with fail
  generalize hW : World.alloc (World.alloc w (.cells (cc (kf 2 f)) 59)) _ = W at *
  clear hW
  have q0 : W.cell? ⟨w.heap.size, 0, none⟩ = some (.int .u8 2) := HS.out.1.c0
  have q1 : W.cell? ⟨w.heap.size, 1, none⟩ = some (.int .u8 f) := HS.out.1.c1
  have z1 := HS.out.1.fr 1
  rcases Nat.lt_or_ge len 16 with hlt | hge
  · have hlt' : (len : Int) < 16 := by omega
    obtain ⟨f1, f2, f3, f4, f5⟩ := HS.out.fin
    have F3 := hidden f3
    have F4 := hidden f4
    clear f3 f4 f5
    go_wp2
    exact bodyPost_ret (v := .tuple #[cv (kf 2 f), .int .i64 61]) (cell_res2 Tryz.results90 F3.out _ rfl rfl) rfl (rd_bad (fun y => by unfold Fil; rw [if_pos (show v.length < nb 2 from (show v.length < 16 by omega))]) (by decide) F4.out)
  have hge' : ¬ (len : Int) < 16 := by omega
  obtain ⟨b, off, rfl, _, _⟩ := HR.out.2.2.2.resolve_left (by omega)
  have s1 : Ds w (W.setCell ⟨w.heap.size, 1, none⟩ (.int .u8 0)) (kf 2 0) := HS.out.store (HS.out.1.s1 0) (kf_lsts _ _ _ _)
  have HS1 := hidden s1
  clear s1
  go_wp2_with fail
  clear q0 q1 z1
  generalize W.setCell ⟨w.heap.size, 1, none⟩ (.int .u8 0) = W1 at *
  have HR1 := hidden (HR.out.later HS1.out.2.2.1)
  have q2 := HS1.out.1.c2
  have z2 := HS1.out.1.fr 2
  have q6 := HS1.out.1.c6
  have z6 := HS1.out.1.fr 6
  have q7 := HS1.out.1.c7
  have z7 := HS1.out.1.fr 7
  have q8 := HS1.out.1.c8
  have z8 := HS1.out.1.fr 8
  have q9 := HS1.out.1.c9
  have z9 := HS1.out.1.fr 9
  have s2 := HS1.out.store (HS1.out.1.s6 (n4 v 0)) HS1.out.2.2.2.2
  have s3 := s2.store (s2.1.s7 (n4 v 4)) s2.2.2.2.2
  have s4 := s3.store (s3.1.s8 (n2 v 8)) s3.2.2.2.2
  have s5 := s4.store (s4.1.s9 (n2 v 10)) s4.2.2.2.2
  have s6 := s5.store (s5.1.s2 (n4 v 12)) s5.2.2.2.2
  have HS5 := hidden s6
  have wb4 := n2_bound HBY.out 8
  have wb6 := n2_bound HBY.out 10
  have hw : ∀ z : Int, IntKind.u16.wrap z = z % 65536 := fun _ => rfl
  have hx4 : n2 v 8 % 65536 = n2 v 8 := by omega
  have hx6 : n2 v 10 % 65536 = n2 v 10 := by omega
  clear s2 s3 s4 s5 s6
  refine Calls.mono (rGet4 base W1 _ len cap 0 v HR1.out (by omega)) ?_
  rintro e wz ⟨rfl, rfl⟩
  go_wp2_with fail
  refine Calls.mono (rGet4 base W1 _ len cap 4 v HR1.out (by omega)) ?_
  rintro e wz ⟨rfl, rfl⟩
  go_wp2_with fail
  refine Calls.mono (rGet2 base W1 _ len cap 8 v HR1.out (by omega)) ?_
  rintro e wz ⟨rfl, rfl⟩
  go_wp2_with fail
  refine Calls.mono (rGet2 base W1 _ len cap 10 v HR1.out (by omega)) ?_
  rintro e wz ⟨rfl, rfl⟩
  go_wp2_with fail
  refine Calls.mono (rGet4 base W1 _ len cap 12 v HR1.out (by omega)) ?_
  rintro e wz ⟨rfl, rfl⟩
  go_upto_region 17 with fail
  generalize World.setCell _ ⟨w.heap.size, 2, none⟩ (.int .u32 (n4 v 12)) = W5 at *
  clear q2 q6 q7 q8 q9 z2 z6 z7 z8 z9 hw hx4 hx6
  generalize hc5 : ({ kf 2 0 with tag := n4 v 0, win := n4 v 4, out := n2 v 8, inn := n2 v 10, tsn := n4 v 12 } : Ck) = c5 at HS5
  have HC5 := hidden (show val c5 = { zch 2 0 with tag := n4 v 0, win := n4 v 4, out := n2 v 8, inn := n2 v 10, tsn := n4 v 12 } by rw [← hc5]; rfl)
  have HK5 := hidden (show c5.kind = 2 by rw [← hc5]; rfl)
  have HL5 := hidden (show ∀ nn w, Lsts nn w c5 by rw [← hc5]; exact fun nn w => zck_lsts nn 2 w)
  clear hc5
  obtain ⟨A4, hA4⟩ : ∃ A4, (if cap = 16 then (some ⟨b, off, none⟩ : Option Addr) else some ⟨b, off + 16, none⟩) = A4 := ⟨_, rfl⟩
  have HA4 := hidden (show cutA (some ⟨b, off, none⟩) cap 16 = A4 by rw [← hA4]; unfold cutA Addr.add; rfl)
  have HRD := hidden (show Row base W5 A4 (len - 16) (v.drop 16) by rw [← HA4.out]; exact Par.cutA_row (HR.out.later HS5.out.2.2.1) (by omega) hlc hnn)
  have HNA := hidden (show A4 = none → len - 16 = 0 ∧ cap - 16 = 0 by rw [← HA4.out]; exact Par.cutA_none hnn)
  have i4 : (16 : Int) ≤ (cap : Int) := by omega
  have i5 : (16 : Int) ≤ (len : Int) := by omega
  have HSD : Ds w W5.drew c5 := HS5.out.later (Par.below_drewN (Below.refl _ _) 1)
  have PA := hidden (rParams base W5.drew A4 (len - 16) (cap - 16) (v.drop 16) c5 HRD.out (by omega) HNA.out HL5.out)
  have HSDH := hidden HSD
  clear HSD
  refine Ord.wp_region_all (by kernel_rfl) (fun L ac x => ac.tmps.size = 135 ∧ ac.defers = [] ∧ ac.eval (.tmp 1) = .slice (some ⟨b, off, none⟩) len cap ∧ ac.eval (.tmp 2) = .pointer (some ⟨w.heap.size, 0, none⟩) ∧ ac.eval (.tmp 4) = .pointer (some ⟨w.heap.size + 1, 0, none⟩) ∧ (L 0 = true → ac.eval (.tmp 67) = cv c5) ∧ (L 1 = true → ac.eval (.tmp 68) = .slice (some ⟨b, off, none⟩) len cap) ∧ (L 2 = true → ac.eval (.tmp 69) = .slice A4 (len - 16) (cap - 16)) ∧
      ((L 3 = false ∧ x = W5.drew) ∨ ∃ c' er w2, Pz W5 (v.drop 16) c5 c' er w2 ∧ L 3 = true ∧ ac.eval (.tmp 70) = .tuple #[cv c', .int .i64 er] ∧ (L 4 = true → ac.eval (.tmp 71) = cv c') ∧ (L 5 = true → ac.eval (.tmp 72) = .int .i64 er) ∧ (L 7 = true → ac.eval (.tmp 5) = .int .i64 er) ∧ x = (if L 6 = true then stoW w2 (w.heap.size + 1) c' else w2))) (by kernel_rfl) ?_ ?_ ?_ ?_
  case refine_1 =>
    intro L i o ac x ho hi hcl hdep hG
    obtain ⟨g1, g2, k1, k2, k4, s0, s1, s2, hx⟩ := hG
    have bx : Below W5.drew.heap.size W5.drew x ∨ L 6 = true := by
      rcases hx with ⟨_, rfl⟩ | ⟨c', er, w2, hp, _, _, _, _, _, rfl⟩
      · exact .inl (Below.refl _ _)
      · cases h6 : L 6 with
        | true => exact .inr rfl
        | false => exact .inl (by simpa using hp.1)
    match i, ho, hi with
    | 0, ho, hi =>
      cases ho
      have b6 : L 6 = false := by
        cases h : L 6 with
        | false => rfl
        | true =>
          have h4 := hcl 6 _ rfl h ⟨4, .data⟩ (by simp) rfl
          have h3 := hcl 4 _ rfl h4 ⟨3, .data⟩ (by simp) rfl
          exact absurd (hcl 3 _ rfl h3 ⟨0, .data⟩ (by simp) rfl) (by rw [hi]; decide)
      have hb := bx.resolve_right (by rw [b6]; decide)
      refine Ord.wpOp_of rfl rfl (Ord.wp_value (v := cv c5) (w' := x) (e_ldc' _ k2 rfl (HSDH.out.later hb).1) ?_)
      exact ⟨(Ord.size_put _ 67 _).trans g1, g2, (Ord.eval_put_other _ 67 1 _ (by decide)).trans k1, (Ord.eval_put_other _ 67 2 _ (by decide)).trans k2, (Ord.eval_put_other _ 67 4 _ (by decide)).trans k4, fun _ => Ord.eval_put_same _ _ _ (by rw [g1]; decide), fun h => (Ord.eval_put_other _ 67 68 _ (by decide)).trans (s1 (by simpa [Ord.upd] using h)), fun h => (Ord.eval_put_other _ 67 69 _ (by decide)).trans (s2 (by simpa [Ord.upd] using h)), (by
        rcases hx with ⟨h3, rfl⟩ | ⟨c', er, w2, hp, h3, e70, s4, s5, s7, hx⟩
        · exact .inl ⟨by simpa [Ord.upd] using h3, rfl⟩
        · exact .inr ⟨c', er, w2, hp, by simpa [Ord.upd] using h3, (Ord.eval_put_other _ 67 70 _ (by decide)).trans e70, fun h => (Ord.eval_put_other _ 67 71 _ (by decide)).trans (s4 (by simpa [Ord.upd] using h)), fun h => (Ord.eval_put_other _ 67 72 _ (by decide)).trans (s5 (by simpa [Ord.upd] using h)), fun h => (Ord.eval_put_other _ 67 5 _ (by decide)).trans (s7 (by simpa [Ord.upd] using h)), by simpa [Ord.upd] using hx⟩)⟩
    | 1, ho, hi =>
      cases ho
      refine Ord.wpOp_of rfl rfl (Ord.wp_value (w' := x) (o_mv _ rfl k1) ?_)
      exact ⟨(Ord.size_put _ 68 _).trans g1, g2, (Ord.eval_put_other _ 68 1 _ (by decide)).trans k1, (Ord.eval_put_other _ 68 2 _ (by decide)).trans k2, (Ord.eval_put_other _ 68 4 _ (by decide)).trans k4, fun h => (Ord.eval_put_other _ 68 67 _ (by decide)).trans (s0 (by simpa [Ord.upd] using h)), fun _ => Ord.eval_put_same _ _ _ (by rw [g1]; decide), fun h => (Ord.eval_put_other _ 68 69 _ (by decide)).trans (s2 (by simpa [Ord.upd] using h)), (by
        rcases hx with ⟨h3, rfl⟩ | ⟨c', er, w2, hp, h3, e70, s4, s5, s7, hx⟩
        · exact .inl ⟨by simpa [Ord.upd] using h3, rfl⟩
        · exact .inr ⟨c', er, w2, hp, by simpa [Ord.upd] using h3, (Ord.eval_put_other _ 68 70 _ (by decide)).trans e70, fun h => (Ord.eval_put_other _ 68 71 _ (by decide)).trans (s4 (by simpa [Ord.upd] using h)), fun h => (Ord.eval_put_other _ 68 72 _ (by decide)).trans (s5 (by simpa [Ord.upd] using h)), fun h => (Ord.eval_put_other _ 68 5 _ (by decide)).trans (s7 (by simpa [Ord.upd] using h)), by simpa [Ord.upd] using hx⟩)⟩
    | 2, ho, hi =>
      cases ho
      have da := s1 (hdep ⟨1, .data⟩ (by simp) rfl)
      refine Ord.wpOp_of rfl rfl (Ord.wp_value (v := .slice A4 (len - 16) (cap - 16)) (w' := x) (o_sl _ da rfl hA4 (by omega) (by omega)) ?_)
      exact ⟨(Ord.size_put _ 69 _).trans g1, g2, (Ord.eval_put_other _ 69 1 _ (by decide)).trans k1, (Ord.eval_put_other _ 69 2 _ (by decide)).trans k2, (Ord.eval_put_other _ 69 4 _ (by decide)).trans k4, fun h => (Ord.eval_put_other _ 69 67 _ (by decide)).trans (s0 (by simpa [Ord.upd] using h)), fun h => (Ord.eval_put_other _ 69 68 _ (by decide)).trans (s1 (by simpa [Ord.upd] using h)), fun _ => Ord.eval_put_same _ _ _ (by rw [g1]; decide), (by
        rcases hx with ⟨h3, rfl⟩ | ⟨c', er, w2, hp, h3, e70, s4, s5, s7, hx⟩
        · exact .inl ⟨by simpa [Ord.upd] using h3, rfl⟩
        · exact .inr ⟨c', er, w2, hp, by simpa [Ord.upd] using h3, (Ord.eval_put_other _ 69 70 _ (by decide)).trans e70, fun h => (Ord.eval_put_other _ 69 71 _ (by decide)).trans (s4 (by simpa [Ord.upd] using h)), fun h => (Ord.eval_put_other _ 69 72 _ (by decide)).trans (s5 (by simpa [Ord.upd] using h)), fun h => (Ord.eval_put_other _ 69 5 _ (by decide)).trans (s7 (by simpa [Ord.upd] using h)), by simpa [Ord.upd] using hx⟩)⟩
    | 3, ho, hi =>
      cases ho
      have da := s0 (hdep ⟨0, .data⟩ (by simp) rfl)
      have db := s2 (hdep ⟨2, .data⟩ (by simp) rfl)
      have hx0 : x = W5.drew := by
        rcases hx with ⟨_, h⟩ | ⟨_, _, _, _, h3, _⟩
        · exact h
        · rw [hi] at h3; cases h3
      have l4 : L 4 = false := by
        cases h : L 4 with
        | false => rfl
        | true => exact absurd (hcl 4 _ rfl h ⟨3, .data⟩ (by simp) rfl) (by rw [hi]; decide)
      have l5 : L 5 = false := by
        cases h : L 5 with
        | false => rfl
        | true => exact absurd (hcl 5 _ rfl h ⟨3, .data⟩ (by simp) rfl) (by rw [hi]; decide)
      have l6 : L 6 = false := by
        cases h : L 6 with
        | false => rfl
        | true => exact absurd (hcl 6 _ rfl h ⟨4, .data⟩ (by simp) rfl) (by rw [l4]; decide)
      have l7 : L 7 = false := by
        cases h : L 7 with
        | false => rfl
        | true => exact absurd (hcl 7 _ rfl h ⟨5, .data⟩ (by simp) rfl) (by rw [l5]; decide)
      subst hx0
      refine Ord.wpOp_of rfl rfl ?_
      unfold Oper.wp
      rw [o_par _ _ da db rfl]
      refine Calls.mono PA.out ?_
      rintro e w2 ⟨c', er, rfl, b2, l, q, cd, hO, h⟩
      exact ⟨(Ord.size_put _ 70 _).trans g1, g2, (Ord.eval_put_other _ 70 1 _ (by decide)).trans k1, (Ord.eval_put_other _ 70 2 _ (by decide)).trans k2, (Ord.eval_put_other _ 70 4 _ (by decide)).trans k4, fun h => (Ord.eval_put_other _ 70 67 _ (by decide)).trans (s0 (by simpa [Ord.upd] using h)), fun h => (Ord.eval_put_other _ 70 68 _ (by decide)).trans (s1 (by simpa [Ord.upd] using h)), fun h => (Ord.eval_put_other _ 70 69 _ (by decide)).trans (s2 (by simpa [Ord.upd] using h)), .inr ⟨c', er, w2, ⟨b2, l, q, cd, hO, h⟩, by simp [Ord.upd], Ord.eval_put_same _ _ _ (by rw [g1]; decide), fun h' => absurd h' (by simp [Ord.upd, l4]), fun h' => absurd h' (by simp [Ord.upd, l5]), fun h' => absurd h' (by simp [Ord.upd, l7]), by simp [Ord.upd, l6]⟩⟩
    | 4, ho, hi =>
      cases ho
      have l3 : L 3 = true := hdep ⟨3, .data⟩ (by simp) rfl
      obtain ⟨c', er, w2, hp, h3, e70, s4, s5, s7, hx⟩ := hx.resolve_left (fun h => by rw [l3] at h; cases h.1)
      refine Ord.wpOp_of rfl rfl (Ord.wp_value (v := cv c') (w' := x) (o_ex (n := 0) _ e70 rfl rfl) ?_)
      exact ⟨(Ord.size_put _ 71 _).trans g1, g2, (Ord.eval_put_other _ 71 1 _ (by decide)).trans k1, (Ord.eval_put_other _ 71 2 _ (by decide)).trans k2, (Ord.eval_put_other _ 71 4 _ (by decide)).trans k4, fun h => (Ord.eval_put_other _ 71 67 _ (by decide)).trans (s0 (by simpa [Ord.upd] using h)), fun h => (Ord.eval_put_other _ 71 68 _ (by decide)).trans (s1 (by simpa [Ord.upd] using h)), fun h => (Ord.eval_put_other _ 71 69 _ (by decide)).trans (s2 (by simpa [Ord.upd] using h)), .inr ⟨c', er, w2, hp, by simpa [Ord.upd] using h3, (Ord.eval_put_other _ 71 70 _ (by decide)).trans e70, fun _ => Ord.eval_put_same _ _ _ (by rw [g1]; decide), fun h => (Ord.eval_put_other _ 71 72 _ (by decide)).trans (s5 (by simpa [Ord.upd] using h)), fun h => (Ord.eval_put_other _ 71 5 _ (by decide)).trans (s7 (by simpa [Ord.upd] using h)), by simpa [Ord.upd] using hx⟩⟩
    | 5, ho, hi =>
      cases ho
      have l3 : L 3 = true := hdep ⟨3, .data⟩ (by simp) rfl
      obtain ⟨c', er, w2, hp, h3, e70, s4, s5, s7, hx⟩ := hx.resolve_left (fun h => by rw [l3] at h; cases h.1)
      refine Ord.wpOp_of rfl rfl (Ord.wp_value (v := .int .i64 er) (w' := x) (o_ex (n := 1) _ e70 rfl rfl) ?_)
      exact ⟨(Ord.size_put _ 72 _).trans g1, g2, (Ord.eval_put_other _ 72 1 _ (by decide)).trans k1, (Ord.eval_put_other _ 72 2 _ (by decide)).trans k2, (Ord.eval_put_other _ 72 4 _ (by decide)).trans k4, fun h => (Ord.eval_put_other _ 72 67 _ (by decide)).trans (s0 (by simpa [Ord.upd] using h)), fun h => (Ord.eval_put_other _ 72 68 _ (by decide)).trans (s1 (by simpa [Ord.upd] using h)), fun h => (Ord.eval_put_other _ 72 69 _ (by decide)).trans (s2 (by simpa [Ord.upd] using h)), .inr ⟨c', er, w2, hp, by simpa [Ord.upd] using h3, (Ord.eval_put_other _ 72 70 _ (by decide)).trans e70, fun h => (Ord.eval_put_other _ 72 71 _ (by decide)).trans (s4 (by simpa [Ord.upd] using h)), fun _ => Ord.eval_put_same _ _ _ (by rw [g1]; decide), fun h => (Ord.eval_put_other _ 72 5 _ (by decide)).trans (s7 (by simpa [Ord.upd] using h)), by simpa [Ord.upd] using hx⟩⟩
    | 6, ho, hi =>
      cases ho
      have l4 : L 4 = true := hdep ⟨4, .data⟩ (by simp) rfl
      have l3 : L 3 = true := hcl 4 _ rfl l4 ⟨3, .data⟩ (by simp) rfl
      obtain ⟨c', er, w2, hp, h3, e70, s4, s5, s7, hx⟩ := hx.resolve_left (fun h => by rw [l3] at h; cases h.1)
      have hx0 : x = w2 := by rw [hx, hi]; simp
      subst hx0
      refine Ord.wpOp_of rfl rfl ?_
      unfold Oper.wp
      rw [o_sto _ _ k4 (s4 l4) rfl (HSDH.out.sub hp.1 c').1]
      exact ⟨g1, g2, k1, k2, k4, fun h => s0 (by simpa [Ord.upd] using h), fun h => s1 (by simpa [Ord.upd] using h), fun h => s2 (by simpa [Ord.upd] using h), .inr ⟨c', er, x, hp, by simpa [Ord.upd] using h3, e70, fun h => s4 (by simpa [Ord.upd] using h), fun h => s5 (by simpa [Ord.upd] using h), fun h => s7 (by simpa [Ord.upd] using h), by simp [Ord.upd]⟩⟩
    | 7, ho, hi =>
      cases ho
      have l3 : L 3 = true := hcl 5 _ rfl (hdep ⟨5, .data⟩ (by simp) rfl) ⟨3, .data⟩ (by simp) rfl
      obtain ⟨c', er, w2, hp, h3, e70, s4, s5, s7, hx⟩ := hx.resolve_left (fun h => by rw [l3] at h; cases h.1)
      refine Ord.wpOp_of rfl rfl (Ord.wp_value (v := .int .i64 er) (w' := x) (o_as _ rfl (s5 (hdep ⟨5, .data⟩ (by simp) rfl))) ?_)
      exact ⟨(Ord.size_put _ 5 _).trans g1, g2, (Ord.eval_put_other _ 5 1 _ (by decide)).trans k1, (Ord.eval_put_other _ 5 2 _ (by decide)).trans k2, (Ord.eval_put_other _ 5 4 _ (by decide)).trans k4, fun h => (Ord.eval_put_other _ 5 67 _ (by decide)).trans (s0 (by simpa [Ord.upd] using h)), fun h => (Ord.eval_put_other _ 5 68 _ (by decide)).trans (s1 (by simpa [Ord.upd] using h)), fun h => (Ord.eval_put_other _ 5 69 _ (by decide)).trans (s2 (by simpa [Ord.upd] using h)), .inr ⟨c', er, w2, hp, by simpa [Ord.upd] using h3, (Ord.eval_put_other _ 5 70 _ (by decide)).trans e70, fun h => (Ord.eval_put_other _ 5 71 _ (by decide)).trans (s4 (by simpa [Ord.upd] using h)), fun h => (Ord.eval_put_other _ 5 72 _ (by decide)).trans (s5 (by simpa [Ord.upd] using h)), fun _ => Ord.eval_put_same _ _ _ (by rw [g1]; decide), by simpa [Ord.upd] using hx⟩⟩
  case refine_2 =>
    intro L L' ac x hL ⟨g1, g2, k1, k2, k4, s0, s1, s2, hx⟩
    rw [hL 0 (by decide)] at s0
    rw [hL 1 (by decide)] at s1
    rw [hL 2 (by decide)] at s2
    rw [hL 3 (by decide), hL 4 (by decide), hL 5 (by decide), hL 6 (by decide), hL 7 (by decide)] at hx
    exact ⟨g1, g2, k1, k2, k4, s0, s1, s2, hx⟩
  case refine_3 =>
    intro ac x ⟨g1, g2, k1, k2, k4, s0, s1, s2, hx⟩
    obtain ⟨c', er, w2, hp, e3, e70, e4, e5, s7, rfl⟩ := hx.resolve_left (fun h => by cases h.1)
    have s7' := s7 rfl
    obtain ⟨t1, t2, t3, t4⟩ := HSDH.out.sub hp.1 c'
    rw [if_pos rfl]
    rename_i hKK
    refine hKK _ _ (wp_ret ?_)
    have h4 : ac.tmps.getD 4 undef = .pointer (some ⟨w.heap.size + 1, 0, none⟩) := k4
    have h5 : ac.tmps.getD 5 undef = .int .i64 er := s7'
    refine (show bodyPost Tryz.prog Tryz.f90 (fun e w' => RdR w v 2 (zch 2 0) e w') .ret ac _ from bodyPost_ret (v := .tuple #[cv c', .int .i64 er]) (cell_res2 Tryz.results90 t2 _ h4 h5) g2 ?_)
    obtain ⟨_, l, q, cd, hO, h⟩ := hp
    rcases h with ⟨h1, rfl⟩ | ⟨h1, h2, h3, rfl⟩ | ⟨h1, h2, rfl, h4', h5'⟩
    · exact RdR.of (W1 := W5.drew) (w2 := w2) (y := val c') (HFil.out l q _ _ _ (by omega) hO (.inl ⟨h1, rfl⟩)) (fun e => absurd e h1) t4 t3
    · rw [HK5.out] at h2
      exact absurd h2 (by decide)
    · exact RdR.of (W1 := W5.drew) (w2 := w2) (HFil.out l q _ _ _ (by omega) hO (.inr ⟨h1, rfl, rfl⟩)) (fun _ => ⟨by rw [h4', HC5.out], h5'⟩) t4 t3
  case refine_4 => exact ⟨rfl, rfl, rfl, rfl, rfl, (fun h => by cases h), (fun h => by cases h), (fun h => by cases h), .inl ⟨rfl, rfl⟩⟩
end Go.Proofs.YtmnndkhdekpecaaGreatDoor.Chu
namespace Go.Proofs.YtmnndkhdekpecaaGreatDoor.Chu
open Go.ChangeShapes Go.WideShapes Go.ChangeAt Go.RowKit
open Par (hidden Bytes Row Prm Prms cell_lt Cap cells_new cutA thrown form_of)
set_option linter.unusedVariables false
attribute [local go_sem ↓] execOp_ld execOp_bx execOp_st
attribute [local go_sem] run_box

theorem rRead (base : Nat) (w : World) (a : Option Addr) (len cap : Nat) (v : List Int) (k f : Int) (hf : 0 ≤ f ∧ f < 256) (hr : Row base w a len v) (hlc : len ≤ cap) (hnn : a = none → len = 0 ∧ cap = 0) :
    Calls Tryz.prog 90 #[cv (kf k f), .slice a len cap] w fun e w' => RdR w v k (zch k (flg k f)) e w' := by
  rcases kind_cases k with rfl | rfl | rfl | rfl | rfl | rfl | rfl | rfl | rfl | rfl | rfl | rfl | rfl | rfl | hk
  · exact read0 base w a len cap v f hf hr hlc hnn
  · exact read1 base w a len cap v f hf hr hlc hnn
  · exact read2 base w a len cap v f hf hr hlc hnn
  · exact read3 base w a len cap v f hf hr hlc hnn
  · exact read4 base w a len cap v f hf hr hlc hnn
  · exact read5 base w a len cap v f hf hr hlc hnn
  · exact read6 base w a len cap v f hf hr hlc hnn
  · exact read7 base w a len cap v f hf hr hlc hnn
  · exact read8 base w a len cap v f hf hr hlc hnn
  · exact read9 base w a len cap v f hf hr hlc hnn
  · exact read10 base w a len cap v f hf hr hlc hnn
  · exact read11 base w a len cap v f hf hr hlc hnn
  · exact read14 base w a len cap v f hf hr hlc hnn
  · exact read16 base w a len cap v f hf hr hlc hnn
  · exact readO base w a len cap v k hk f hf hr hlc hnn
/-- what read tells, as a fact -/
def Tz (W : World) (B : List Int) (k f : Int) (c' : Ck) (er : Int) (x : World) : Prop := ∃ y, Fil k B (zch k (flg k f)) er y ∧ (er = 0 → val c' = y ∧ Lsts W.heap.size x c')
section
variable {a : Act} {o : Oper} {w : World}
theorem o_ia {b off len cap : Nat} (x : Operand) (hx : a.eval x = .slice (some ⟨b, off, none⟩) len cap) (ho : o.op = .indexAddr 27 x (.const (.int .i64 0))) (h : 0 < len) {r : Value} (hr : r = .pointer (some ⟨b, off, none⟩)) : (execOp a.eval o).run Tryz.prog w = .ok (.value r) w := by
  have i1 : (0 : Int) < (len : Int) := by omega
  subst hr
  unfold execOp
  rw [ho]
  simp only [hx]
  go_simp
theorem o_ia1 {b off len cap : Nat} (x : Operand) (hx : a.eval x = .slice (some ⟨b, off, none⟩) len cap) (ho : o.op = .indexAddr 27 x (.const (.int .i64 1))) (h : 1 < len) {r : Value} (hr : r = .pointer (some ⟨b, off + 1, none⟩)) : (execOp a.eval o).run Tryz.prog w = .ok (.value r) w := by
  have i1 : (1 : Int) < (len : Int) := by omega
  subst hr
  unfold execOp
  rw [ho]
  simp only [hx]
  go_simp
theorem o_bc {k f : Int} (x y : Operand) (hx : a.eval x = .int .u8 k) (hy : a.eval y = .int .u8 f) (ho : o.op = .build 59 #[(0, x), (1, y)]) : (execOp a.eval o).run Tryz.prog w = .ok (.value (cv (kf k f))) w := by
  unfold execOp
  rw [ho]
  simp only [List.map_toArray, List.map_cons, List.map_nil, hx, hy]
  go_simp
  rfl
theorem o_sl2 {b off len cap n : Nat} {A : Option Addr} (x : Operand) (t : Nat) (hx : a.eval x = .slice (some ⟨b, off, none⟩) len cap) (hy : a.eval (.tmp t) = .int .i64 (n : Int)) (ho : o.op = .slice 27 x (some (.const (.int .i64 4))) (some (.tmp t)) none) (hA : (if cap = 4 then (some ⟨b, off, none⟩ : Option Addr) else some ⟨b, off + 4, none⟩) = A) (h1 : 4 ≤ n) (h2 : n ≤ len) (h3 : len ≤ cap) : (execOp a.eval o).run Tryz.prog w = .ok (.value (.slice A (n - 4) (cap - 4))) w := by
  have i1 : (4 : Int) ≤ (n : Int) := by omega
  have i2 : (n : Int) ≤ (cap : Int) := by omega
  have i3 : (4 : Int) ≤ (cap : Int) := by omega
  unfold execOp
  have hy2 : a.tmps[t]?.getD undef = .int .i64 (n : Int) := by simpa [Act.eval] using hy
  rw [ho, ← hA]
  simp only [hx]
  go_simp
theorem o_read {u0 u1 : Value} (x y : Operand) (h0 : a.eval x = u0) (h1 : a.eval y = u1) (ho : o.op = .call { callee := .value (.func 90), args := #[x, y], argTypes := #[59, 27] }) : (execOp a.eval o).run Tryz.prog w = .ok (.enter 90 #[u0, u1]) w := by
  unfold execOp
  rw [ho]
  go_simp
  exact ⟨by cases x <;> simpa [Act.eval] using h0, by cases y <;> simpa [Act.eval] using h1⟩
theorem o_al (ho : o.op = .alloc 59) : (execOp a.eval o).run Tryz.prog w = .ok (.value (.pointer (some ⟨w.heap.size, 0, none⟩))) (w.alloc (.cells (cc (zck 0)) 59)) := by
  unfold execOp
  rw [ho]
  go_simp
  rfl
end
theorem uncons {l : List Value} {n : Nat} (h : l.length = n + 1) : ∃ x l', l = x :: l' ∧ l'.length = n := by
  match l, h with
  | x :: l', h => exact ⟨x, l', rfl, by simpa using h⟩
theorem frame50 (a : Act) (h : a.tmps.size = 50) (hd : a.defers = []) : ∃ x0 x1 x2 x3 x4 x5 x6 x7 x8 x9 x10 x11 x12 x13 x14 x15 x16 x17 x18 x19 x20 x21 x22 x23 x24 x25 x26 x27 x28 x29 x30 x31 x32 x33 x34 x35 x36 x37 x38 x39 x40 x41 x42 x43 x44 x45 x46 x47 x48 x49, a = ⟨#[x0, x1, x2, x3, x4, x5, x6, x7, x8, x9, x10, x11, x12, x13, x14, x15, x16, x17, x18, x19, x20, x21, x22, x23, x24, x25, x26, x27, x28, x29, x30, x31, x32, x33, x34, x35, x36, x37, x38, x39, x40, x41, x42, x43, x44, x45, x46, x47, x48, x49], []⟩ := by
  obtain ⟨⟨l⟩, df⟩ := a
  simp only at hd
  subst hd
  simp only [List.size_toArray] at h
  obtain ⟨x0, l0, rfl, h0⟩ := uncons h
  obtain ⟨x1, l1, rfl, h1⟩ := uncons h0
  obtain ⟨x2, l2, rfl, h2⟩ := uncons h1
  obtain ⟨x3, l3, rfl, h3⟩ := uncons h2
  obtain ⟨x4, l4, rfl, h4⟩ := uncons h3
  obtain ⟨x5, l5, rfl, h5⟩ := uncons h4
  obtain ⟨x6, l6, rfl, h6⟩ := uncons h5
  obtain ⟨x7, l7, rfl, h7⟩ := uncons h6
  obtain ⟨x8, l8, rfl, h8⟩ := uncons h7
  obtain ⟨x9, l9, rfl, h9⟩ := uncons h8
  obtain ⟨x10, l10, rfl, h10⟩ := uncons h9
  obtain ⟨x11, l11, rfl, h11⟩ := uncons h10
  obtain ⟨x12, l12, rfl, h12⟩ := uncons h11
  obtain ⟨x13, l13, rfl, h13⟩ := uncons h12
  obtain ⟨x14, l14, rfl, h14⟩ := uncons h13
  obtain ⟨x15, l15, rfl, h15⟩ := uncons h14
  obtain ⟨x16, l16, rfl, h16⟩ := uncons h15
  obtain ⟨x17, l17, rfl, h17⟩ := uncons h16
  obtain ⟨x18, l18, rfl, h18⟩ := uncons h17
  obtain ⟨x19, l19, rfl, h19⟩ := uncons h18
  obtain ⟨x20, l20, rfl, h20⟩ := uncons h19
  obtain ⟨x21, l21, rfl, h21⟩ := uncons h20
  obtain ⟨x22, l22, rfl, h22⟩ := uncons h21
  obtain ⟨x23, l23, rfl, h23⟩ := uncons h22
  obtain ⟨x24, l24, rfl, h24⟩ := uncons h23
  obtain ⟨x25, l25, rfl, h25⟩ := uncons h24
  obtain ⟨x26, l26, rfl, h26⟩ := uncons h25
  obtain ⟨x27, l27, rfl, h27⟩ := uncons h26
  obtain ⟨x28, l28, rfl, h28⟩ := uncons h27
  obtain ⟨x29, l29, rfl, h29⟩ := uncons h28
  obtain ⟨x30, l30, rfl, h30⟩ := uncons h29
  obtain ⟨x31, l31, rfl, h31⟩ := uncons h30
  obtain ⟨x32, l32, rfl, h32⟩ := uncons h31
  obtain ⟨x33, l33, rfl, h33⟩ := uncons h32
  obtain ⟨x34, l34, rfl, h34⟩ := uncons h33
  obtain ⟨x35, l35, rfl, h35⟩ := uncons h34
  obtain ⟨x36, l36, rfl, h36⟩ := uncons h35
  obtain ⟨x37, l37, rfl, h37⟩ := uncons h36
  obtain ⟨x38, l38, rfl, h38⟩ := uncons h37
  obtain ⟨x39, l39, rfl, h39⟩ := uncons h38
  obtain ⟨x40, l40, rfl, h40⟩ := uncons h39
  obtain ⟨x41, l41, rfl, h41⟩ := uncons h40
  obtain ⟨x42, l42, rfl, h42⟩ := uncons h41
  obtain ⟨x43, l43, rfl, h43⟩ := uncons h42
  obtain ⟨x44, l44, rfl, h44⟩ := uncons h43
  obtain ⟨x45, l45, rfl, h45⟩ := uncons h44
  obtain ⟨x46, l46, rfl, h46⟩ := uncons h45
  obtain ⟨x47, l47, rfl, h47⟩ := uncons h46
  obtain ⟨x48, l48, rfl, h48⟩ := uncons h47
  obtain ⟨x49, l49, rfl, h49⟩ := uncons h48
  obtain rfl := List.eq_nil_of_length_eq_zero h49
  exact ⟨x0, x1, x2, x3, x4, x5, x6, x7, x8, x9, x10, x11, x12, x13, x14, x15, x16, x17, x18, x19, x20, x21, x22, x23, x24, x25, x26, x27, x28, x29, x30, x31, x32, x33, x34, x35, x36, x37, x38, x39, x40, x41, x42, x43, x44, x45, x46, x47, x48, x49, rfl⟩
set_option maxRecDepth 20000 in
set_option maxHeartbeats 1000000 in
theorem rDecode (base : Nat) (w : World) (a : Option Addr) (len cap : Nat) (zs : List Int) (hr : Row base w a len zs) (hlc : len ≤ cap) (hnn : a = none → len = 0 ∧ cap = 0) :
    Calls Tryz.prog 60 #[.slice a len cap] w fun e w' => ∃ c m er, e = .returned (.tuple #[cv c, .int .i64 ((m : Nat) : Int), .int .i64 er]) ∧ DecR w zs w' c m er := by
  have b1 : Bx (w.alloc (.cells #[.int .u8 0, .int .u8 0, .int .u32 0, .int .u16 0, .int .u16 0, .int .u32 0, .int .u32 0, .int .u32 0, .int .u16 0, .int .u16 0, .slice none 0 0, .slice none 0 0, .slice none 0 0, .slice none 0 0, .slice none 0 0] 59)) w.heap.size (zck 0) := Bx.new w (zck 0)
  have hb1 : Below w.heap.size w (w.alloc (.cells #[.int .u8 0, .int .u8 0, .int .u32 0, .int .u16 0, .int .u16 0, .int .u32 0, .int .u32 0, .int .u32 0, .int .u16 0, .int .u16 0, .slice none 0 0, .slice none 0 0, .slice none 0 0, .slice none 0 0, .slice none 0 0] 59)) := (Below.refl _ w).alloc (Nat.le_refl _) _
  have hzl := hr.1
  have hlim := hr.2.2.1
  have HBY := hidden hr.2.1
  have HR := hidden hr
  have HX := hidden b1
  have HB := hidden hb1
  clear hr b1 hb1
  have bad : ∀ (W : World), Bx W w.heap.size (zck 0) → Below w.heap.size w W → (sto (.pointer (some ⟨w.heap.size, 0, none⟩)) (.agg #[.int .u8 0, .int .u8 0, .int .u32 0, .int .u16 0, .int .u16 0, .int .u32 0, .int .u32 0, .int .u32 0, .int .u16 0, .int .u16 0, .slice none 0 0, .slice none 0 0, .slice none 0 0, .slice none 0 0, .slice none 0 0])).run Tryz.prog W = .ok () (stoW W w.heap.size (zck 0)) ∧ Bx (stoW W w.heap.size (zck 0)) w.heap.size (zck 0) ∧ Below w.heap.size w (stoW W w.heap.size (zck 0)) := fun W h1 h2 => ⟨sto_run h1 (zck 0), stoW_bx h1 (zck 0), stoW_below (zck 0) h2 (Nat.le_refl _)⟩
  have fin : ∀ (W' : World) (er : Int) (y : Ch), er ≠ 0 → Dec zs er y 0 → Below w.heap.size w W' → DecR w zs W' (zck 0) 0 er := fun W' er y he hd hb => ⟨⟨y, hd, fun h => absurd h he⟩, fun _ => ⟨rfl, rfl⟩, zck_chk _ _, hb⟩
  have FIN := hidden fin
  have BAD := hidden bad
  clear fin bad
  go_enter Tryz.func60, Tryz.ntmps60
  go_upto_region 1 with fail
  generalize hW : World.alloc w _ = W at *
  clear hW
  rcases Nat.lt_or_ge len 4 with h4 | h4
  · have h4' : (len : Int) < 4 := by omega
    obtain ⟨t1, t2, t3⟩ := BAD.out W HX.out HB.out
    have T2 := hidden t2
    have F := hidden (FIN.out _ 60 (zch 0 0) (by decide) (.inl ⟨.inl (by omega), rfl⟩) t3)
    clear t2 t3 BAD FIN
    go_wp2
    exact bodyPost_ret (v := .tuple #[cv (zck 0), .int .i64 ((0 : Nat) : Int), .int .i64 60]) (cell_res3 Tryz.results60 T2.out _ rfl rfl rfl) rfl ⟨zck 0, 0, 60, rfl, F.out⟩
  have h4' : ¬ (len : Int) < 4 := by omega
  have nbd := n2_bound HBY.out 2
  obtain ⟨n, hn⟩ : ∃ n : Nat, n2 zs 2 = (n : Int) := ⟨(n2 zs 2).toNat, by omega⟩
  have GE := rGet2 base W a len cap 2 zs (HR.out.later HB.out) (by omega)
  rw [hn] at GE nbd
  have GE := hidden GE
  have HN := hidden hn
  clear hn
  go_wp2_with fail
  refine Calls.mono GE.out ?_
  rintro e wz ⟨rfl, rfl⟩
  by_cases hc : n < 4 ∨ len < n
  · obtain ⟨t1, t2, t3⟩ := BAD.out W HX.out HB.out
    have T2 := hidden t2
    have F := hidden (FIN.out _ 60 (zch 0 0) (by decide) (.inl ⟨.inr (by rw [HN.out]; omega), rfl⟩) t3)
    clear t2 t3 BAD FIN
    rcases Nat.lt_or_ge n 4 with h5 | h5
    · have h5' : (n : Int) < 4 := by omega
      clear hc
      go_wp2
      exact bodyPost_ret (v := .tuple #[cv (zck 0), .int .i64 ((0 : Nat) : Int), .int .i64 60]) (cell_res3 Tryz.results60 T2.out _ rfl rfl rfl) rfl ⟨zck 0, 0, 60, rfl, F.out⟩
    · have h5' : ¬ (n : Int) < 4 := by omega
      have h6' : (len : Int) < (n : Int) := by omega
      clear hc
      go_wp2
      exact bodyPost_ret (v := .tuple #[cv (zck 0), .int .i64 ((0 : Nat) : Int), .int .i64 60]) (cell_res3 Tryz.results60 T2.out _ rfl rfl rfl) rfl ⟨zck 0, 0, 60, rfl, F.out⟩
  have h5 : 4 ≤ n := by omega
  have h6 : n ≤ len := by omega
  have h5' : ¬ (n : Int) < 4 := by omega
  have h6' : ¬ (len : Int) < (n : Int) := by omega
  have HCUT := hidden (show ¬ Cut zs by unfold Cut; rw [HN.out]; omega)
  clear hc
  obtain ⟨b, off, rfl, _, _⟩ := HR.out.2.2.2.resolve_left (by omega)
  obtain ⟨A4, hA4⟩ : ∃ A4, (if cap = 4 then (some ⟨b, off, none⟩ : Option Addr) else some ⟨b, off + 4, none⟩) = A4 := ⟨_, rfl⟩
  have HA4 := hidden (show cutA (some ⟨b, off, none⟩) cap 4 = A4 by rw [← hA4]; unfold cutA Addr.add; rfl)
  obtain ⟨B, hB⟩ : ∃ B, body zs = B := ⟨_, rfl⟩
  have hBe : (zs.drop 4).take (n - 4) = B := by rw [← hB, body_eq zs (n - 4) (by rw [HN.out]; omega)]
  have HRB := hidden (show ∀ x, Below W.heap.size W x → Row base x A4 (n - 4) B from fun x hx => by
    rw [← HA4.out, ← hBe]
    exact row_take (Par.cutA_row ((HR.out.later HB.out).later hx) (by omega) hlc hnn) (n - 4) (by omega))
  have HNA := hidden (show A4 = none → n - 4 = 0 ∧ cap - 4 = 0 from fun h => by rw [← HA4.out] at h; have := Par.cutA_none (k := 4) hnn h; omega)
  generalize hk : zs.getD 0 0 = k at *
  generalize hf : zs.getD 1 0 = f at *
  have kb : 0 ≤ k ∧ k < 256 := by rw [← hk]; exact Par.at_bound zs HBY.out 0
  have fb : 0 ≤ f ∧ f < 256 := by rw [← hf]; exact Par.at_bound zs HBY.out 1
  have c0 : ∀ x, Below W.heap.size W x → x.cell? ⟨b, off, none⟩ = some (.int .u8 k) := fun x hx => by
    obtain ⟨b', off', e, hc⟩ := row_cell (HR.out.later HB.out) hx (j := 0) (by omega)
    cases e
    rw [← hk]
    exact hc
  have c1 : ∀ x, Below W.heap.size W x → x.cell? ⟨b, off + 1, none⟩ = some (.int .u8 f) := fun x hx => by
    obtain ⟨b', off', e, hc⟩ := row_cell (HR.out.later HB.out) hx (j := 1) (by omega)
    cases e
    rw [← hf]
    exact hc
  have RD := hidden (show ∀ x, Below W.heap.size W x → Calls Tryz.prog 90 #[cv (kf k f), .slice A4 (n - 4) (cap - 4)] x fun e w' => RdR x B k (zch k (flg k f)) e w' from fun x hx => rRead base x A4 (n - 4) (cap - 4) B k f fb (HRB.out x hx) (by omega) HNA.out)
  go_upto_region 6 with fail
  refine Ord.wp_region_allC (by kernel_rfl) [0, 1, 2, 3, 4, 5, 6, 7, 8, 9, 10, 11, 12, 13, 14, 15, 16] (fun L ac x => ac.tmps.size = 50 ∧ ac.defers = [] ∧ ac.eval (.tmp 0) = .slice (some ⟨b, off, none⟩) len cap ∧ ac.eval (.tmp 2) = .pointer (some ⟨w.heap.size, 0, none⟩) ∧ ac.eval (.tmp 3) = .int .i64 0 ∧ ac.eval (.tmp 4) = .int .i64 0 ∧ ac.eval (.tmp 5) = .int .i64 (n : Int) ∧ (L 0 = true → ac.eval (.tmp 25) = .slice (some ⟨b, off, none⟩) len cap) ∧ (L 1 = true → ac.eval (.tmp 26) = .pointer (some ⟨b, off, none⟩)) ∧ (L 2 = true → ac.eval (.tmp 27) = .int .u8 k) ∧ (L 3 = true → ac.eval (.tmp 28) = .slice (some ⟨b, off, none⟩) len cap) ∧ (L 4 = true → ac.eval (.tmp 29) = .pointer (some ⟨b, off + 1, none⟩)) ∧ (L 5 = true → ac.eval (.tmp 30) = .int .u8 f) ∧ (L 6 = true → ac.eval (.tmp 31) = cv (kf k f)) ∧ (L 7 = true → ac.eval (.tmp 32) = .slice (some ⟨b, off, none⟩) len cap) ∧ (L 8 = true → ac.eval (.tmp 33) = .int .i64 (n : Int)) ∧ (L 9 = true → ac.eval (.tmp 34) = .slice A4 (n - 4) (cap - 4)) ∧ Below W.heap.size W x ∧ ∃ p c' er, (L 14 = true → ac.eval (.tmp 6) = .pointer (some ⟨p, 0, none⟩) ∧ W.heap.size ≤ p ∧ Bx x p (if L 15 = true then c' else zck 0)) ∧ (L 10 = true → ac.eval (.tmp 35) = .tuple #[cv c', .int .i64 er] ∧ Tz W B k f c' er x ∧ (L 14 = true → er = 0 → AvC (some p) c')) ∧ (L 11 = true → ac.eval (.tmp 24) = .tuple #[cv c', .int .i64 er]) ∧ (L 12 = true → ac.eval (.tmp 36) = cv c') ∧ (L 13 = true → ac.eval (.tmp 37) = .int .i64 er) ∧ (L 16 = true → ac.eval (.tmp 7) = .int .i64 er)) (by kernel_rfl) ?_ ?_ ?_ ?_
  case refine_1 =>
    intro L i o ac x ho hi hcl hdep hG
    obtain ⟨g1, g2, k0, k2, k3, k4, k5, f0, f1, f2, f3, f4, f5, f6, f7, f8, f9, bx, p, c', er, e14, e10, e11, e12, e13, e16⟩ := hG
    match i, ho, hi with
    | 0, ho, hi =>
      cases ho
      refine Ord.wpOp_of rfl rfl (Ord.wp_value (v := .slice (some ⟨b, off, none⟩) len cap) (w' := x) (o_mv _ rfl k0) ?_)
      exact ⟨(Ord.size_put _ 25 _).trans g1, g2, (Ord.eval_put_other _ 25 0 _ (by decide)).trans k0, (Ord.eval_put_other _ 25 2 _ (by decide)).trans k2, (Ord.eval_put_other _ 25 3 _ (by decide)).trans k3, (Ord.eval_put_other _ 25 4 _ (by decide)).trans k4, (Ord.eval_put_other _ 25 5 _ (by decide)).trans k5, fun _ => Ord.eval_put_same _ _ _ (by rw [g1]; decide), fun h => (Ord.eval_put_other _ 25 26 _ (by decide)).trans (f1 (by simpa [Ord.upd] using h)), fun h => (Ord.eval_put_other _ 25 27 _ (by decide)).trans (f2 (by simpa [Ord.upd] using h)), fun h => (Ord.eval_put_other _ 25 28 _ (by decide)).trans (f3 (by simpa [Ord.upd] using h)), fun h => (Ord.eval_put_other _ 25 29 _ (by decide)).trans (f4 (by simpa [Ord.upd] using h)), fun h => (Ord.eval_put_other _ 25 30 _ (by decide)).trans (f5 (by simpa [Ord.upd] using h)), fun h => (Ord.eval_put_other _ 25 31 _ (by decide)).trans (f6 (by simpa [Ord.upd] using h)), fun h => (Ord.eval_put_other _ 25 32 _ (by decide)).trans (f7 (by simpa [Ord.upd] using h)), fun h => (Ord.eval_put_other _ 25 33 _ (by decide)).trans (f8 (by simpa [Ord.upd] using h)), fun h => (Ord.eval_put_other _ 25 34 _ (by decide)).trans (f9 (by simpa [Ord.upd] using h)), bx, p, c', er, fun h => by
          obtain ⟨q1, q2, q3⟩ := e14 (by simpa [Ord.upd] using h)
          exact ⟨(Ord.eval_put_other _ 25 6 _ (by decide)).trans q1, q2, by simpa [Ord.upd] using q3⟩,
        fun h => by
          obtain ⟨q1, q2, q3⟩ := e10 (by simpa [Ord.upd] using h)
          exact ⟨(Ord.eval_put_other _ 25 35 _ (by decide)).trans q1, q2, fun h' => q3 (by simpa [Ord.upd] using h')⟩,
        fun h => (Ord.eval_put_other _ 25 24 _ (by decide)).trans (e11 (by simpa [Ord.upd] using h)),
        fun h => (Ord.eval_put_other _ 25 36 _ (by decide)).trans (e12 (by simpa [Ord.upd] using h)),
        fun h => (Ord.eval_put_other _ 25 37 _ (by decide)).trans (e13 (by simpa [Ord.upd] using h)),
        fun h => (Ord.eval_put_other _ 25 7 _ (by decide)).trans (e16 (by simpa [Ord.upd] using h))⟩
    | 1, ho, hi =>
      cases ho
      have da := f0 (hdep ⟨0, .data⟩ (by simp) rfl)
      refine Ord.wpOp_of rfl rfl (Ord.wp_value (v := .pointer (some ⟨b, off, none⟩)) (w' := x) (o_ia _ da rfl (by omega) rfl) ?_)
      exact ⟨(Ord.size_put _ 26 _).trans g1, g2, (Ord.eval_put_other _ 26 0 _ (by decide)).trans k0, (Ord.eval_put_other _ 26 2 _ (by decide)).trans k2, (Ord.eval_put_other _ 26 3 _ (by decide)).trans k3, (Ord.eval_put_other _ 26 4 _ (by decide)).trans k4, (Ord.eval_put_other _ 26 5 _ (by decide)).trans k5, fun h => (Ord.eval_put_other _ 26 25 _ (by decide)).trans (f0 (by simpa [Ord.upd] using h)), fun _ => Ord.eval_put_same _ _ _ (by rw [g1]; decide), fun h => (Ord.eval_put_other _ 26 27 _ (by decide)).trans (f2 (by simpa [Ord.upd] using h)), fun h => (Ord.eval_put_other _ 26 28 _ (by decide)).trans (f3 (by simpa [Ord.upd] using h)), fun h => (Ord.eval_put_other _ 26 29 _ (by decide)).trans (f4 (by simpa [Ord.upd] using h)), fun h => (Ord.eval_put_other _ 26 30 _ (by decide)).trans (f5 (by simpa [Ord.upd] using h)), fun h => (Ord.eval_put_other _ 26 31 _ (by decide)).trans (f6 (by simpa [Ord.upd] using h)), fun h => (Ord.eval_put_other _ 26 32 _ (by decide)).trans (f7 (by simpa [Ord.upd] using h)), fun h => (Ord.eval_put_other _ 26 33 _ (by decide)).trans (f8 (by simpa [Ord.upd] using h)), fun h => (Ord.eval_put_other _ 26 34 _ (by decide)).trans (f9 (by simpa [Ord.upd] using h)), bx, p, c', er, fun h => by
          obtain ⟨q1, q2, q3⟩ := e14 (by simpa [Ord.upd] using h)
          exact ⟨(Ord.eval_put_other _ 26 6 _ (by decide)).trans q1, q2, by simpa [Ord.upd] using q3⟩,
        fun h => by
          obtain ⟨q1, q2, q3⟩ := e10 (by simpa [Ord.upd] using h)
          exact ⟨(Ord.eval_put_other _ 26 35 _ (by decide)).trans q1, q2, fun h' => q3 (by simpa [Ord.upd] using h')⟩,
        fun h => (Ord.eval_put_other _ 26 24 _ (by decide)).trans (e11 (by simpa [Ord.upd] using h)),
        fun h => (Ord.eval_put_other _ 26 36 _ (by decide)).trans (e12 (by simpa [Ord.upd] using h)),
        fun h => (Ord.eval_put_other _ 26 37 _ (by decide)).trans (e13 (by simpa [Ord.upd] using h)),
        fun h => (Ord.eval_put_other _ 26 7 _ (by decide)).trans (e16 (by simpa [Ord.upd] using h))⟩
    | 2, ho, hi =>
      cases ho
      have da := f1 (hdep ⟨1, .data⟩ (by simp) rfl)
      refine Ord.wpOp_of rfl rfl (Ord.wp_value (v := .int .u8 k) (w' := x) (e_ld _ da rfl (ld8 _ _ _ (c0 x bx))) ?_)
      exact ⟨(Ord.size_put _ 27 _).trans g1, g2, (Ord.eval_put_other _ 27 0 _ (by decide)).trans k0, (Ord.eval_put_other _ 27 2 _ (by decide)).trans k2, (Ord.eval_put_other _ 27 3 _ (by decide)).trans k3, (Ord.eval_put_other _ 27 4 _ (by decide)).trans k4, (Ord.eval_put_other _ 27 5 _ (by decide)).trans k5, fun h => (Ord.eval_put_other _ 27 25 _ (by decide)).trans (f0 (by simpa [Ord.upd] using h)), fun h => (Ord.eval_put_other _ 27 26 _ (by decide)).trans (f1 (by simpa [Ord.upd] using h)), fun _ => Ord.eval_put_same _ _ _ (by rw [g1]; decide), fun h => (Ord.eval_put_other _ 27 28 _ (by decide)).trans (f3 (by simpa [Ord.upd] using h)), fun h => (Ord.eval_put_other _ 27 29 _ (by decide)).trans (f4 (by simpa [Ord.upd] using h)), fun h => (Ord.eval_put_other _ 27 30 _ (by decide)).trans (f5 (by simpa [Ord.upd] using h)), fun h => (Ord.eval_put_other _ 27 31 _ (by decide)).trans (f6 (by simpa [Ord.upd] using h)), fun h => (Ord.eval_put_other _ 27 32 _ (by decide)).trans (f7 (by simpa [Ord.upd] using h)), fun h => (Ord.eval_put_other _ 27 33 _ (by decide)).trans (f8 (by simpa [Ord.upd] using h)), fun h => (Ord.eval_put_other _ 27 34 _ (by decide)).trans (f9 (by simpa [Ord.upd] using h)), bx, p, c', er, fun h => by
          obtain ⟨q1, q2, q3⟩ := e14 (by simpa [Ord.upd] using h)
          exact ⟨(Ord.eval_put_other _ 27 6 _ (by decide)).trans q1, q2, by simpa [Ord.upd] using q3⟩,
        fun h => by
          obtain ⟨q1, q2, q3⟩ := e10 (by simpa [Ord.upd] using h)
          exact ⟨(Ord.eval_put_other _ 27 35 _ (by decide)).trans q1, q2, fun h' => q3 (by simpa [Ord.upd] using h')⟩,
        fun h => (Ord.eval_put_other _ 27 24 _ (by decide)).trans (e11 (by simpa [Ord.upd] using h)),
        fun h => (Ord.eval_put_other _ 27 36 _ (by decide)).trans (e12 (by simpa [Ord.upd] using h)),
        fun h => (Ord.eval_put_other _ 27 37 _ (by decide)).trans (e13 (by simpa [Ord.upd] using h)),
        fun h => (Ord.eval_put_other _ 27 7 _ (by decide)).trans (e16 (by simpa [Ord.upd] using h))⟩
    | 3, ho, hi =>
      cases ho
      refine Ord.wpOp_of rfl rfl (Ord.wp_value (v := .slice (some ⟨b, off, none⟩) len cap) (w' := x) (o_mv _ rfl k0) ?_)
      exact ⟨(Ord.size_put _ 28 _).trans g1, g2, (Ord.eval_put_other _ 28 0 _ (by decide)).trans k0, (Ord.eval_put_other _ 28 2 _ (by decide)).trans k2, (Ord.eval_put_other _ 28 3 _ (by decide)).trans k3, (Ord.eval_put_other _ 28 4 _ (by decide)).trans k4, (Ord.eval_put_other _ 28 5 _ (by decide)).trans k5, fun h => (Ord.eval_put_other _ 28 25 _ (by decide)).trans (f0 (by simpa [Ord.upd] using h)), fun h => (Ord.eval_put_other _ 28 26 _ (by decide)).trans (f1 (by simpa [Ord.upd] using h)), fun h => (Ord.eval_put_other _ 28 27 _ (by decide)).trans (f2 (by simpa [Ord.upd] using h)), fun _ => Ord.eval_put_same _ _ _ (by rw [g1]; decide), fun h => (Ord.eval_put_other _ 28 29 _ (by decide)).trans (f4 (by simpa [Ord.upd] using h)), fun h => (Ord.eval_put_other _ 28 30 _ (by decide)).trans (f5 (by simpa [Ord.upd] using h)), fun h => (Ord.eval_put_other _ 28 31 _ (by decide)).trans (f6 (by simpa [Ord.upd] using h)), fun h => (Ord.eval_put_other _ 28 32 _ (by decide)).trans (f7 (by simpa [Ord.upd] using h)), fun h => (Ord.eval_put_other _ 28 33 _ (by decide)).trans (f8 (by simpa [Ord.upd] using h)), fun h => (Ord.eval_put_other _ 28 34 _ (by decide)).trans (f9 (by simpa [Ord.upd] using h)), bx, p, c', er, fun h => by
          obtain ⟨q1, q2, q3⟩ := e14 (by simpa [Ord.upd] using h)
          exact ⟨(Ord.eval_put_other _ 28 6 _ (by decide)).trans q1, q2, by simpa [Ord.upd] using q3⟩,
        fun h => by
          obtain ⟨q1, q2, q3⟩ := e10 (by simpa [Ord.upd] using h)
          exact ⟨(Ord.eval_put_other _ 28 35 _ (by decide)).trans q1, q2, fun h' => q3 (by simpa [Ord.upd] using h')⟩,
        fun h => (Ord.eval_put_other _ 28 24 _ (by decide)).trans (e11 (by simpa [Ord.upd] using h)),
        fun h => (Ord.eval_put_other _ 28 36 _ (by decide)).trans (e12 (by simpa [Ord.upd] using h)),
        fun h => (Ord.eval_put_other _ 28 37 _ (by decide)).trans (e13 (by simpa [Ord.upd] using h)),
        fun h => (Ord.eval_put_other _ 28 7 _ (by decide)).trans (e16 (by simpa [Ord.upd] using h))⟩
    | 4, ho, hi =>
      cases ho
      have da := f3 (hdep ⟨3, .data⟩ (by simp) rfl)
      refine Ord.wpOp_of rfl rfl (Ord.wp_value (v := .pointer (some ⟨b, off + 1, none⟩)) (w' := x) (o_ia1 _ da rfl (by omega) rfl) ?_)
      exact ⟨(Ord.size_put _ 29 _).trans g1, g2, (Ord.eval_put_other _ 29 0 _ (by decide)).trans k0, (Ord.eval_put_other _ 29 2 _ (by decide)).trans k2, (Ord.eval_put_other _ 29 3 _ (by decide)).trans k3, (Ord.eval_put_other _ 29 4 _ (by decide)).trans k4, (Ord.eval_put_other _ 29 5 _ (by decide)).trans k5, fun h => (Ord.eval_put_other _ 29 25 _ (by decide)).trans (f0 (by simpa [Ord.upd] using h)), fun h => (Ord.eval_put_other _ 29 26 _ (by decide)).trans (f1 (by simpa [Ord.upd] using h)), fun h => (Ord.eval_put_other _ 29 27 _ (by decide)).trans (f2 (by simpa [Ord.upd] using h)), fun h => (Ord.eval_put_other _ 29 28 _ (by decide)).trans (f3 (by simpa [Ord.upd] using h)), fun _ => Ord.eval_put_same _ _ _ (by rw [g1]; decide), fun h => (Ord.eval_put_other _ 29 30 _ (by decide)).trans (f5 (by simpa [Ord.upd] using h)), fun h => (Ord.eval_put_other _ 29 31 _ (by decide)).trans (f6 (by simpa [Ord.upd] using h)), fun h => (Ord.eval_put_other _ 29 32 _ (by decide)).trans (f7 (by simpa [Ord.upd] using h)), fun h => (Ord.eval_put_other _ 29 33 _ (by decide)).trans (f8 (by simpa [Ord.upd] using h)), fun h => (Ord.eval_put_other _ 29 34 _ (by decide)).trans (f9 (by simpa [Ord.upd] using h)), bx, p, c', er, fun h => by
          obtain ⟨q1, q2, q3⟩ := e14 (by simpa [Ord.upd] using h)
          exact ⟨(Ord.eval_put_other _ 29 6 _ (by decide)).trans q1, q2, by simpa [Ord.upd] using q3⟩,
        fun h => by
          obtain ⟨q1, q2, q3⟩ := e10 (by simpa [Ord.upd] using h)
          exact ⟨(Ord.eval_put_other _ 29 35 _ (by decide)).trans q1, q2, fun h' => q3 (by simpa [Ord.upd] using h')⟩,
        fun h => (Ord.eval_put_other _ 29 24 _ (by decide)).trans (e11 (by simpa [Ord.upd] using h)),
        fun h => (Ord.eval_put_other _ 29 36 _ (by decide)).trans (e12 (by simpa [Ord.upd] using h)),
        fun h => (Ord.eval_put_other _ 29 37 _ (by decide)).trans (e13 (by simpa [Ord.upd] using h)),
        fun h => (Ord.eval_put_other _ 29 7 _ (by decide)).trans (e16 (by simpa [Ord.upd] using h))⟩
    | 5, ho, hi =>
      cases ho
      have da := f4 (hdep ⟨4, .data⟩ (by simp) rfl)
      refine Ord.wpOp_of rfl rfl (Ord.wp_value (v := .int .u8 f) (w' := x) (e_ld _ da rfl (ld8 _ _ _ (c1 x bx))) ?_)
      exact ⟨(Ord.size_put _ 30 _).trans g1, g2, (Ord.eval_put_other _ 30 0 _ (by decide)).trans k0, (Ord.eval_put_other _ 30 2 _ (by decide)).trans k2, (Ord.eval_put_other _ 30 3 _ (by decide)).trans k3, (Ord.eval_put_other _ 30 4 _ (by decide)).trans k4, (Ord.eval_put_other _ 30 5 _ (by decide)).trans k5, fun h => (Ord.eval_put_other _ 30 25 _ (by decide)).trans (f0 (by simpa [Ord.upd] using h)), fun h => (Ord.eval_put_other _ 30 26 _ (by decide)).trans (f1 (by simpa [Ord.upd] using h)), fun h => (Ord.eval_put_other _ 30 27 _ (by decide)).trans (f2 (by simpa [Ord.upd] using h)), fun h => (Ord.eval_put_other _ 30 28 _ (by decide)).trans (f3 (by simpa [Ord.upd] using h)), fun h => (Ord.eval_put_other _ 30 29 _ (by decide)).trans (f4 (by simpa [Ord.upd] using h)), fun _ => Ord.eval_put_same _ _ _ (by rw [g1]; decide), fun h => (Ord.eval_put_other _ 30 31 _ (by decide)).trans (f6 (by simpa [Ord.upd] using h)), fun h => (Ord.eval_put_other _ 30 32 _ (by decide)).trans (f7 (by simpa [Ord.upd] using h)), fun h => (Ord.eval_put_other _ 30 33 _ (by decide)).trans (f8 (by simpa [Ord.upd] using h)), fun h => (Ord.eval_put_other _ 30 34 _ (by decide)).trans (f9 (by simpa [Ord.upd] using h)), bx, p, c', er, fun h => by
          obtain ⟨q1, q2, q3⟩ := e14 (by simpa [Ord.upd] using h)
          exact ⟨(Ord.eval_put_other _ 30 6 _ (by decide)).trans q1, q2, by simpa [Ord.upd] using q3⟩,
        fun h => by
          obtain ⟨q1, q2, q3⟩ := e10 (by simpa [Ord.upd] using h)
          exact ⟨(Ord.eval_put_other _ 30 35 _ (by decide)).trans q1, q2, fun h' => q3 (by simpa [Ord.upd] using h')⟩,
        fun h => (Ord.eval_put_other _ 30 24 _ (by decide)).trans (e11 (by simpa [Ord.upd] using h)),
        fun h => (Ord.eval_put_other _ 30 36 _ (by decide)).trans (e12 (by simpa [Ord.upd] using h)),
        fun h => (Ord.eval_put_other _ 30 37 _ (by decide)).trans (e13 (by simpa [Ord.upd] using h)),
        fun h => (Ord.eval_put_other _ 30 7 _ (by decide)).trans (e16 (by simpa [Ord.upd] using h))⟩
    | 6, ho, hi =>
      cases ho
      have da := f2 (hdep ⟨2, .data⟩ (by simp) rfl)
      have db := f5 (hdep ⟨5, .data⟩ (by simp) rfl)
      refine Ord.wpOp_of rfl rfl (Ord.wp_value (v := cv (kf k f)) (w' := x) (o_bc _ _ da db rfl) ?_)
      exact ⟨(Ord.size_put _ 31 _).trans g1, g2, (Ord.eval_put_other _ 31 0 _ (by decide)).trans k0, (Ord.eval_put_other _ 31 2 _ (by decide)).trans k2, (Ord.eval_put_other _ 31 3 _ (by decide)).trans k3, (Ord.eval_put_other _ 31 4 _ (by decide)).trans k4, (Ord.eval_put_other _ 31 5 _ (by decide)).trans k5, fun h => (Ord.eval_put_other _ 31 25 _ (by decide)).trans (f0 (by simpa [Ord.upd] using h)), fun h => (Ord.eval_put_other _ 31 26 _ (by decide)).trans (f1 (by simpa [Ord.upd] using h)), fun h => (Ord.eval_put_other _ 31 27 _ (by decide)).trans (f2 (by simpa [Ord.upd] using h)), fun h => (Ord.eval_put_other _ 31 28 _ (by decide)).trans (f3 (by simpa [Ord.upd] using h)), fun h => (Ord.eval_put_other _ 31 29 _ (by decide)).trans (f4 (by simpa [Ord.upd] using h)), fun h => (Ord.eval_put_other _ 31 30 _ (by decide)).trans (f5 (by simpa [Ord.upd] using h)), fun _ => Ord.eval_put_same _ _ _ (by rw [g1]; decide), fun h => (Ord.eval_put_other _ 31 32 _ (by decide)).trans (f7 (by simpa [Ord.upd] using h)), fun h => (Ord.eval_put_other _ 31 33 _ (by decide)).trans (f8 (by simpa [Ord.upd] using h)), fun h => (Ord.eval_put_other _ 31 34 _ (by decide)).trans (f9 (by simpa [Ord.upd] using h)), bx, p, c', er, fun h => by
          obtain ⟨q1, q2, q3⟩ := e14 (by simpa [Ord.upd] using h)
          exact ⟨(Ord.eval_put_other _ 31 6 _ (by decide)).trans q1, q2, by simpa [Ord.upd] using q3⟩,
        fun h => by
          obtain ⟨q1, q2, q3⟩ := e10 (by simpa [Ord.upd] using h)
          exact ⟨(Ord.eval_put_other _ 31 35 _ (by decide)).trans q1, q2, fun h' => q3 (by simpa [Ord.upd] using h')⟩,
        fun h => (Ord.eval_put_other _ 31 24 _ (by decide)).trans (e11 (by simpa [Ord.upd] using h)),
        fun h => (Ord.eval_put_other _ 31 36 _ (by decide)).trans (e12 (by simpa [Ord.upd] using h)),
        fun h => (Ord.eval_put_other _ 31 37 _ (by decide)).trans (e13 (by simpa [Ord.upd] using h)),
        fun h => (Ord.eval_put_other _ 31 7 _ (by decide)).trans (e16 (by simpa [Ord.upd] using h))⟩
    | 7, ho, hi =>
      cases ho
      refine Ord.wpOp_of rfl rfl (Ord.wp_value (v := .slice (some ⟨b, off, none⟩) len cap) (w' := x) (o_mv _ rfl k0) ?_)
      exact ⟨(Ord.size_put _ 32 _).trans g1, g2, (Ord.eval_put_other _ 32 0 _ (by decide)).trans k0, (Ord.eval_put_other _ 32 2 _ (by decide)).trans k2, (Ord.eval_put_other _ 32 3 _ (by decide)).trans k3, (Ord.eval_put_other _ 32 4 _ (by decide)).trans k4, (Ord.eval_put_other _ 32 5 _ (by decide)).trans k5, fun h => (Ord.eval_put_other _ 32 25 _ (by decide)).trans (f0 (by simpa [Ord.upd] using h)), fun h => (Ord.eval_put_other _ 32 26 _ (by decide)).trans (f1 (by simpa [Ord.upd] using h)), fun h => (Ord.eval_put_other _ 32 27 _ (by decide)).trans (f2 (by simpa [Ord.upd] using h)), fun h => (Ord.eval_put_other _ 32 28 _ (by decide)).trans (f3 (by simpa [Ord.upd] using h)), fun h => (Ord.eval_put_other _ 32 29 _ (by decide)).trans (f4 (by simpa [Ord.upd] using h)), fun h => (Ord.eval_put_other _ 32 30 _ (by decide)).trans (f5 (by simpa [Ord.upd] using h)), fun h => (Ord.eval_put_other _ 32 31 _ (by decide)).trans (f6 (by simpa [Ord.upd] using h)), fun _ => Ord.eval_put_same _ _ _ (by rw [g1]; decide), fun h => (Ord.eval_put_other _ 32 33 _ (by decide)).trans (f8 (by simpa [Ord.upd] using h)), fun h => (Ord.eval_put_other _ 32 34 _ (by decide)).trans (f9 (by simpa [Ord.upd] using h)), bx, p, c', er, fun h => by
          obtain ⟨q1, q2, q3⟩ := e14 (by simpa [Ord.upd] using h)
          exact ⟨(Ord.eval_put_other _ 32 6 _ (by decide)).trans q1, q2, by simpa [Ord.upd] using q3⟩,
        fun h => by
          obtain ⟨q1, q2, q3⟩ := e10 (by simpa [Ord.upd] using h)
          exact ⟨(Ord.eval_put_other _ 32 35 _ (by decide)).trans q1, q2, fun h' => q3 (by simpa [Ord.upd] using h')⟩,
        fun h => (Ord.eval_put_other _ 32 24 _ (by decide)).trans (e11 (by simpa [Ord.upd] using h)),
        fun h => (Ord.eval_put_other _ 32 36 _ (by decide)).trans (e12 (by simpa [Ord.upd] using h)),
        fun h => (Ord.eval_put_other _ 32 37 _ (by decide)).trans (e13 (by simpa [Ord.upd] using h)),
        fun h => (Ord.eval_put_other _ 32 7 _ (by decide)).trans (e16 (by simpa [Ord.upd] using h))⟩
    | 8, ho, hi =>
      cases ho
      refine Ord.wpOp_of rfl rfl (Ord.wp_value (v := .int .i64 (n : Int)) (w' := x) (o_mv _ rfl k5) ?_)
      exact ⟨(Ord.size_put _ 33 _).trans g1, g2, (Ord.eval_put_other _ 33 0 _ (by decide)).trans k0, (Ord.eval_put_other _ 33 2 _ (by decide)).trans k2, (Ord.eval_put_other _ 33 3 _ (by decide)).trans k3, (Ord.eval_put_other _ 33 4 _ (by decide)).trans k4, (Ord.eval_put_other _ 33 5 _ (by decide)).trans k5, fun h => (Ord.eval_put_other _ 33 25 _ (by decide)).trans (f0 (by simpa [Ord.upd] using h)), fun h => (Ord.eval_put_other _ 33 26 _ (by decide)).trans (f1 (by simpa [Ord.upd] using h)), fun h => (Ord.eval_put_other _ 33 27 _ (by decide)).trans (f2 (by simpa [Ord.upd] using h)), fun h => (Ord.eval_put_other _ 33 28 _ (by decide)).trans (f3 (by simpa [Ord.upd] using h)), fun h => (Ord.eval_put_other _ 33 29 _ (by decide)).trans (f4 (by simpa [Ord.upd] using h)), fun h => (Ord.eval_put_other _ 33 30 _ (by decide)).trans (f5 (by simpa [Ord.upd] using h)), fun h => (Ord.eval_put_other _ 33 31 _ (by decide)).trans (f6 (by simpa [Ord.upd] using h)), fun h => (Ord.eval_put_other _ 33 32 _ (by decide)).trans (f7 (by simpa [Ord.upd] using h)), fun _ => Ord.eval_put_same _ _ _ (by rw [g1]; decide), fun h => (Ord.eval_put_other _ 33 34 _ (by decide)).trans (f9 (by simpa [Ord.upd] using h)), bx, p, c', er, fun h => by
          obtain ⟨q1, q2, q3⟩ := e14 (by simpa [Ord.upd] using h)
          exact ⟨(Ord.eval_put_other _ 33 6 _ (by decide)).trans q1, q2, by simpa [Ord.upd] using q3⟩,
        fun h => by
          obtain ⟨q1, q2, q3⟩ := e10 (by simpa [Ord.upd] using h)
          exact ⟨(Ord.eval_put_other _ 33 35 _ (by decide)).trans q1, q2, fun h' => q3 (by simpa [Ord.upd] using h')⟩,
        fun h => (Ord.eval_put_other _ 33 24 _ (by decide)).trans (e11 (by simpa [Ord.upd] using h)),
        fun h => (Ord.eval_put_other _ 33 36 _ (by decide)).trans (e12 (by simpa [Ord.upd] using h)),
        fun h => (Ord.eval_put_other _ 33 37 _ (by decide)).trans (e13 (by simpa [Ord.upd] using h)),
        fun h => (Ord.eval_put_other _ 33 7 _ (by decide)).trans (e16 (by simpa [Ord.upd] using h))⟩
    | 9, ho, hi =>
      cases ho
      have da := f7 (hdep ⟨7, .data⟩ (by simp) rfl)
      have db := f8 (hdep ⟨8, .data⟩ (by simp) rfl)
      refine Ord.wpOp_of rfl rfl (Ord.wp_value (v := .slice A4 (n - 4) (cap - 4)) (w' := x) (o_sl2 _ _ da db rfl hA4 (by omega) (by omega) (by omega)) ?_)
      exact ⟨(Ord.size_put _ 34 _).trans g1, g2, (Ord.eval_put_other _ 34 0 _ (by decide)).trans k0, (Ord.eval_put_other _ 34 2 _ (by decide)).trans k2, (Ord.eval_put_other _ 34 3 _ (by decide)).trans k3, (Ord.eval_put_other _ 34 4 _ (by decide)).trans k4, (Ord.eval_put_other _ 34 5 _ (by decide)).trans k5, fun h => (Ord.eval_put_other _ 34 25 _ (by decide)).trans (f0 (by simpa [Ord.upd] using h)), fun h => (Ord.eval_put_other _ 34 26 _ (by decide)).trans (f1 (by simpa [Ord.upd] using h)), fun h => (Ord.eval_put_other _ 34 27 _ (by decide)).trans (f2 (by simpa [Ord.upd] using h)), fun h => (Ord.eval_put_other _ 34 28 _ (by decide)).trans (f3 (by simpa [Ord.upd] using h)), fun h => (Ord.eval_put_other _ 34 29 _ (by decide)).trans (f4 (by simpa [Ord.upd] using h)), fun h => (Ord.eval_put_other _ 34 30 _ (by decide)).trans (f5 (by simpa [Ord.upd] using h)), fun h => (Ord.eval_put_other _ 34 31 _ (by decide)).trans (f6 (by simpa [Ord.upd] using h)), fun h => (Ord.eval_put_other _ 34 32 _ (by decide)).trans (f7 (by simpa [Ord.upd] using h)), fun h => (Ord.eval_put_other _ 34 33 _ (by decide)).trans (f8 (by simpa [Ord.upd] using h)), fun _ => Ord.eval_put_same _ _ _ (by rw [g1]; decide), bx, p, c', er, fun h => by
          obtain ⟨q1, q2, q3⟩ := e14 (by simpa [Ord.upd] using h)
          exact ⟨(Ord.eval_put_other _ 34 6 _ (by decide)).trans q1, q2, by simpa [Ord.upd] using q3⟩,
        fun h => by
          obtain ⟨q1, q2, q3⟩ := e10 (by simpa [Ord.upd] using h)
          exact ⟨(Ord.eval_put_other _ 34 35 _ (by decide)).trans q1, q2, fun h' => q3 (by simpa [Ord.upd] using h')⟩,
        fun h => (Ord.eval_put_other _ 34 24 _ (by decide)).trans (e11 (by simpa [Ord.upd] using h)),
        fun h => (Ord.eval_put_other _ 34 36 _ (by decide)).trans (e12 (by simpa [Ord.upd] using h)),
        fun h => (Ord.eval_put_other _ 34 37 _ (by decide)).trans (e13 (by simpa [Ord.upd] using h)),
        fun h => (Ord.eval_put_other _ 34 7 _ (by decide)).trans (e16 (by simpa [Ord.upd] using h))⟩
    | 10, ho, hi =>
      cases ho
      have da := f6 (hdep ⟨6, .data⟩ (by simp) rfl)
      have db := f9 (hdep ⟨9, .data⟩ (by simp) rfl)
      have l11 : L 11 = false := by
        cases h : L 11 with
        | false => rfl
        | true => exact absurd (hcl 11 _ rfl h ⟨10, .data⟩ (by simp) rfl) (by rw [hi]; decide)
      have l12 : L 12 = false := by
        cases h : L 12 with
        | false => rfl
        | true => exact absurd (hcl 12 _ rfl h ⟨11, .data⟩ (by simp) rfl) (by rw [l11]; decide)
      have l13 : L 13 = false := by
        cases h : L 13 with
        | false => rfl
        | true => exact absurd (hcl 13 _ rfl h ⟨11, .data⟩ (by simp) rfl) (by rw [l11]; decide)
      have l16 : L 16 = false := by
        cases h : L 16 with
        | false => rfl
        | true => exact absurd (hcl 16 _ rfl h ⟨13, .data⟩ (by simp) rfl) (by rw [l13]; decide)
      have l15 : L 15 = false := by
        cases h : L 15 with
        | false => rfl
        | true => exact absurd (hcl 15 _ rfl h ⟨12, .data⟩ (by simp) rfl) (by rw [l12]; decide)
      refine Ord.wpOp_of rfl rfl ?_
      unfold Oper.wp
      rw [o_read _ _ da db rfl]
      refine Calls.mono (RD.out x bx) ?_
      rintro e w2 ⟨c2, er2, y, rfl, hF, hok, b2⟩
      have hsx := bx.size
      have bx2 : Below W.heap.size W w2 := bx.trans (b2.mono hsx)
      exact ⟨(Ord.size_put _ 35 _).trans g1, g2, (Ord.eval_put_other _ 35 0 _ (by decide)).trans k0, (Ord.eval_put_other _ 35 2 _ (by decide)).trans k2, (Ord.eval_put_other _ 35 3 _ (by decide)).trans k3, (Ord.eval_put_other _ 35 4 _ (by decide)).trans k4, (Ord.eval_put_other _ 35 5 _ (by decide)).trans k5, fun h => (Ord.eval_put_other _ 35 25 _ (by decide)).trans (f0 (by simpa [Ord.upd] using h)), fun h => (Ord.eval_put_other _ 35 26 _ (by decide)).trans (f1 (by simpa [Ord.upd] using h)), fun h => (Ord.eval_put_other _ 35 27 _ (by decide)).trans (f2 (by simpa [Ord.upd] using h)), fun h => (Ord.eval_put_other _ 35 28 _ (by decide)).trans (f3 (by simpa [Ord.upd] using h)), fun h => (Ord.eval_put_other _ 35 29 _ (by decide)).trans (f4 (by simpa [Ord.upd] using h)), fun h => (Ord.eval_put_other _ 35 30 _ (by decide)).trans (f5 (by simpa [Ord.upd] using h)), fun h => (Ord.eval_put_other _ 35 31 _ (by decide)).trans (f6 (by simpa [Ord.upd] using h)), fun h => (Ord.eval_put_other _ 35 32 _ (by decide)).trans (f7 (by simpa [Ord.upd] using h)), fun h => (Ord.eval_put_other _ 35 33 _ (by decide)).trans (f8 (by simpa [Ord.upd] using h)), fun h => (Ord.eval_put_other _ 35 34 _ (by decide)).trans (f9 (by simpa [Ord.upd] using h)), bx2, p, c2, er2, fun h => by
          obtain ⟨q1, q2, q3⟩ := e14 (by simpa [Ord.upd] using h)
          rw [l15] at q3
          exact ⟨(Ord.eval_put_other _ 35 6 _ (by decide)).trans q1, q2, by simp only [Ord.upd, l15]; exact q3.later b2⟩, fun _ => ⟨Ord.eval_put_same _ _ _ (by rw [g1]; decide), ⟨y, hF, fun e => ⟨(hok e).1, (hok e).2.mono hsx⟩⟩, fun h he => by
          obtain ⟨q1, q2, q3⟩ := e14 (by simpa [Ord.upd] using h)
          exact avC_of (hok he).2 (fun bb u o hbb _ e => by cases e; have := q3.lt; omega)⟩, fun h => absurd h (by simp [Ord.upd, l11]), fun h => absurd h (by simp [Ord.upd, l12]), fun h => absurd h (by simp [Ord.upd, l13]), fun h => absurd h (by simp [Ord.upd, l16])⟩
    | 11, ho, hi =>
      cases ho
      have l10 : L 10 = true := hdep ⟨10, .data⟩ (by simp) rfl
      refine Ord.wpOp_of rfl rfl (Ord.wp_value (v := .tuple #[cv c', .int .i64 er]) (w' := x) (o_mv _ rfl (e10 l10).1) ?_)
      exact ⟨(Ord.size_put _ 24 _).trans g1, g2, (Ord.eval_put_other _ 24 0 _ (by decide)).trans k0, (Ord.eval_put_other _ 24 2 _ (by decide)).trans k2, (Ord.eval_put_other _ 24 3 _ (by decide)).trans k3, (Ord.eval_put_other _ 24 4 _ (by decide)).trans k4, (Ord.eval_put_other _ 24 5 _ (by decide)).trans k5, fun h => (Ord.eval_put_other _ 24 25 _ (by decide)).trans (f0 (by simpa [Ord.upd] using h)), fun h => (Ord.eval_put_other _ 24 26 _ (by decide)).trans (f1 (by simpa [Ord.upd] using h)), fun h => (Ord.eval_put_other _ 24 27 _ (by decide)).trans (f2 (by simpa [Ord.upd] using h)), fun h => (Ord.eval_put_other _ 24 28 _ (by decide)).trans (f3 (by simpa [Ord.upd] using h)), fun h => (Ord.eval_put_other _ 24 29 _ (by decide)).trans (f4 (by simpa [Ord.upd] using h)), fun h => (Ord.eval_put_other _ 24 30 _ (by decide)).trans (f5 (by simpa [Ord.upd] using h)), fun h => (Ord.eval_put_other _ 24 31 _ (by decide)).trans (f6 (by simpa [Ord.upd] using h)), fun h => (Ord.eval_put_other _ 24 32 _ (by decide)).trans (f7 (by simpa [Ord.upd] using h)), fun h => (Ord.eval_put_other _ 24 33 _ (by decide)).trans (f8 (by simpa [Ord.upd] using h)), fun h => (Ord.eval_put_other _ 24 34 _ (by decide)).trans (f9 (by simpa [Ord.upd] using h)), bx, p, c', er, fun h => by
          obtain ⟨q1, q2, q3⟩ := e14 (by simpa [Ord.upd] using h)
          exact ⟨(Ord.eval_put_other _ 24 6 _ (by decide)).trans q1, q2, by simpa [Ord.upd] using q3⟩,
        fun h => by
          obtain ⟨q1, q2, q3⟩ := e10 (by simpa [Ord.upd] using h)
          exact ⟨(Ord.eval_put_other _ 24 35 _ (by decide)).trans q1, q2, fun h' => q3 (by simpa [Ord.upd] using h')⟩,
        fun _ => Ord.eval_put_same _ _ _ (by rw [g1]; decide),
        fun h => (Ord.eval_put_other _ 24 36 _ (by decide)).trans (e12 (by simpa [Ord.upd] using h)),
        fun h => (Ord.eval_put_other _ 24 37 _ (by decide)).trans (e13 (by simpa [Ord.upd] using h)),
        fun h => (Ord.eval_put_other _ 24 7 _ (by decide)).trans (e16 (by simpa [Ord.upd] using h))⟩
    | 12, ho, hi =>
      cases ho
      have da := e11 (hdep ⟨11, .data⟩ (by simp) rfl)
      refine Ord.wpOp_of rfl rfl (Ord.wp_value (v := cv c') (w' := x) (o_ex (n := 0) _ da rfl rfl) ?_)
      exact ⟨(Ord.size_put _ 36 _).trans g1, g2, (Ord.eval_put_other _ 36 0 _ (by decide)).trans k0, (Ord.eval_put_other _ 36 2 _ (by decide)).trans k2, (Ord.eval_put_other _ 36 3 _ (by decide)).trans k3, (Ord.eval_put_other _ 36 4 _ (by decide)).trans k4, (Ord.eval_put_other _ 36 5 _ (by decide)).trans k5, fun h => (Ord.eval_put_other _ 36 25 _ (by decide)).trans (f0 (by simpa [Ord.upd] using h)), fun h => (Ord.eval_put_other _ 36 26 _ (by decide)).trans (f1 (by simpa [Ord.upd] using h)), fun h => (Ord.eval_put_other _ 36 27 _ (by decide)).trans (f2 (by simpa [Ord.upd] using h)), fun h => (Ord.eval_put_other _ 36 28 _ (by decide)).trans (f3 (by simpa [Ord.upd] using h)), fun h => (Ord.eval_put_other _ 36 29 _ (by decide)).trans (f4 (by simpa [Ord.upd] using h)), fun h => (Ord.eval_put_other _ 36 30 _ (by decide)).trans (f5 (by simpa [Ord.upd] using h)), fun h => (Ord.eval_put_other _ 36 31 _ (by decide)).trans (f6 (by simpa [Ord.upd] using h)), fun h => (Ord.eval_put_other _ 36 32 _ (by decide)).trans (f7 (by simpa [Ord.upd] using h)), fun h => (Ord.eval_put_other _ 36 33 _ (by decide)).trans (f8 (by simpa [Ord.upd] using h)), fun h => (Ord.eval_put_other _ 36 34 _ (by decide)).trans (f9 (by simpa [Ord.upd] using h)), bx, p, c', er, fun h => by
          obtain ⟨q1, q2, q3⟩ := e14 (by simpa [Ord.upd] using h)
          exact ⟨(Ord.eval_put_other _ 36 6 _ (by decide)).trans q1, q2, by simpa [Ord.upd] using q3⟩,
        fun h => by
          obtain ⟨q1, q2, q3⟩ := e10 (by simpa [Ord.upd] using h)
          exact ⟨(Ord.eval_put_other _ 36 35 _ (by decide)).trans q1, q2, fun h' => q3 (by simpa [Ord.upd] using h')⟩,
        fun h => (Ord.eval_put_other _ 36 24 _ (by decide)).trans (e11 (by simpa [Ord.upd] using h)),
        fun _ => Ord.eval_put_same _ _ _ (by rw [g1]; decide),
        fun h => (Ord.eval_put_other _ 36 37 _ (by decide)).trans (e13 (by simpa [Ord.upd] using h)),
        fun h => (Ord.eval_put_other _ 36 7 _ (by decide)).trans (e16 (by simpa [Ord.upd] using h))⟩
    | 13, ho, hi =>
      cases ho
      have da := e11 (hdep ⟨11, .data⟩ (by simp) rfl)
      refine Ord.wpOp_of rfl rfl (Ord.wp_value (v := .int .i64 er) (w' := x) (o_ex (n := 1) _ da rfl rfl) ?_)
      exact ⟨(Ord.size_put _ 37 _).trans g1, g2, (Ord.eval_put_other _ 37 0 _ (by decide)).trans k0, (Ord.eval_put_other _ 37 2 _ (by decide)).trans k2, (Ord.eval_put_other _ 37 3 _ (by decide)).trans k3, (Ord.eval_put_other _ 37 4 _ (by decide)).trans k4, (Ord.eval_put_other _ 37 5 _ (by decide)).trans k5, fun h => (Ord.eval_put_other _ 37 25 _ (by decide)).trans (f0 (by simpa [Ord.upd] using h)), fun h => (Ord.eval_put_other _ 37 26 _ (by decide)).trans (f1 (by simpa [Ord.upd] using h)), fun h => (Ord.eval_put_other _ 37 27 _ (by decide)).trans (f2 (by simpa [Ord.upd] using h)), fun h => (Ord.eval_put_other _ 37 28 _ (by decide)).trans (f3 (by simpa [Ord.upd] using h)), fun h => (Ord.eval_put_other _ 37 29 _ (by decide)).trans (f4 (by simpa [Ord.upd] using h)), fun h => (Ord.eval_put_other _ 37 30 _ (by decide)).trans (f5 (by simpa [Ord.upd] using h)), fun h => (Ord.eval_put_other _ 37 31 _ (by decide)).trans (f6 (by simpa [Ord.upd] using h)), fun h => (Ord.eval_put_other _ 37 32 _ (by decide)).trans (f7 (by simpa [Ord.upd] using h)), fun h => (Ord.eval_put_other _ 37 33 _ (by decide)).trans (f8 (by simpa [Ord.upd] using h)), fun h => (Ord.eval_put_other _ 37 34 _ (by decide)).trans (f9 (by simpa [Ord.upd] using h)), bx, p, c', er, fun h => by
          obtain ⟨q1, q2, q3⟩ := e14 (by simpa [Ord.upd] using h)
          exact ⟨(Ord.eval_put_other _ 37 6 _ (by decide)).trans q1, q2, by simpa [Ord.upd] using q3⟩,
        fun h => by
          obtain ⟨q1, q2, q3⟩ := e10 (by simpa [Ord.upd] using h)
          exact ⟨(Ord.eval_put_other _ 37 35 _ (by decide)).trans q1, q2, fun h' => q3 (by simpa [Ord.upd] using h')⟩,
        fun h => (Ord.eval_put_other _ 37 24 _ (by decide)).trans (e11 (by simpa [Ord.upd] using h)),
        fun h => (Ord.eval_put_other _ 37 36 _ (by decide)).trans (e12 (by simpa [Ord.upd] using h)),
        fun _ => Ord.eval_put_same _ _ _ (by rw [g1]; decide),
        fun h => (Ord.eval_put_other _ 37 7 _ (by decide)).trans (e16 (by simpa [Ord.upd] using h))⟩
    | 14, ho, hi =>
      cases ho
      have l15 : L 15 = false := by
        cases h : L 15 with
        | false => rfl
        | true => exact absurd (hcl 15 _ rfl h ⟨14, .data⟩ (by simp) rfl) (by rw [hi]; decide)
      have hbx : Below x.heap.size x (x.alloc (.cells (cc (zck 0)) 59)) := (Below.refl _ x).alloc (Nat.le_refl _) _
      have hsx := bx.size
      refine Ord.wpOp_of rfl rfl (Ord.wp_value (v := .pointer (some ⟨x.heap.size, 0, none⟩)) (w' := x.alloc (.cells (cc (zck 0)) 59)) (o_al rfl) ?_)
      exact ⟨(Ord.size_put _ 6 _).trans g1, g2, (Ord.eval_put_other _ 6 0 _ (by decide)).trans k0, (Ord.eval_put_other _ 6 2 _ (by decide)).trans k2, (Ord.eval_put_other _ 6 3 _ (by decide)).trans k3, (Ord.eval_put_other _ 6 4 _ (by decide)).trans k4, (Ord.eval_put_other _ 6 5 _ (by decide)).trans k5, fun h => (Ord.eval_put_other _ 6 25 _ (by decide)).trans (f0 (by simpa [Ord.upd] using h)), fun h => (Ord.eval_put_other _ 6 26 _ (by decide)).trans (f1 (by simpa [Ord.upd] using h)), fun h => (Ord.eval_put_other _ 6 27 _ (by decide)).trans (f2 (by simpa [Ord.upd] using h)), fun h => (Ord.eval_put_other _ 6 28 _ (by decide)).trans (f3 (by simpa [Ord.upd] using h)), fun h => (Ord.eval_put_other _ 6 29 _ (by decide)).trans (f4 (by simpa [Ord.upd] using h)), fun h => (Ord.eval_put_other _ 6 30 _ (by decide)).trans (f5 (by simpa [Ord.upd] using h)), fun h => (Ord.eval_put_other _ 6 31 _ (by decide)).trans (f6 (by simpa [Ord.upd] using h)), fun h => (Ord.eval_put_other _ 6 32 _ (by decide)).trans (f7 (by simpa [Ord.upd] using h)), fun h => (Ord.eval_put_other _ 6 33 _ (by decide)).trans (f8 (by simpa [Ord.upd] using h)), fun h => (Ord.eval_put_other _ 6 34 _ (by decide)).trans (f9 (by simpa [Ord.upd] using h)), bx.trans (hbx.mono hsx), x.heap.size, c', er, fun _ => ⟨Ord.eval_put_same _ _ _ (by rw [g1]; decide), hsx, by simp only [Ord.upd, l15]; exact Bx.new x (zck 0)⟩, fun h => by
          obtain ⟨q1, ⟨y, q2, q2'⟩, q3⟩ := e10 (by simpa [Ord.upd] using h)
          refine ⟨(Ord.eval_put_other _ 6 35 _ (by decide)).trans q1, ⟨y, q2, fun e => ⟨(q2' e).1, (q2' e).2.later hbx⟩⟩, fun _ he => ?_⟩
          exact avC_of (q2' he).2 (fun bb u o _ hc e => by cases e; exact absurd (cell_lt hc) (Nat.lt_irrefl _)), fun h => (Ord.eval_put_other _ 6 24 _ (by decide)).trans (e11 (by simpa [Ord.upd] using h)), fun h => (Ord.eval_put_other _ 6 36 _ (by decide)).trans (e12 (by simpa [Ord.upd] using h)), fun h => (Ord.eval_put_other _ 6 37 _ (by decide)).trans (e13 (by simpa [Ord.upd] using h)), fun h => (Ord.eval_put_other _ 6 7 _ (by decide)).trans (e16 (by simpa [Ord.upd] using h))⟩
    | 15, ho, hi =>
      cases ho
      have l14 : L 14 = true := hdep ⟨14, .data⟩ (by simp) rfl
      have l12 : L 12 = true := hdep ⟨12, .data⟩ (by simp) rfl
      have l11 : L 11 = true := hcl 12 _ rfl l12 ⟨11, .data⟩ (by simp) rfl
      have l10 : L 10 = true := hcl 11 _ rfl l11 ⟨10, .data⟩ (by simp) rfl
      obtain ⟨q1, q2, q3⟩ := e14 l14
      rw [hi] at q3
      obtain ⟨r1, ⟨y, r2, r2'⟩, r3⟩ := e10 l10
      have hg : x.grownBy (stoW x p c') (some p) := by
        have hb := stoW_below c' (Below.refl p x) (Nat.le_refl _)
        exact ⟨hb.os, hb.tape, hb.output, hb.size, fun j _ hj => other_setCells p j (by simpa using hj) _ _ _⟩
      refine Ord.wpOp_of rfl rfl ?_
      unfold Oper.wp
      rw [o_sto _ _ q1 (e12 l12) rfl (sto_run q3 c')]
      exact ⟨g1, g2, k0, k2, k3, k4, k5, fun h => f0 (by simpa [Ord.upd] using h), fun h => f1 (by simpa [Ord.upd] using h), fun h => f2 (by simpa [Ord.upd] using h), fun h => f3 (by simpa [Ord.upd] using h), fun h => f4 (by simpa [Ord.upd] using h), fun h => f5 (by simpa [Ord.upd] using h), fun h => f6 (by simpa [Ord.upd] using h), fun h => f7 (by simpa [Ord.upd] using h), fun h => f8 (by simpa [Ord.upd] using h), fun h => f9 (by simpa [Ord.upd] using h), bx.grown hg bx.size (fun j hj => by cases hj; exact q2), p, c', er, fun _ => ⟨q1, q2, by simp only [Ord.upd]; exact stoW_bx q3 c'⟩, fun _ => ⟨r1, ⟨y, r2, fun e => ⟨(r2' e).1, lsts_gr (r2' e).2 (r3 l14 e) hg⟩⟩, fun _ => r3 l14⟩, fun h => e11 (by simpa [Ord.upd] using h), fun h => e12 (by simpa [Ord.upd] using h), fun h => e13 (by simpa [Ord.upd] using h), fun h => e16 (by simpa [Ord.upd] using h)⟩
    | 16, ho, hi =>
      cases ho
      have da := e13 (hdep ⟨13, .data⟩ (by simp) rfl)
      refine Ord.wpOp_of rfl rfl (Ord.wp_value (v := .int .i64 er) (w' := x) (o_as _ rfl da) ?_)
      exact ⟨(Ord.size_put _ 7 _).trans g1, g2, (Ord.eval_put_other _ 7 0 _ (by decide)).trans k0, (Ord.eval_put_other _ 7 2 _ (by decide)).trans k2, (Ord.eval_put_other _ 7 3 _ (by decide)).trans k3, (Ord.eval_put_other _ 7 4 _ (by decide)).trans k4, (Ord.eval_put_other _ 7 5 _ (by decide)).trans k5, fun h => (Ord.eval_put_other _ 7 25 _ (by decide)).trans (f0 (by simpa [Ord.upd] using h)), fun h => (Ord.eval_put_other _ 7 26 _ (by decide)).trans (f1 (by simpa [Ord.upd] using h)), fun h => (Ord.eval_put_other _ 7 27 _ (by decide)).trans (f2 (by simpa [Ord.upd] using h)), fun h => (Ord.eval_put_other _ 7 28 _ (by decide)).trans (f3 (by simpa [Ord.upd] using h)), fun h => (Ord.eval_put_other _ 7 29 _ (by decide)).trans (f4 (by simpa [Ord.upd] using h)), fun h => (Ord.eval_put_other _ 7 30 _ (by decide)).trans (f5 (by simpa [Ord.upd] using h)), fun h => (Ord.eval_put_other _ 7 31 _ (by decide)).trans (f6 (by simpa [Ord.upd] using h)), fun h => (Ord.eval_put_other _ 7 32 _ (by decide)).trans (f7 (by simpa [Ord.upd] using h)), fun h => (Ord.eval_put_other _ 7 33 _ (by decide)).trans (f8 (by simpa [Ord.upd] using h)), fun h => (Ord.eval_put_other _ 7 34 _ (by decide)).trans (f9 (by simpa [Ord.upd] using h)), bx, p, c', er, fun h => by
          obtain ⟨q1, q2, q3⟩ := e14 (by simpa [Ord.upd] using h)
          exact ⟨(Ord.eval_put_other _ 7 6 _ (by decide)).trans q1, q2, by simpa [Ord.upd] using q3⟩,
        fun h => by
          obtain ⟨q1, q2, q3⟩ := e10 (by simpa [Ord.upd] using h)
          exact ⟨(Ord.eval_put_other _ 7 35 _ (by decide)).trans q1, q2, fun h' => q3 (by simpa [Ord.upd] using h')⟩,
        fun h => (Ord.eval_put_other _ 7 24 _ (by decide)).trans (e11 (by simpa [Ord.upd] using h)),
        fun h => (Ord.eval_put_other _ 7 36 _ (by decide)).trans (e12 (by simpa [Ord.upd] using h)),
        fun h => (Ord.eval_put_other _ 7 37 _ (by decide)).trans (e13 (by simpa [Ord.upd] using h)),
        fun _ => Ord.eval_put_same _ _ _ (by rw [g1]; decide)⟩
  case refine_2 =>
    intro L L' ac x hL ⟨g1, g2, k0, k2, k3, k4, k5, f0, f1, f2, f3, f4, f5, f6, f7, f8, f9, bx, p, c', er, e14, e10, e11, e12, e13, e16⟩
    rw [hL 0 (by decide)] at f0
    rw [hL 1 (by decide)] at f1
    rw [hL 2 (by decide)] at f2
    rw [hL 3 (by decide)] at f3
    rw [hL 4 (by decide)] at f4
    rw [hL 5 (by decide)] at f5
    rw [hL 6 (by decide)] at f6
    rw [hL 7 (by decide)] at f7
    rw [hL 8 (by decide)] at f8
    rw [hL 9 (by decide)] at f9
    rw [hL 14 (by decide), hL 15 (by decide)] at e14
    rw [hL 10 (by decide), hL 14 (by decide)] at e10
    rw [hL 11 (by decide)] at e11
    rw [hL 12 (by decide)] at e12
    rw [hL 13 (by decide)] at e13
    rw [hL 16 (by decide)] at e16
    exact ⟨g1, g2, k0, k2, k3, k4, k5, f0, f1, f2, f3, f4, f5, f6, f7, f8, f9, bx, p, c', er, e14, e10, e11, e12, e13, e16⟩
  case refine_4 => exact ⟨rfl, rfl, rfl, rfl, rfl, rfl, rfl, (fun h => by cases h), (fun h => by cases h), (fun h => by cases h), (fun h => by cases h), (fun h => by cases h), (fun h => by cases h), (fun h => by cases h), (fun h => by cases h), (fun h => by cases h), (fun h => by cases h), Par.below_drewN (Below.refl _ _) 1, 0, zck 0, 0, (fun h => by cases h), (fun h => by cases h), (fun h => by cases h), (fun h => by cases h), (fun h => by cases h), (fun h => by cases h)⟩
  case refine_3 =>
    rename_i hKK
    intro ac x ⟨g1, g2, k0, k2, k3, k4, k5, f0, f1, f2, f3, f4, f5, f6, f7, f8, f9, bx, p, c', er, e14, e10, e11, e12, e13, e16⟩
    obtain ⟨p6, hp, hbp⟩ := e14 rfl
    obtain ⟨q10, ⟨y, hF, hok⟩, q14⟩ := e10 rfl
    clear q10 q14
    have p7 := e16 rfl
    rw [if_pos rfl] at hbp
    obtain ⟨x0, x1, x2, x3, x4, x5, x6, x7, x8, x9, x10, x11, x12, x13, x14, x15, x16, x17, x18, x19, x20, x21, x22, x23, x24, x25, x26, x27, x28, x29, x30, x31, x32, x33, x34, x35, x36, x37, x38, x39, x40, x41, x42, x43, x44, x45, x46, x47, x48, x49, rfl⟩ := frame50 ac g1 g2
    obtain rfl : x0 = .slice (some ⟨b, off, none⟩) len cap := k0
    obtain rfl : x2 = .pointer (some ⟨w.heap.size, 0, none⟩) := k2
    obtain rfl : x3 = .int .i64 0 := k3
    obtain rfl : x4 = .int .i64 0 := k4
    obtain rfl : x5 = .int .i64 (n : Int) := k5
    obtain rfl : x6 = .pointer (some ⟨p, 0, none⟩) := p6
    obtain rfl : x7 = .int .i64 er := p7
    refine hKK _ _ ?_
    have hxx := HX.out.later bx
    have hbw : Below w.heap.size w x := HB.out.trans (bx.mono HB.out.size)
    clear g1 g2 f0 f1 f2 f3 f4 f5 f6 f7 f8 f9 e10 e11 e12 e13 e14 e16 RD c0 c1 GE
    have HDF := hidden (show Fil (zs.getD 0 0) (body zs) (zch (zs.getD 0 0) (flg (zs.getD 0 0) (zs.getD 1 0))) er y by rw [hk, hf, hB]; exact hF)
    clear hF hk hf hB hBe HRB HNA HA4 hA4
    by_cases he : er = 0
    case neg =>
      have hne := bne_t he
      obtain ⟨t1, t2, t3⟩ := BAD.out x hxx hbw
      have T2 := hidden t2
      have F := hidden (FIN.out _ er y he (.inr ⟨HCUT.out, HDF.out, fun h => absurd h he⟩) t3)
      clear t2 t3 BAD FIN he hok hbp hxx hbw bx
      go_wp2
      exact bodyPost_ret (v := .tuple #[cv (zck 0), .int .i64 ((0 : Nat) : Int), .int .i64 er]) (cell_res3 Tryz.results60 T2.out _ rfl rfl rfl) rfl ⟨zck 0, 0, er, rfl, F.out⟩
    subst he
    obtain ⟨hv, hl⟩ := hok rfl
    have l6 := hbp.ld
    have k2 := sto_run hxx c'
    have hWs : W.heap.size = w.heap.size + 1 ∨ w.heap.size < W.heap.size := .inr HX.out.lt
    have hT : Tch w.heap.size w.heap.size x (stoW x w.heap.size c') := by
      have hb := stoW_below c' (Below.refl w.heap.size x) (Nat.le_refl _)
      exact ⟨hb.os, hb.tape, hb.output, hb.size, fun j hj hB _ => other_setCells w.heap.size j hB _ _ _⟩
    have hWlt := HX.out.lt
    have T2 := hidden (stoW_bx hxx c')
    have T3 := hidden (stoW_below c' hbw (Nat.le_refl _))
    have T4 := hidden ((hl.tch hWlt hWlt hT).mono (Nat.le_of_lt hWlt))
    have HV := hidden hv
    obtain ⟨F, hF⟩ : ∃ F : Nat, Par.fill4 n = F := ⟨_, rfl⟩
    have hF2 : ((n : Int) + 3) / 4 * 4 = (F : Int) := by rw [← hF]; unfold Par.fill4; omega
    have hdv : ((n : Int) + 3).tdiv 4 = ((n : Int) + 3) / 4 := Int.tdiv_eq_ediv_of_nonneg (by omega)
    have hFb : F ≤ n + 3 := by rw [← hF]; exact (Par.fill4_le n).2
    have HD := hidden (show ∀ m : Nat, m = min F len → Dec zs 0 y m from fun m hm => .inr ⟨HCUT.out, HDF.out, fun _ => by rw [HN.out, hm, ← hF, hzl]; rfl⟩)
    have HNM := hidden (show ∀ m : Nat, m = min F len → Nums c' from fun m hm => VOk.nums (by rw [HV.out]; exact (read_ok zs HBY.out y m (HD.out m hm)).2.1))
    clear hF hl hv hok hbp hxx hbw bx hT hWs hWlt BAD FIN HDF
    by_cases hlt : len < F
    · have e1 : min F len = len := by omega
      go_wp2
      exact bodyPost_ret (v := .tuple #[cv c', .int .i64 (len : Int), .int .i64 0]) (cell_res3 Tryz.results60 T2.out _ rfl rfl rfl) rfl ⟨c', len, 0, rfl, ⟨y, HD.out len e1.symm, fun _ => HV.out⟩, fun h => absurd rfl h, ⟨HNM.out len e1.symm, T4.out⟩, T3.out⟩
    · have e1 : min F len = F := by omega
      go_wp2
      exact bodyPost_ret (v := .tuple #[cv c', .int .i64 (F : Int), .int .i64 0]) (cell_res3 Tryz.results60 T2.out _ rfl rfl rfl) rfl ⟨c', F, 0, rfl, ⟨y, HD.out F e1.symm, fun _ => HV.out⟩, fun h => absurd rfl h, ⟨HNM.out F e1.symm, T4.out⟩, T3.out⟩
end Go.Proofs.YtmnndkhdekpecaaGreatDoor.Chu
namespace Go.Proofs.YtmnndkhdekpecaaGreatDoor.Chu
open Go.ChangeShapes Go.WideShapes Go.ChangeAt Go.RowKit
open Par (hidden Bytes Row Prm Prms cell_lt form_of cells_new)
set_option linter.unusedVariables false
attribute [local go_sem ↓] execOp_ld execOp_bx execOp_st execOp_bs
attribute [local go_sem] run_box run_bsl

set_option maxRecDepth 20000 in
set_option maxHeartbeats 1000000 in
theorem rAll (base : Nat) (w : World) (a : Option Addr) (len cap : Nat) (zs : List Int) (hr : Row base w a len zs) (hlc : len ≤ cap) (hlen : len ≤ 1048576) :
    Calls Tryz.prog 36 #[.slice a len cap] w fun e w' => ∃ pa n pcap l p er, e = .returned (.tuple #[.slice pa n pcap, .int .i64 ((p : Nat) : Int), .int .i64 er]) ∧ Cks w.heap.size w' pa n l ∧ AllOut zs (l.map val) p er ∧ Below w.heap.size w w' := by
  obtain ⟨i0, hi, hz0, hz1, hz2⟩ := info_parts infoC3
  have hzl := hr.1
  have HBY := hidden hr.2.1
  have HR := hidden hr
  clear hr
  go_enter Tryz.func36, Tryz.ntmps36
  go_wp2_with fail
  go_loopw [5, 6] (fun v i wr => ∃ k q l, i = .int .i64 ((q : Nat) : Int) ∧ Lc w wr v k l ∧ Rds zs 0 (l.map val) q) (fun _ i _ => len - (intOf i).toNat)
  case atStart => exact ⟨0, 0, [], rfl, Lc.nil w, rfl⟩
  case round =>
    obtain ⟨k, q, l, rfl, hL, hRd⟩ := hrel
    obtain ⟨q1, q2⟩ := rds_le HBY.out (Nat.zero_le _) hRd
    rw [List.length_map, hL.2.1] at q1
    obtain ⟨va, vc, rfl⟩ := form_of hL.1
    rcases Nat.lt_or_ge q len with hlt | hge
    · obtain ⟨b, off, rfl, _, _⟩ := HR.out.2.2.2.resolve_left (by omega)
      have DE := hidden (rDecode base wr (some ⟨b, off + q, none⟩) (len - q) (cap - q) (zs.drop q) (drop_row (HR.out.later hL.2.2.2) hlt) (by omega) (fun h => by cases h))
      have HL := hidden hL
      have HRD := hidden hRd
      have i1 : (q : Int) < (len : Int) := by omega
      have i2 : (q : Int) ≤ (cap : Int) := by omega
      have i3 : ¬ cap = q := by omega
      have i4 : ¬ q = cap := by omega
      have i5 : (q : Int) ≤ (len : Int) := by omega
      clear hL hRd
      go_wp2_with fail
      refine Calls.mono DE.out ?_
      rintro e w1 ⟨c, m, er, rfl, ⟨y, hD, hv⟩, hbad, hC, b1⟩
      obtain ⟨W, hS, hbx, hbw⟩ := newvar w1 c
      have b2 := b1.trans (hbw.mono b1.size)
      have HC := hidden (hC.later hbw)
      have HD := hidden hD
      have HV := hidden hv
      have HBAD := hidden hbad
      have HB2 := hidden b2
      have HX := hidden hbx
      clear hC hD hv hbad b1 b2 hbx hbw DE
      by_cases he : er = 0
      · subst he
        have HVV := hidden (HV.out rfl)
        have l1 := HX.out.ld
        obtain ⟨r1, r2, r3, r4⟩ := read_ok (zs.drop q) (fun x hx => HBY.out x (List.mem_of_mem_drop hx)) y m HD.out
        rw [List.length_drop] at r4
        have HB3 := hidden (HB2.out.trans ((below_box W c).mono HB2.out.size))
        have hs3 := (HL.out.2.2.2.trans (HB3.out.mono HL.out.2.2.2.size)).size
        have HOW := hidden ((HL.out.later HB3.out).1)
        clear r1 r2
        go_wp2_with (at_builtin; refine wpList_append_at rfl _ _ 24 rfl w.heap.size 59 i0 (cv (zck 0)) Tryz.underlying24 hi hz0 (by rw [hz1]; rfl) (by rw [hz1]; decide) _ _ _ rfl (by rw [hz1]; exact HOW.out) ⟨W.heap.size, 0, none⟩ 1 1 (cc c).toList rfl (by rw [hz1]; rfl) (cells_cc W c) (cc_one c) (by decide) ?c3 ?c4 ?c5 ?_)
        case c3 => unfold maxLen; omega
        case c4 => rw [hz2]; omega
        case c5 => exact hs3
        intro v3 w3 ho3 hg3 hw3
        have HM := hidden (HL.out.more HB3.out (HC.out.later (below_box W c)) ho3 hg3 (by rw [World.size_alloc]; exact hw3))
        clear ho3 hg3 hw3 HOW
        go_wp2
        go_roundw
        case rel => exact ⟨k + 1, q + m, l ++ [c], by go_num, HM.out, by rw [List.map_append]; exact HRD.out.snoc (by omega) (by rw [HVV.out]; exact HD.out)⟩
        case measure => simp [intOf]; omega
      · have hne := bne_t he
        have HB3 := hidden (HL.out.2.2.2.trans (HB2.out.mono HL.out.2.2.2.size))
        have HE := hidden he
        clear he
        go_wp2
        go_ret3
        exact ⟨none, 0, 0, [], q, er, rfl, Cks.nil _ _ _, .inr ⟨HE.out, rfl, _, y, m, HRD.out, by omega, HD.out⟩, HB3.out⟩
    · obtain ⟨pa, pcap, e, hck⟩ := hL.cks (by omega)
      cases e
      have HCK := hidden hck
      have HO := hidden (show AllOut zs (l.map val) 0 0 from .inl ⟨rfl, rfl, q, hRd, by omega⟩)
      have HB := hidden hL.2.2.2
      clear hck hL hRd
      go_wp2
      go_ret3
      exact ⟨_, _, _, l, 0, 0, rfl, HCK.out, HO.out, HB.out⟩
/-- a row that came in and is of little bulk is short -/
theorem row_small {H : Type} {enc : TypeId × Value → H} {W : World} {base : Nat} {held : Bool} {fuel : Nat} {a : Option Addr} {len cap : Nat} {x : DataW H × List MemPlace}
    (h : DataW.trod enc Tryz.prog W base (fun _ => true) held fuel 27 (Value.slice a len cap).cells.toList = some x) (hb : Rows.uptoBulk x.1 ≤ 1048576) : len ≤ 1048576 := by
  have bulk : ∀ l : List Int, Rows.uptoBulkAll (H := H) (lits .u8 l) = l.length := by
    intro l
    induction l with
    | nil => rfl
    | cons n l ih => simp only [lits, List.map_cons, Rows.uptoBulkAll, Rows.uptoBulk, List.length_cons] at *; rw [ih]; omega
  rcases open_ints Tryz.underlying27 Tryz.underlying5 (by kernel_rfl) h with ⟨hcs, _⟩ | ⟨y, l, c, zs, hcs, _, hl, hm, hz, rfl, _, _⟩
  · simp [Value.cells] at hcs
    omega
  · simp [Value.cells] at hcs
    obtain ⟨_, rfl, rfl⟩ := hcs
    simp only [if_pos] at hz
    simp only [Rows.uptoBulk, bulk, List.length_take, List.length_drop] at hb
    omega
end Go.Proofs.YtmnndkhdekpecaaGreatDoor.Chu
