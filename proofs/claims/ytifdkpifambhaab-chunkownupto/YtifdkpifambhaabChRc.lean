/-
  The document's reader: parameters; flags of chunks without a value.
  Conditions: the numbers lie within their kinds, the cells hold them.
-/
import Derived.Test.YtifdkpifambhaabChRb
import Derived.Test.YtifdkpifambhaabParN
namespace Go.Proofs.Ytifdkpifambhaab.Chu
open Go.ChangeShapes Go.WideShapes Go.ChangeAt Go.RowKit
open Par (hidden Bytes Row Prm Prms cell_lt Cap cells_new cutA thrown form_of)
set_option linter.unusedVariables false
attribute [local go_sem ↓] execOp_ld execOp_bx execOp_st
attribute [local go_sem] run_box

theorem rBeat (c : Ck) (w : World) : Calls Try.prog 58 #[cv c] w fun e w' => e = .returned (.bool (beat c.kind)) ∧ Below w.heap.size w w' := by
  have q0 := (Bx.new w c).c0
  have HB := hidden (below_box w c)
  by_cases h4 : c.kind = 4
  · have e : beat c.kind = true := by rw [h4]; rfl
    rw [e]
    rw [h4] at q0
    go_enter Try.func58, Try.ntmps58
    go_wp2
    go_ret
    exact ⟨rfl, HB.out⟩
  · have e4 := beq_f h4
    have e : beat c.kind = (c.kind == 5) := by unfold beat; rw [e4]; rfl
    rw [e]
    go_enter Try.func58, Try.ntmps58
    go_wp2
    go_ret
    exact ⟨rfl, HB.out⟩
/-- the flags of a chunk without a value -/
theorem rBareF (c : Ck) (w : World) (hk : c.kind = 8 ∨ c.kind = 11 ∨ c.kind = 14) (hf : 0 ≤ c.flags ∧ c.flags < 256) : Calls Try.prog 41 #[cv c] w fun e w' => ∃ d : Ck, e = .returned (cv d) ∧ d.flags = flg c.kind c.flags ∧ Below w.heap.size w w' := by
  have b1 := Bx.new w c
  have b2 : Bx ((w.alloc (.cells (cc c) 39)).alloc (.cells #[.int .u8 0, .int .u8 0, .int .u32 0, .int .u16 0, .int .u16 0, .int .u32 0, .int .u32 0, .int .u32 0, .int .u16 0, .int .u16 0, .slice none 0 0, .slice none 0 0, .slice none 0 0, .slice none 0 0, .slice none 0 0] 39)) (w.heap.size + 1) (zck 0) := by
    have := Bx.new (w.alloc (.cells (cc c) 39)) (zck 0)
    rw [World.size_alloc] at this
    exact this
  obtain ⟨W, hS, hbx, hbw⟩ := newvar ((w.alloc (.cells (cc c) 39)).alloc (.cells #[.int .u8 0, .int .u8 0, .int .u32 0, .int .u16 0, .int .u16 0, .int .u32 0, .int .u32 0, .int .u32 0, .int .u16 0, .int .u16 0, .slice none 0 0, .slice none 0 0, .slice none 0 0, .slice none 0 0, .slice none 0 0] 39)) (zck c.kind)
  have hsz : ((w.alloc (.cells (cc c) 39)).alloc (.cells #[.int .u8 0, .int .u8 0, .int .u32 0, .int .u16 0, .int .u16 0, .int .u32 0, .int .u32 0, .int .u32 0, .int .u16 0, .int .u16 0, .slice none 0 0, .slice none 0 0, .slice none 0 0, .slice none 0 0, .slice none 0 0] 39)).heap.size = w.heap.size + 2 := by simp
  rw [hsz] at hS hbx hbw
  have hbb : Below w.heap.size w W := (((Below.refl _ w).alloc (Nat.le_refl _) (.cells (cc c) 39)).alloc (by simp) _).trans (hbw.mono (by omega))
  have x1 : Bx W w.heap.size c := (b1.alloc (.cells #[.int .u8 0, .int .u8 0, .int .u32 0, .int .u16 0, .int .u16 0, .int .u32 0, .int .u32 0, .int .u32 0, .int .u16 0, .int .u16 0, .slice none 0 0, .slice none 0 0, .slice none 0 0, .slice none 0 0, .slice none 0 0] 39)).later (by rw [hsz]; exact hbw)
  have x2 : Bx W (w.heap.size + 1) (zck 0) := b2.later (by rw [hsz]; exact hbw)
  have q0 := ((Bx.new w c).alloc (.cells #[.int .u8 0, .int .u8 0, .int .u32 0, .int .u16 0, .int .u16 0, .int .u32 0, .int .u32 0, .int .u32 0, .int .u16 0, .int .u16 0, .slice none 0 0, .slice none 0 0, .slice none 0 0, .slice none 0 0, .slice none 0 0] 39)).c0
  have hS' : (sto (.pointer (some ⟨w.heap.size + 2, 0, none⟩)) (.agg #[.int .u8 c.kind, .int .u8 0, .int .u32 0, .int .u16 0, .int .u16 0, .int .u32 0, .int .u32 0, .int .u32 0, .int .u16 0, .int .u16 0, .slice none 0 0, .slice none 0 0, .slice none 0 0, .slice none 0 0, .slice none 0 0])).run Try.prog (((w.alloc (.cells (cc c) 39)).alloc (.cells #[.int .u8 0, .int .u8 0, .int .u32 0, .int .u16 0, .int .u16 0, .int .u32 0, .int .u32 0, .int .u32 0, .int .u16 0, .int .u16 0, .slice none 0 0, .slice none 0 0, .slice none 0 0, .slice none 0 0, .slice none 0 0] 39)).alloc (.cells #[.int .u8 0, .int .u8 0, .int .u32 0, .int .u16 0, .int .u16 0, .int .u32 0, .int .u32 0, .int .u32 0, .int .u16 0, .int .u16 0, .slice none 0 0, .slice none 0 0, .slice none 0 0, .slice none 0 0, .slice none 0 0] 39)) = .ok () W := hS
  have q0' := x1.c0
  have HX1 := hidden x1
  have HX2 := hidden x2
  have HX3 := hidden hbx
  have HB := hidden hbb
  clear hS b1 b2 hbw hbb hsz x1 x2 hbx
  generalize hkk : c.kind = k at *
  have fin : ∀ (W' : World) (d : Ck), Bx W' (w.heap.size + 2) d → Bx W' (w.heap.size + 1) (zck 0) → Below w.heap.size w W' → (sto (.pointer (some ⟨w.heap.size + 1, 0, none⟩)) (cv d)).run Try.prog W' = .ok () (stoW W' (w.heap.size + 1) d) ∧ Bx (stoW W' (w.heap.size + 1) d) (w.heap.size + 1) d ∧ Below w.heap.size w (stoW W' (w.heap.size + 1) d) := fun W' d h1 h2 h3 => ⟨sto_run h2 d, stoW_bx h2 d, stoW_below d h3 (by omega)⟩
  rcases hk with rfl | rfl | rfl
  · obtain ⟨f1, f2, f3⟩ := fin W _ HX3.out HX2.out HB.out
    have l3 := HX3.out.ld
    have F2 := hidden f2
    have F3 := hidden f3
    clear f2 f3 fin
    go_enter Try.func41, Try.ntmps41
    go_wp2
    exact bodyPost_ret (v := cv (zck 8)) (cell_res Try.results41 F2.out _ rfl) rfl ⟨zck 8, rfl, by simp [flg, zck], F3.out⟩
  · obtain ⟨f1, f2, f3⟩ := fin W _ HX3.out HX2.out HB.out
    have l3 := HX3.out.ld
    have F2 := hidden f2
    have F3 := hidden f3
    clear f2 f3 fin
    go_enter Try.func41, Try.ntmps41
    go_wp2
    exact bodyPost_ret (v := cv (zck 11)) (cell_res Try.results41 F2.out _ rfl) rfl ⟨zck 11, rfl, by simp [flg, zck], F3.out⟩
  · have q1 := HX1.out.c1
    have q3 := HX3.out.c1
    have z3 := HX3.out.fr 1
    have hr : c.flags.tmod 2 = c.flags % 2 := Int.tmod_eq_emod_of_nonneg hf.1
    have hw : ∀ z : Int, IntKind.u8.wrap z = z % 256 := fun _ => rfl
    have hw2 : c.flags % 2 % 256 = c.flags % 2 := by omega
    have x4 : Bx (W.setCell ⟨w.heap.size + 2, 1, none⟩ (.int .u8 (c.flags % 2))) (w.heap.size + 2) { zck 14 with flags := c.flags % 2 } := HX3.out.s1 _
    have x5 : Bx (W.setCell ⟨w.heap.size + 2, 1, none⟩ (.int .u8 (c.flags % 2))) (w.heap.size + 1) (zck 0) := HX2.out.keep (by omega) _ _
    have b5 : Below w.heap.size w (W.setCell ⟨w.heap.size + 2, 1, none⟩ (.int .u8 (c.flags % 2))) := HB.out.setCell (by simp) _
    obtain ⟨f1, f2, f3⟩ := fin _ _ x4 x5 b5
    have l3 := x4.ld
    have F2 := hidden f2
    have F3 := hidden f3
    clear f2 f3 fin x4 x5 b5
    go_enter Try.func41, Try.ntmps41
    go_wp2
    exact bodyPost_ret (v := cv { zck 14 with flags := c.flags % 2 }) (cell_res Try.results41 F2.out _ rfl) rfl ⟨_, rfl, by simp [flg], F3.out⟩
/-- what is told of parameters -/
def PrR (w : World) (v : List Int) (c : Ck) (e : Ending) (w' : World) : Prop :=
  ∃ c' er, e = .returned (.tuple #[cv c', .int .i64 er]) ∧ Below w.heap.size w w' ∧ ∃ l q cd, Par.Out v l q cd ∧ ((cd ≠ 0 ∧ er = cd) ∨ (cd = 0 ∧ beat c.kind = true ∧ ¬ OneBeat l ∧ er = 61) ∨ (cd = 0 ∧ (beat c.kind = true → OneBeat l) ∧ er = 0 ∧ val c' = { val c with ps := l } ∧ Lsts w.heap.size w' c'))
theorem lsts_p {n : Nat} {w : World} {c : Ck} (h : Lsts n w c) {a : Option Addr} {l k : Nat} {xs : List Prm} (hp : Prms n w a l xs) : Lsts n w { c with pa := a, pl := l, pc := k, ps := xs } := ⟨h.1, h.2.1, h.2.2.1, h.2.2.2.1, h.2.2.2.2.1, hp⟩
set_option maxRecDepth 20000 in
set_option maxHeartbeats 1000000 in
theorem rParams (base : Nat) (w : World) (a : Option Addr) (len cap : Nat) (v : List Int) (c : Ck) (hr : Row base w a len v) (hlc : len ≤ cap) (hnn : a = none → len = 0 ∧ cap = 0) (hl : ∀ nn w, Lsts nn w c) :
    Calls Try.prog 39 #[cv c, .slice a len cap] w fun e w' => PrR w v c e w' := by
  have S0 := Ds.start w c hl
  have hcc : (cc (zck 0)) = #[.int .u8 0, .int .u8 0, .int .u32 0, .int .u16 0, .int .u16 0, .int .u32 0, .int .u32 0, .int .u32 0, .int .u16 0, .int .u16 0, .slice none 0 0, .slice none 0 0, .slice none 0 0, .slice none 0 0, .slice none 0 0] := rfl
  rw [hcc] at S0
  have HS := hidden S0
  have DE := hidden (Par.rDecode base _ a len cap v (hr.later S0.2.2.1) hlc hnn)
  clear S0 hcc hr hl hlc hnn
  go_enter Try.func39, Try.ntmps39
  go_wp2_with fail
  generalize hW : World.alloc (World.alloc w (.cells (cc c) 39)) _ = W at *
  clear hW
  refine Calls.mono DE.out ?_
  rintro e w1 ⟨pa, n, pcap, ps, q, cd, rfl, hP, _, hO, b1⟩
  have s1 := HS.out.later b1
  have hP' : Prms (w.heap.size + 2) w1 pa n ps := prms_mono hP HS.out.2.2.2.1
  have HO := hidden hO
  have HP := hidden hP'
  have HS1 := hidden s1
  clear DE hP hP' hO s1 b1 HS
  by_cases hcd : cd = 0
  case neg =>
    have hne := bne_t hcd
    obtain ⟨f1, f2, f3, f4, f5⟩ := HS1.out.fin
    have F3 := hidden f3
    have F4 := hidden f4
    have HCD := hidden hcd
    clear f3 f4 f5 hcd
    go_wp2
    exact bodyPost_ret (v := .tuple #[cv c, .int .i64 cd]) (cell_res2 Try.results39 F3.out _ rfl rfl) rfl ⟨c, cd, rfl, F4.out, _, q, cd, HO.out, .inl ⟨HCD.out, rfl⟩⟩
  subst hcd
  have q14 := HS1.out.1.c14
  have z14 := HS1.out.1.fr 14
  have s2 := HS1.out.store (HS1.out.1.s14 pa n pcap ps) (lsts_p HS1.out.2.2.2.2 HP.out)
  have HS2 := hidden s2
  have HP2 := hidden (HP.out.set (x := ⟨w.heap.size, 14, none⟩) (by simp) (.slice pa n pcap))
  have l2 := s2.1.ld
  clear s2
  go_wp2_with fail
  clear q14 z14 l2
  generalize w1.setCell ⟨w.heap.size, 14, none⟩ (.slice pa n pcap) = W2 at *
  generalize hc2 : ({ c with pa := pa, pl := n, pc := pcap, ps := ps } : Ck) = c2 at *
  have HC2 := hidden hc2
  have hk2 : c2.kind = c.kind := by rw [← hc2]
  have HV2 := hidden (show val c2 = { val c with ps := ps.map Par.val } by rw [← hc2]; rfl)
  refine Calls.mono (rBeat c2 W2) ?_
  rintro e w3 ⟨rfl, b3⟩
  rw [hk2]
  have s3 := HS2.out.later b3
  have hP3 := HP2.out.later b3
  obtain ⟨f1, f2, f3, f4, f5⟩ := s3.fin
  have F3 := hidden f3
  have F4 := hidden f4
  have F5 := hidden f5
  have hpl := hP3.1
  clear hc2 hk2 b3 s3 f3 f4 f5 HS1 HS2 HP HP2 HC2
  by_cases hb : beat c.kind = true
  case neg =>
    have hb' : beat c.kind = false := by simpa using hb
    have HB := hidden hb
    rw [hb']
    clear hb hb' hP3
    go_wp2
    exact bodyPost_ret (v := .tuple #[cv c2, .int .i64 0]) (cell_res2 Try.results39 F3.out _ rfl rfl) rfl ⟨c2, 0, rfl, F4.out, _, q, 0, HO.out, .inr (.inr ⟨rfl, fun h => absurd h HB.out, rfl, HV2.out, F5.out⟩)⟩
  rw [hb]
  have HB := hidden hb
  clear hb
  by_cases h1 : n = 1
  case neg =>
    have e1 : ((n : Int) != 1) = true := bne_t (by omega)
    have HN := hidden (show ¬ OneBeat (ps.map Par.val) from fun ⟨b, h⟩ => by
      have := congrArg List.length h
      simp at this
      omega)
    clear hP3 h1
    go_wp2
    exact bodyPost_ret (v := .tuple #[cv c2, .int .i64 61]) (cell_res2 Try.results39 F3.out _ rfl rfl) rfl ⟨c2, 61, rfl, F4.out, _, q, 0, HO.out, .inr (.inl ⟨rfl, HB.out, HN.out, rfl⟩)⟩
  subst h1
  obtain ⟨b, off, t, a', len', cap', zs', rfl, hpk, hc1, _, _⟩ := hP3.get (k := 0) (by omega)
  obtain ⟨p, rfl⟩ : ∃ p, ps = [p] := by
    match ps, hpl with
    | [p], _ => exact ⟨p, rfl⟩
  simp only [List.getElem?_cons_zero, Option.some.injEq] at hpk
  subst hpk
  simp only [Nat.zero_mul, Nat.add_zero] at hc1
  clear hP3 hpl
  by_cases ht : t = 1
  · subst ht
    have HN := hidden (show OneBeat ([((1 : Int), a', len', cap', zs')].map Par.val) from ⟨zs', rfl⟩)
    go_wp2
    exact bodyPost_ret (v := .tuple #[cv c2, .int .i64 0]) (cell_res2 Try.results39 F3.out _ rfl rfl) rfl ⟨c2, 0, rfl, F4.out, _, q, 0, HO.out, .inr (.inr ⟨rfl, fun _ => HN.out, rfl, HV2.out, F5.out⟩)⟩
  · have e1 := bne_t ht
    have HN := hidden (show ¬ OneBeat ([(t, a', len', cap', zs')].map Par.val) from fun ⟨b, h⟩ => by simp [Par.val] at h; exact ht h.1)
    clear ht
    go_wp2
    exact bodyPost_ret (v := .tuple #[cv c2, .int .i64 61]) (cell_res2 Try.results39 F3.out _ rfl rfl) rfl ⟨c2, 61, rfl, F4.out, _, q, 0, HO.out, .inr (.inl ⟨rfl, HB.out, HN.out, rfl⟩)⟩
end Go.Proofs.Ytifdkpifambhaab.Chu
