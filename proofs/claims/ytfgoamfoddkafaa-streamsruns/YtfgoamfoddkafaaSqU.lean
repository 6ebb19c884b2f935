/-
  A message is pushed onto the document's queue.
  Conditions: the queue lies in memory, the bytes can be read.
-/
import Derived.Test.YtfgoamfoddkafaaSqT
namespace Go.Proofs.Ytfgoamfoddkafaa.Sq
open Go.ChangeShapes Go.WideShapes Go.ChangeAt Go.RowKit
open Ba (hidden Has Only cell_lt heap_lt)
set_option linter.unusedVariables false
theorem run_be (i : Int) (pr : Int) (un : Bool) (a : Option Addr) (l c : Nat) (w : World) : (Instr.build 78 #[(0, mv i 0 pr un (.slice a l c))]).run Try.prog w = .ok (.agg #[.int .u16 i, .int .u16 0, .int .u32 pr, .bool un, .slice a l c, .int .i64 0]) w := by
  unfold mv
  kernel_rfl
theorem run_b0 (w : World) : (Instr.buildSlice 34 0 #[]).run Try.prog w = .ok (.slice (some ⟨w.heap.size, 0, none⟩) 0 0) (w.alloc (.cells #[] 5)) := by
  kernel_rfl
theorem run_b1 (i : Int) (pr : Int) (un : Bool) (a : Option Addr) (l c : Nat) (w : World) : (Instr.buildSlice 63 1 #[(0, .agg #[.int .u16 i, .int .u16 0, .int .u32 pr, .bool un, .slice a l c, .int .i64 0])]).run Try.prog w = .ok (.slice (some ⟨w.heap.size, 0, none⟩) 1 1) (w.alloc (.cells #[.int .u16 i, .int .u16 0, .int .u32 pr, .bool un, .slice a l c, .int .i64 0] 78)) := by
  kernel_rfl
/-- worlds while a message is appended -/
structure PuR (W0 W1 W2 W3 W4 W5 : World) (k : Nat) (w' : World) : Prop where
  h0 : k = 0 → w' = W0
  h1 : k = 1 → w' = W1
  h2 : k = 2 → w' = W2
  h3 : k = 3 → w' = W3
  h4 : k = 4 → w' = W4
  h5 : k = 5 → w' = W5
theorem PuR.zero (W0 W1 W2 W3 W4 W5 : World) : PuR W0 W1 W2 W3 W4 W5 0 W0 := ⟨fun _ => rfl, fun e => absurd e (by decide), fun e => absurd e (by decide), fun e => absurd e (by decide), fun e => absurd e (by decide), fun e => absurd e (by decide)⟩
theorem PuR.one (W0 W1 W2 W3 W4 W5 : World) : PuR W0 W1 W2 W3 W4 W5 (0 + 1) W1 := ⟨fun e => absurd e (by decide), fun _ => rfl, fun e => absurd e (by decide), fun e => absurd e (by decide), fun e => absurd e (by decide), fun e => absurd e (by decide)⟩
theorem PuR.two (W0 W1 W2 W3 W4 W5 : World) : PuR W0 W1 W2 W3 W4 W5 (1 + 1) W2 := ⟨fun e => absurd e (by decide), fun e => absurd e (by decide), fun _ => rfl, fun e => absurd e (by decide), fun e => absurd e (by decide), fun e => absurd e (by decide)⟩
theorem PuR.three (W0 W1 W2 W3 W4 W5 : World) : PuR W0 W1 W2 W3 W4 W5 (2 + 1) W3 := ⟨fun e => absurd e (by decide), fun e => absurd e (by decide), fun e => absurd e (by decide), fun _ => rfl, fun e => absurd e (by decide), fun e => absurd e (by decide)⟩
theorem PuR.four (W0 W1 W2 W3 W4 W5 : World) : PuR W0 W1 W2 W3 W4 W5 (3 + 1) W4 := ⟨fun e => absurd e (by decide), fun e => absurd e (by decide), fun e => absurd e (by decide), fun e => absurd e (by decide), fun _ => rfl, fun e => absurd e (by decide)⟩
theorem PuR.five (W0 W1 W2 W3 W4 W5 : World) : PuR W0 W1 W2 W3 W4 W5 (4 + 1) W5 := ⟨fun e => absurd e (by decide), fun e => absurd e (by decide), fun e => absurd e (by decide), fun e => absurd e (by decide), fun e => absurd e (by decide), fun _ => rfl⟩
theorem PuR.cell {W0 W1 W2 W3 W4 W5 w' : World} {k : Nat} {p : Addr} {u : Value} (h : PuR W0 W1 W2 W3 W4 W5 k w') (hc : W0.cell? p = some u ∧ W1.cell? p = some u ∧ W2.cell? p = some u ∧ W3.cell? p = some u) (hk : k ≤ 3) : w'.cell? p = some u := by
  rcases (show k = 0 ∨ k = 1 ∨ k = 2 ∨ k = 3 by omega) with e | e | e | e
  · rw [h.h0 e]; exact hc.1
  · rw [h.h1 e]; exact hc.2.1
  · rw [h.h2 e]; exact hc.2.2.1
  · rw [h.h3 e]; exact hc.2.2.2
theorem app_ent {w : World} {base : Nat} {v : Value} {Q ns : List Ent} {ad : Addr} {c : Nat} (h : w.ownsRow base 78 6 v Q.length (ecs Q)) (hb : base ≤ w.heap.size) (hl : Q.length + ns.length ≤ 2147483648) (hm : 0 < ns.length ∨ v.ownBlock ≠ none) (h1 : ∀ e ∈ ns, e.v.oneCell' = true) (hn : ∀ j u, (ecs ns)[j]? = some u → w.cell? (ad.add j) = some u) (ty : TypeId) :
    ∃ v' w2, (Builtin.append_ #[63, 63] ty #[v, .slice (some ad) ns.length c]).run Try.prog w = .ok v' w2 ∧ w2.ownsRow base 78 6 v' (Q ++ ns).length (ecs (Q ++ ns)) ∧ w.grownBy w2 v.ownBlock ∧ (v'.ownBlock = v.ownBlock ∨ v'.ownBlock = some w.heap.size) := by
  obtain ⟨v', w2, hr, g1, g2, g3⟩ := Ba.append_at (P := Try.prog) (ty := ty) (m := ns.length) (c := c) (ad := ad) (news := ecs ns) Try.underlying63 infoEn rfl (by decide) h (ecs_len ns) hn (fun u hu => by
    obtain ⟨e, he, hz⟩ := List.mem_flatMap.1 hu
    simp only [ec, List.mem_cons, List.not_mem_nil, or_false] at hz
    rcases hz with rfl | rfl | rfl | rfl | rfl | rfl
    case inr.inr.inr.inr.inl => exact h1 e he
    all_goals rfl) hm (by unfold maxLen; omega) (by omega) hb
  refine ⟨v', w2, hr, ?_, g2, g3⟩
  rw [List.length_append, ecs_app]
  exact g1
theorem own_mod {base E s n : Nat} {w w' : World} {v : Value} {xs : List Value} (h : w.ownsRow base E s v n xs) (hg : w.grownBy w' v.ownBlock) (ht : E = 65 ∨ E = 78 ∨ E = 32) : Mod (Gr base w) w w' :=
  Mod.grown hg (fun k hk => by
    rcases h.2 with ⟨rfl, _⟩ | ⟨g, cap, cur, rfl, hb, hg', _⟩
    · cases hk
    · cases hk; exact ⟨hb, cur, E, hg', ht⟩)
section
variable {base : Nat} {w w' : World} {r bs : Nat} {vL : Value} {S : St} {Q : List Ent} {rl s pr : Int} {un : Bool} {a : Option Addr} {len cap : Nat} {zs : List Int}
def PsO (base : Nat) (w : World) (r : Nat) (S : St) (s pr : Int) (un : Bool) (zs : List Int) (e : Ending) (w' : World) : Prop :=
  e = .returned (.int .i64 (pushE S s zs)) ∧ Rf base w' r (if pushE S s zs = 0 then pushS S s.toNat pr un zs else S) ∧ Mod (Gr base w) w w'
theorem rpush_st (h : Ro base w r bs vL S Q rl) (hs : 0 ≤ s ∧ s < 65536) (h1 : (S.n : Int) ≤ s) : Calls Try.prog 21 #[.pointer (some ⟨r, 0, none⟩), .int .u16 s, .int .u32 pr, .bool un, .slice a len cap] w fun e w' => e = .returned (.int .i64 160) ∧ w = w' := by
  have c0 := h.q.cell 0 rfl
  have hw : IntKind.i64.wrap s = s := by rw [IntKind.wrap_i64]; omega
  clear h hs
  go_enter Try.func21, Try.ntmps21
  go_wp2
  go_ret
  exact ⟨rfl, rfl⟩
theorem rpush_long (h : Ro base w r bs vL S Q rl) (hs : 0 ≤ s ∧ s < 65536) (h1 : s < (S.n : Int)) (h2 : len < 1 ∨ 65536 < len) : Calls Try.prog 21 #[.pointer (some ⟨r, 0, none⟩), .int .u16 s, .int .u32 pr, .bool un, .slice a len cap] w fun e w' => e = .returned (.int .i64 2) ∧ w = w' := by
  have c0 := h.q.cell 0 rfl
  have hw : IntKind.i64.wrap s = s := by rw [IntKind.wrap_i64]; omega
  have hns : ¬ ((S.n : Int) ≤ s) := by omega
  clear h hs
  by_cases h3 : len < 1
  · obtain rfl : len = 0 := by omega
    clear h2 h3
    go_enter Try.func21, Try.ntmps21
    go_wp2
    go_ret
    exact ⟨rfl, rfl⟩
  · have h4 : (65536 : Int) < (len : Int) := by omega
    have h5 : ¬ len = 0 := by omega
    clear h2 h3
    go_enter Try.func21, Try.ntmps21
    go_wp2
    go_ret
    exact ⟨rfl, rfl⟩
theorem rpush_room (h : Ro base w r bs vL S Q rl) (hs : 0 ≤ s ∧ s < 65536) (h1 : s < (S.n : Int)) (h2 : 1 ≤ len) (h3 : len ≤ 65536) (h4 : S.lim - (S.wt + S.tk) < (len : Int)) : Calls Try.prog 21 #[.pointer (some ⟨r, 0, none⟩), .int .u16 s, .int .u32 pr, .bool un, .slice a len cap] w fun e w' => e = .returned (.int .i64 161) ∧ ∃ m, w.drewN m = w' := by
  have c0 := h.q.cell 0 rfl
  have c1 := h.q.cell 1 rfl
  have c5 := h.q.cell 5 rfl
  have hw : IntKind.i64.wrap s = s := by rw [IntKind.wrap_i64]; omega
  have hns : ¬ ((S.n : Int) ≤ s) := by omega
  have b1 := h.gd.h
  have b2 := h.gd.w1
  have b3 := h.gd.t0
  have b4 := h.gd.l2
  have hw1 : IntKind.i64.wrap (S.wt + S.tk) = S.wt + S.tk := by rw [IntKind.wrap_i64]; omega
  have hw2 : IntKind.i64.wrap (S.wt + S.tk + (len : Int)) = S.wt + S.tk + len := by rw [IntKind.wrap_i64]; omega
  have hgt : S.lim < S.wt + S.tk + (len : Int) := by omega
  have h5 : ¬ len = 0 := by omega
  have h6 : ¬ ((65536 : Int) < (len : Int)) := by omega
  have CW : Hid (∀ v : World, v.heap = w.heap → Calls Try.prog 26 #[.pointer (some ⟨r, 0, none⟩)] v fun e w' => e = .returned (.int .i64 S.wt) ∧ ∃ m, w' = v.drewN m) := fun v hv => rwaiting (h.same hv)
  clear h hs b1 b2 b3 b4 h2 h3 h4
  go_enter Try.func21, Try.ntmps21
  go_wp2_with fail
  go_quiet (first | (go_at_call 26; refine Calls.quiet_of (CW.out _ rfl)))
  go_wp2
  go_ret
  exact ⟨rfl, nq, rfl⟩
set_option maxHeartbeats 1000000 in
theorem rpush_ok {i : Nat} (h : Ro base w r bs vL S Q rl) (hbase : base ≤ w.heap.size) (hi : i < S.n) (hp : 0 ≤ pr ∧ pr < 4294967296) (hr : Row w a len zs) (hnil : a = none → len = 0 ∧ cap = 0) (h2 : 1 ≤ len) (h3 : len ≤ 65536) (h4 : ¬ S.lim - (S.wt + S.tk) < (len : Int)) : Calls Try.prog 21 #[.pointer (some ⟨r, 0, none⟩), .int .u16 (i : Int), .int .u32 pr, .bool un, .slice a len cap] w fun e w' => e = .returned (.int .i64 0) ∧ Rf base w' r (pushS S i pr un zs) ∧ Mod (Gr base w) w w' := by
  have c0 := h.q.cell 0 rfl
  have c1 := h.q.cell 1 rfl
  have c5 := h.q.cell 5 rfl
  have b1 := h.gd.h
  have b2 := h.gd.w1
  have b3 := h.gd.t0
  have b4 := h.gd.l2
  have b5 := h.gd.n2
  have hw : IntKind.i64.wrap (i : Int) = (i : Int) := by rw [IntKind.wrap_i64]; omega
  have hns : ¬ ((S.n : Int) ≤ (i : Int)) := by omega
  have hw1 : IntKind.i64.wrap (S.wt + S.tk) = S.wt + S.tk := by rw [IntKind.wrap_i64]; omega
  have hw2 : IntKind.i64.wrap (S.wt + S.tk + (len : Int)) = S.wt + S.tk + len := by rw [IntKind.wrap_i64]; omega
  have hgt : ¬ (S.lim < S.wt + S.tk + (len : Int)) := by omega
  have h5 : ¬ len = 0 := by omega
  have h6 : ¬ ((65536 : Int) < (len : Int)) := by omega
  have CW : Hid (∀ v : World, v.heap = w.heap → Calls Try.prog 26 #[.pointer (some ⟨r, 0, none⟩)] v fun e w' => e = .returned (.int .i64 S.wt) ∧ ∃ m, w' = v.drewN m) := fun v hv => rwaiting (h.same hv)
  have H := hidden h
  have HR := hidden hr
  have HNIL := hidden hnil
  have HBS := hidden hbase
  have HLN := hidden (And.intro h2 (And.intro h3 (And.intro h4 (And.intro hi hp))))
  clear h b1 b2 b3 b4 b5 h2 h3 h4 hr hnil hbase hi hp
  go_enter Try.func21, Try.ntmps21
  go_wp2_with fail
  go_quiet (first | (go_at_call 26; refine Calls.quiet_of (CW.out _ rfl)))
  obtain ⟨w3, hw3, hh3⟩ : ∃ w3, w.drewN nq = w3 ∧ Hid (w3.heap = w.heap ∧ Below w.heap.size w w3) := ⟨_, rfl, rfl, ⟨rfl, rfl, rfl, Nat.le_refl _, fun _ _ => rfl⟩⟩
  rw [hw3]
  clear hw3
  have hdrew : ∀ x : World, Below x.heap.size x x.drew := fun x => ⟨rfl, rfl, rfl, Nat.le_refl _, fun _ _ => rfl⟩
  have h3 := (H.out.same hh3.out.1).later (hdrew w3)
  have hrow3 := (HR.out.later hh3.out.2).later (hdrew w3)
  obtain ⟨g, vc, wc, hr1, hm1, hB1, hg1, hg2⟩ := own_copy (cap := cap) hrow3 HNIL.out
  have h3c := h3.later hB1
  have hB2 : Below wc.heap.size wc (wc.alloc (.cells (ec ⟨i, 0, pr, un, zs, 0, .slice (some ⟨g, 0, none⟩) len vc⟩).toArray 78)) := (Below.refl _ wc).alloc (Nat.le_refl _) _
  have h3d := h3c.later hB2
  have hsz3 : base ≤ wc.heap.size := Nat.le_trans HBS.out (Nat.le_trans hh3.out.2.size hB1.size)
  obtain ⟨v2, w2, hr2, hm2, hg2', hp2⟩ := app_ent (ns := [⟨i, 0, pr, un, zs, 0, .slice (some ⟨g, 0, none⟩) len vc⟩]) (ad := ⟨wc.heap.size, 0, none⟩) (c := 1) h3d.om (Nat.le_trans hsz3 hB2.size) (by have := H.out.len; simp only [List.length_cons, List.length_nil]; omega) (.inl (by simp)) (fun e he => by rw [List.mem_singleton] at he; subst he; rfl) (fun j u hj => by
    rw [add_at, Nat.zero_add]
    refine (Has.new wc (ec ⟨i, 0, pr, un, zs, 0, .slice (some ⟨g, 0, none⟩) len vc⟩).toArray 78).cell j ?_
    simp only [ecs, List.flatMap_cons, List.flatMap_nil, List.append_nil] at hj
    rw [← hj]
    exact List.getElem?_toArray (xs := ec ⟨i, 0, pr, un, zs, 0, .slice (some ⟨g, 0, none⟩) len vc⟩) (i := j)) 63
  have hmod2 := own_mod h3d.om hg2' (.inr (.inl rfl))
  have hty : ∀ {k : Nat} {cs : Array Value} {ty : TypeId}, Has (wc.alloc (.cells (ec ⟨i, 0, pr, un, zs, 0, .slice (some ⟨g, 0, none⟩) len vc⟩).toArray 78)) k cs ty → ty ≠ 78 → Has w2 k cs ty := fun {k cs ty} hh ht => by
    refine (Mod.grown (F := fun k => vL.ownBlock = some k) hg2' (fun k hk => hk)).has hh (fun e => ?_)
    rcases h3d.om.2 with ⟨e0, _⟩ | ⟨g', cap', cur', e0, _, hg', _⟩
    · rw [e0] at e; cases e
    · rw [e0] at e; cases e; exact ht (has_type hh hg')
  have hq2 := hty h3d.q (by decide)
  obtain ⟨va, vcc, hve⟩ := Ba.own_len hm2
  have hsto : (Instr.storeAt 63 (.pointer (some ⟨r, 2, none⟩)) v2).run Try.prog w2 = .ok () (w2.setCell ⟨r, 2, none⟩ v2) := by
    have q2 := hq2.cell 2 rfl
    have f2 := hq2.frozen 2
    rw [hve]
    simp [go_sem, q2, f2]
  obtain ⟨va0, vc0, hve0⟩ := Ba.own_len h3.om
  have CL : Hid (w3.drew.cell? ⟨r, 2, none⟩ = some vL ∧ (w3.drew.alloc (.cells #[] 5)).cell? ⟨r, 2, none⟩ = some vL ∧ wc.cell? ⟨r, 2, none⟩ = some vL ∧ (wc.alloc (.cells #[.int .u16 (i : Int), .int .u16 0, .int .u32 pr, .bool un, .slice (some ⟨g, 0, none⟩) len vc, .int .i64 0] 78)).cell? ⟨r, 2, none⟩ = some vL) :=
    ⟨h3.q.cell 2 rfl, (h3.q.later ((Below.refl _ w3.drew).alloc (Nat.le_refl _) (.cells #[] 5))).cell 2 rfl, h3c.q.cell 2 rfl, h3d.q.cell 2 rfl⟩
  have HVE := hidden hve0
  have HR1 := hidden hr1
  have HR2 : Hid ((Builtin.append_ #[63, 63] 63 #[vL, .slice (some ⟨wc.heap.size, 0, none⟩) 1 1]).run Try.prog (wc.alloc (.cells #[.int .u16 (i : Int), .int .u16 0, .int .u32 pr, .bool un, .slice (some ⟨g, 0, none⟩) len vc, .int .i64 0] 78)) = .ok v2 w2) := hr2
  have HR3 := hidden hsto
  -- the queue behind it
  have hBC := hB1.trans (hB2.mono hB1.size)
  have HEND : Hid (Rf base (w2.setCell ⟨r, 2, none⟩ v2) r (pushS S i pr un zs) ∧ Mod (Gr base w) w (w2.setCell ⟨r, 2, none⟩ v2)) := by
    obtain ⟨l1, l2, l3, l4, l5⟩ := HLN.out
    have hzl : zs.length = len := hrow3.1
    have hm1' : Mod (fun k => k = r) w2 (w2.setCell ⟨r, 2, none⟩ v2) := Mod.setCell (F := fun k => k = r) w2 (p := ⟨r, 2, none⟩) rfl _
    have hne : ∀ {k : Nat} {cs : Array Value} {ty : TypeId}, Has w2 k cs ty → ty ≠ 65 → ¬ k = r := fun hh ht e => by subst e; exact ht (has_type hh hq2)
    obtain ⟨cs, hc, hl⟩ := h3d.hs
    have hc2 := hty hc (by decide)
    refine ⟨⟨bs, v2, Q ++ [⟨i, 0, pr, un, zs, 0, .slice (some ⟨g, 0, none⟩) len vc⟩], rl, hq2.set 2 _, ⟨cs, hm1'.has hc2 (hne hc2 (by decide)), hl⟩, ⟨hm2.1, ?_⟩, fun e he => ?_, H.out.rb, H.out.sb, H.out.rel.push l4 pr un (by omega) (by omega) _, H.out.gd.push l4 l5.1 l5.2 hrow3.2.1 (by omega) (by omega) (by omega)⟩, ?_⟩
    · rcases hm2.2 with h0 | ⟨g', cap', cur', rfl, hb', hg', rr⟩
      · exact .inl h0
      · exact .inr ⟨g', cap', cur', rfl, hb', hm1'.has (b := g') hg' (hne hg' (by decide)), rr⟩
    · have hby : By (fun _ => True) (wc.alloc (.cells (ec ⟨i, 0, pr, un, zs, 0, .slice (some ⟨g, 0, none⟩) len vc⟩).toArray 78)) e.v e.d := by
        rcases List.mem_append.1 he with h' | h'
        · exact h3d.by_ e h'
        · rw [List.mem_singleton] at h'
          subst h'
          have hm := hm1.later hB2
          exact By.of_own hm.1 hrow3.2.1 (by show 1 ≤ zs.length; omega) (by show zs.length ≤ 65536; omega) (fun _ _ => trivial)
      obtain ⟨g', off', cap', cur', e1, hd', hh', rr⟩ := hby
      have hh2 := hty hh' (by decide)
      exact ⟨g', off', cap', cur', e1, hd', hm1'.has hh2 (hne hh2 (by decide)), rr⟩
    · have hmA : Mod (Gr base w) w (wc.alloc (.cells (ec ⟨i, 0, pr, un, zs, 0, .slice (some ⟨g, 0, none⟩) len vc⟩).toArray 78)) := Mod.of_below ((hh3.out.2.trans ((hdrew w3).mono hh3.out.2.size)).trans (hBC.mono (Nat.le_trans hh3.out.2.size (Nat.le_refl _))))
      exact gr_trans (gr_trans hmA hmod2) (gr_set hq2 H.out.rb (.inl rfl) 2 v2)
  clear h3 hrow3 hr1 hm1 hB1 hg1 hg2 h3c hB2 h3d hsz3 hr2 hm2 hg2' hp2 hmod2 hty hq2 hve hsto hve0 hBC hdrew
  go_upto_region 7 with fail
  refine Ord.wp_region_ex0 (X := Unit) (by kernel_rfl) 58 (fun x => [(some 41, .pointer (some ⟨r, 0, none⟩)), (some 42, .pointer (some ⟨r, 0, none⟩)), (some 43, .pointer (some ⟨r, 0, none⟩)), (some 44, .pointer (some ⟨r, 2, none⟩)), (some 45, vL), (some 46, .int .u16 (i : Int)), (some 47, .int .u32 pr), (some 48, .bool un), (some 49, .slice (some ⟨w3.heap.size, 0, none⟩) 0 0), (some 50, .slice a len cap), (some 51, .slice (some ⟨g, 0, none⟩) len vc), (some 52, mv (i : Int) 0 pr un (.slice (some ⟨g, 0, none⟩) len vc)), (some 53, .agg #[.int .u16 (i : Int), .int .u16 0, .int .u32 pr, .bool un, .slice (some ⟨g, 0, none⟩) len vc, .int .i64 0]), (some 54, .slice (some ⟨wc.heap.size, 0, none⟩) 1 1), (some 55, v2), (some 56, .pointer (some ⟨r, 0, none⟩)), (some 57, .pointer (some ⟨r, 2, none⟩)), (none, undef)]) [some 41, some 42, some 43, some 44, some 45, some 46, some 47, some 48, some 49, some 50, some 51, some 52, some 53, some 54, some 55, some 56, some 57, none] rfl (fun listed hsz hr => Ord.all_listedC (rank := [0, 1, 2, 3, 4, 5, 6, 7, 8, 9, 10, 11, 12, 13, 14, 15, 16, 17]) (by kernel_rfl) hsz hr) (by rfl) (fun _ => rfl) (by kernel_rfl) (Rg.StM [8, 10, 13, 14, 17] (fun k x w' => PuR w3.drew (w3.drew.alloc (.cells #[] 5)) wc (wc.alloc (.cells #[.int .u16 (i : Int), .int .u16 0, .int .u32 pr, .bool un, .slice (some ⟨g, 0, none⟩) len vc, .int .i64 0] 78)) w2 (w2.setCell ⟨r, 2, none⟩ v2) k w')) (fun _ _ _ _ hL h => h.ext (n := 18) (by decide) hL) ?_ ?_ () ?_
  case refine_1 =>
    intro x Lq iq oq ac w' ho hi hcl hdep hF hW
    have f1 : ac.tmps.size = 58 := hF.1
    match iq, ho, hi, hdep with
    | 0, ho, hi, hdep =>
      cases ho
      have da0 : ac.eval (.tmp 0) = .pointer (some ⟨r, 0, none⟩) := hF.old 0 rfl
      exact Ord.ex_value x rfl rfl (Rg.mv da0 rfl) rfl (hW.keep (by decide))
    | 1, ho, hi, hdep =>
      cases ho
      have da0 : ac.eval (.tmp 0) = .pointer (some ⟨r, 0, none⟩) := hF.old 0 rfl
      exact Ord.ex_value x rfl rfl (Rg.mv da0 rfl) rfl (hW.keep (by decide))
    | 2, ho, hi, hdep =>
      cases ho
      have da0 : ac.eval (.tmp 42) = .pointer (some ⟨r, 0, none⟩) := hF.2.2.2 1 42 _ rfl (hdep ⟨1, .data⟩ (by simp) rfl)
      exact Ord.ex_value x rfl rfl (Rg.nilc da0 rfl) rfl (hW.keep (by decide))
    | 3, ho, hi, hdep =>
      cases ho
      have da0 : ac.eval (.tmp 43) = .pointer (some ⟨r, 0, none⟩) := hF.2.2.2 2 43 _ rfl (hdep ⟨2, .data⟩ (by simp) rfl)
      exact Ord.ex_value x rfl rfl (Rg.fa da0 rfl (by simp [go_sem])) rfl (hW.keep (by decide))
    | 4, ho, hi, hdep =>
      cases ho
      have da0 : ac.eval (.tmp 44) = .pointer (some ⟨r, 2, none⟩) := hF.2.2.2 3 44 _ rfl (hdep ⟨3, .data⟩ (by simp) rfl)
      obtain ⟨kq, hlo, hhi, hA⟩ := hW.range 0 3 (.inl rfl) (.inr ⟨14, rfl, (Rg.no_of (fun h => hcl 14 _ rfl (h) ⟨4, .data⟩ (by simp) rfl) hi)⟩)
      exact Ord.ex_value x rfl rfl (Rg.load da0 rfl (by have hcl := hA.cell CL.out hhi; rw [HVE.out] at hcl ⊢; simp [go_sem, hcl])) rfl (hW.keep (by decide))
    | 5, ho, hi, hdep =>
      cases ho
      have da0 : ac.eval (.tmp 1) = .int .u16 (i : Int) := hF.old 1 rfl
      exact Ord.ex_value x rfl rfl (Rg.mv da0 rfl) rfl (hW.keep (by decide))
    | 6, ho, hi, hdep =>
      cases ho
      have da0 : ac.eval (.tmp 2) = .int .u32 pr := hF.old 2 rfl
      exact Ord.ex_value x rfl rfl (Rg.mv da0 rfl) rfl (hW.keep (by decide))
    | 7, ho, hi, hdep =>
      cases ho
      have da0 : ac.eval (.tmp 3) = .bool un := hF.old 3 rfl
      exact Ord.ex_value x rfl rfl (Rg.mv da0 rfl) rfl (hW.keep (by decide))
    | 8, ho, hi, hdep =>
      cases ho
      have hA := hW.at (k := 0) rfl hi (.inl rfl)
      have hw := hA.h0 rfl
      subst hw
      exact Ord.ex_value x rfl rfl (Rg.bsl (ys := #[]) rfl (by simp) (run_b0 _)) rfl (hW.next (k := 0) rfl (by decide) hi (.inl rfl) (PuR.one _ _ _ _ _ _))
    | 9, ho, hi, hdep =>
      cases ho
      have da0 : ac.eval (.tmp 4) = .slice a len cap := hF.old 4 rfl
      exact Ord.ex_value x rfl rfl (Rg.mv da0 rfl) rfl (hW.keep (by decide))
    | 10, ho, hi, hdep =>
      cases ho
      have da0 : ac.eval (.tmp 49) = .slice (some ⟨w3.heap.size, 0, none⟩) 0 0 := hF.2.2.2 8 49 _ rfl (hdep ⟨8, .data⟩ (by simp) rfl)
      have da1 : ac.eval (.tmp 50) = .slice a len cap := hF.2.2.2 9 50 _ rfl (hdep ⟨9, .data⟩ (by simp) rfl)
      have hA := hW.at (k := 1) rfl hi (.inr ⟨8, rfl, (hdep ⟨8, .data⟩ (by simp) rfl)⟩)
      have hw := hA.h1 rfl
      subst hw
      exact Ord.ex_value x rfl rfl (Rg.app da0 da1 rfl HR1.out) rfl (hW.next (k := 1) rfl (by decide) hi (.inr ⟨8, rfl, (hdep ⟨8, .data⟩ (by simp) rfl)⟩) (PuR.two _ _ _ _ _ _))
    | 11, ho, hi, hdep =>
      cases ho
      have da0 : ac.eval (.tmp 46) = .int .u16 (i : Int) := hF.2.2.2 5 46 _ rfl (hdep ⟨5, .data⟩ (by simp) rfl)
      have da1 : ac.eval (.tmp 47) = .int .u32 pr := hF.2.2.2 6 47 _ rfl (hdep ⟨6, .data⟩ (by simp) rfl)
      have da2 : ac.eval (.tmp 48) = .bool un := hF.2.2.2 7 48 _ rfl (hdep ⟨7, .data⟩ (by simp) rfl)
      have da3 : ac.eval (.tmp 51) = .slice (some ⟨g, 0, none⟩) len vc := hF.2.2.2 10 51 _ rfl (hdep ⟨10, .data⟩ (by simp) rfl)
      exact Ord.ex_value x rfl rfl (Rg.bld rfl (by simp [da0, da1, da2, da3]) (run_bm _ pr un _ len vc _)) rfl (hW.keep (by decide))
    | 12, ho, hi, hdep =>
      cases ho
      have da0 : ac.eval (.tmp 52) = mv (i : Int) 0 pr un (.slice (some ⟨g, 0, none⟩) len vc) := hF.2.2.2 11 52 _ rfl (hdep ⟨11, .data⟩ (by simp) rfl)
      exact Ord.ex_value x rfl rfl (Rg.bld rfl (by simp [da0]) (run_be _ pr un _ len vc _)) rfl (hW.keep (by decide))
    | 13, ho, hi, hdep =>
      cases ho
      have da0 : ac.eval (.tmp 53) = .agg #[.int .u16 (i : Int), .int .u16 0, .int .u32 pr, .bool un, .slice (some ⟨g, 0, none⟩) len vc, .int .i64 0] := hF.2.2.2 12 53 _ rfl (hdep ⟨12, .data⟩ (by simp) rfl)
      have hA := hW.at (k := 2) rfl hi (.inr ⟨10, rfl, (hcl 11 _ rfl (hcl 12 _ rfl (hdep ⟨12, .data⟩ (by simp) rfl) ⟨11, .data⟩ (by simp) rfl) ⟨10, .data⟩ (by simp) rfl)⟩)
      have hw := hA.h2 rfl
      subst hw
      exact Ord.ex_value x rfl rfl (Rg.bsl rfl (by simp [da0]) (run_b1 _ pr un _ len vc _)) rfl (hW.next (k := 2) rfl (by decide) hi (.inr ⟨10, rfl, (hcl 11 _ rfl (hcl 12 _ rfl (hdep ⟨12, .data⟩ (by simp) rfl) ⟨11, .data⟩ (by simp) rfl) ⟨10, .data⟩ (by simp) rfl)⟩) (PuR.three _ _ _ _ _ _))
    | 14, ho, hi, hdep =>
      cases ho
      have da0 : ac.eval (.tmp 45) = vL := hF.2.2.2 4 45 _ rfl (hdep ⟨4, .data⟩ (by simp) rfl)
      have da1 : ac.eval (.tmp 54) = .slice (some ⟨wc.heap.size, 0, none⟩) 1 1 := hF.2.2.2 13 54 _ rfl (hdep ⟨13, .data⟩ (by simp) rfl)
      have hA := hW.at (k := 3) rfl hi (.inr ⟨13, rfl, (hdep ⟨13, .data⟩ (by simp) rfl)⟩)
      have hw := hA.h3 rfl
      subst hw
      exact Ord.ex_value x rfl rfl (Rg.app da0 da1 rfl HR2.out) rfl (hW.next (k := 3) rfl (by decide) hi (.inr ⟨13, rfl, (hdep ⟨13, .data⟩ (by simp) rfl)⟩) (PuR.four _ _ _ _ _ _))
    | 15, ho, hi, hdep =>
      cases ho
      have da0 : ac.eval (.tmp 41) = .pointer (some ⟨r, 0, none⟩) := hF.2.2.2 0 41 _ rfl (hdep ⟨0, .data⟩ (by simp) rfl)
      exact Ord.ex_value x rfl rfl (Rg.nilc da0 rfl) rfl (hW.keep (by decide))
    | 16, ho, hi, hdep =>
      cases ho
      have da0 : ac.eval (.tmp 56) = .pointer (some ⟨r, 0, none⟩) := hF.2.2.2 15 56 _ rfl (hdep ⟨15, .data⟩ (by simp) rfl)
      exact Ord.ex_value x rfl rfl (Rg.fa da0 rfl (by simp [go_sem])) rfl (hW.keep (by decide))
    | 17, ho, hi, hdep =>
      cases ho
      have da0 : ac.eval (.tmp 57) = .pointer (some ⟨r, 2, none⟩) := hF.2.2.2 16 57 _ rfl (hdep ⟨16, .data⟩ (by simp) rfl)
      have da1 : ac.eval (.tmp 55) = v2 := hF.2.2.2 14 55 _ rfl (hdep ⟨14, .data⟩ (by simp) rfl)
      have hA := hW.at (k := 4) rfl hi (.inr ⟨14, rfl, (hdep ⟨14, .data⟩ (by simp) rfl)⟩)
      have hw := hA.h4 rfl
      subst hw
      exact Rg.ex_skip x rfl rfl (Rg.sto da0 da1 rfl HR3.out) rfl (hW.next (k := 4) rfl (by decide) hi (.inr ⟨14, rfl, (hdep ⟨14, .data⟩ (by simp) rfl)⟩) (PuR.five _ _ _ _ _ _))
  case refine_3 => exact Rg.StM.first (PuR.zero _ _ _ _ _ _)
  case refine_2 =>
    intro _ w9 hW
    have hw9 := hW.last.h5 rfl
    subst hw9
    simp only [Ord.puts, Ord.prs]
    go_simp
    go_wp2
    go_ret
    exact ⟨rfl, HEND.out⟩
theorem rpushX (h : Ro base w r bs vL S Q rl) (hbase : base ≤ w.heap.size) (hs : 0 ≤ s ∧ s < 65536) (hp : 0 ≤ pr ∧ pr < 4294967296) (hr : Row w a len zs) (hnil : a = none → len = 0 ∧ cap = 0) : Calls Try.prog 21 #[.pointer (some ⟨r, 0, none⟩), .int .u16 s, .int .u32 pr, .bool un, .slice a len cap] w fun e w' => PsO base w r S s pr un zs e w' := by
  have hl := hr.1
  unfold PsO pushE
  by_cases h1 : (S.n : Int) ≤ s
  · rw [if_pos h1, if_neg (by decide)]
    refine (rpush_st h hs h1).mono ?_
    rintro e w' ⟨rfl, rfl⟩
    exact ⟨rfl, ⟨_, _, _, _, h⟩, Mod.refl _ _⟩
  · rw [if_neg h1]
    by_cases h2 : zs.length < 1 ∨ 65536 < zs.length
    · rw [if_pos h2, if_neg (by decide)]
      refine (rpush_long h hs (by omega) (by omega)).mono ?_
      rintro e w' ⟨rfl, rfl⟩
      exact ⟨rfl, ⟨_, _, _, _, h⟩, Mod.refl _ _⟩
    · rw [if_neg h2]
      by_cases h3 : S.lim - (S.wt + S.tk) < (zs.length : Int)
      · rw [if_pos h3, if_neg (by decide)]
        refine (rpush_room h hs (by omega) (by omega) (by omega) (by omega)).mono ?_
        rintro e w' ⟨rfl, m, rfl⟩
        exact ⟨rfl, ⟨_, _, _, _, h.same rfl⟩, Mod.drewN _ _ _⟩
      · rw [if_neg h3, if_pos rfl]
        obtain ⟨i, rfl⟩ : ∃ i : Nat, s = i := ⟨s.toNat, by omega⟩
        rw [Int.toNat_natCast]
        exact rpush_ok h hbase (by omega) hp hr hnil (by omega) (by omega) (by omega)
end
end Go.Proofs.Ytfgoamfoddkafaa.Sq
