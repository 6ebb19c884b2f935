/-
  Blocks of a report in memory, and what is asked of them.
  Conditions: as at each lemma.
-/
import Derived.Test.YtjceeckcfjjkkaaObE
import Derived.Lib.AppendZerosOnto
namespace Go.Proofs.Ytjceeckcfjjkkaa.Ob
open Go.ChangeShapes Go.WideShapes Go.ChangeAt Go.RowKit Go.Shelf
open Ba (hidden Has cell_lt heap_lt)
set_option linter.unusedVariables false

def gcs (gs : List (Int × Int)) : List Value := gs.flatMap fun g => [.int .u16 g.1, .int .u16 g.2]
theorem gcs_len (gs : List (Int × Int)) : (gcs gs).length = gs.length * 2 := flat_len (k := 2) (fun _ => rfl) gs
theorem gcs_append (gs hs : List (Int × Int)) : gcs (gs ++ hs) = gcs gs ++ gcs hs := by unfold gcs; rw [List.flatMap_append]
theorem gcs_get {gs : List (Int × Int)} {k : Nat} {g : Int × Int} (h : gs[k]? = some g) : (gcs gs)[k * 2]? = some (.int .u16 g.1) ∧ (gcs gs)[k * 2 + 1]? = some (.int .u16 g.2) :=
  ⟨(flat_at (k := 2) (f := fun g : Int × Int => [.int .u16 g.1, .int .u16 g.2]) (fun _ => rfl) gs h (c := 0) (by decide)).trans rfl, (flat_at (k := 2) (f := fun g : Int × Int => [.int .u16 g.1, .int .u16 g.2]) (fun _ => rfl) gs h (c := 1) (by decide)).trans rfl⟩
/-- numbers of blocks as they may be -/
def Gn (gs : List (Int × Int)) : Prop := ∀ g ∈ gs, 0 ≤ g.1 ∧ g.1 < 65536 ∧ 0 ≤ g.2 ∧ g.2 < 65536
/-- blocks that can be read -/
def Gp (Q : Nat → Prop) (w : World) (v : Value) (gs : List (Int × Int)) : Prop :=
  ∃ a cap, v = .slice a gs.length cap ∧ gs.length ≤ 70368744177664 ∧ Gn gs ∧ (gs = [] ∨ ∃ b off, a = some ⟨b, off, none⟩ ∧ Q b ∧ ∀ j u, (gcs gs)[j]? = some u → w.cell? ⟨b, off + j, none⟩ = some u)
section
variable {Q F D : Nat → Prop} {w w' : World} {v : Value} {gs : List (Int × Int)} {k : Nat}
theorem Gp.later (h : Gp Q w v gs) (hB : Below w.heap.size w w') : Gp Q w' v gs := by
  obtain ⟨a, cap, e, hl, hn, h⟩ := h
  refine ⟨a, cap, e, hl, hn, h.imp id ?_⟩
  rintro ⟨b, off, rfl, hq, hc⟩
  exact ⟨b, off, rfl, hq, fun j u hj => (hB.cell (cell_lt (hc j u hj))).trans (hc j u hj)⟩
theorem Gp.stay (h : Gp Q w v gs) (hm : Mod F w w') (hF : ∀ k, Q k → ¬ F k) : Gp Q w' v gs := by
  obtain ⟨a, cap, e, hl, hn, h⟩ := h
  refine ⟨a, cap, e, hl, hn, h.imp id ?_⟩
  rintro ⟨b, off, rfl, hq, hc⟩
  exact ⟨b, off, rfl, hq, fun j u hj => hm.cell (hc j u hj) (hF b hq)⟩
theorem Gp.mono {Q' : Nat → Prop} (h : Gp Q w v gs) (hQ : ∀ k, Q k → Q' k) : Gp Q' w v gs := by
  obtain ⟨a, cap, e, hl, hn, h⟩ := h
  refine ⟨a, cap, e, hl, hn, h.imp id ?_⟩
  rintro ⟨b, off, rfl, hq, hc⟩
  exact ⟨b, off, rfl, hQ b hq, hc⟩
theorem Gp.nil (a : Option Addr) (cap : Nat) : Gp Q w (.slice a 0 cap) [] := ⟨a, cap, rfl, by simp, (fun g hg => by cases hg), .inl rfl⟩
theorem Gp.get (h : Gp Q w v gs) (hk : k < gs.length) : ∃ b off cap s e, v = .slice (some ⟨b, off, none⟩) gs.length cap ∧ Q b ∧ gs[k]? = some (s, e) ∧ w.cell? ⟨b, off + k * 2, none⟩ = some (.int .u16 s) ∧ w.cell? ⟨b, off + k * 2 + 1, none⟩ = some (.int .u16 e) ∧ 0 ≤ s ∧ s < 65536 ∧ 0 ≤ e ∧ e < 65536 := by
  obtain ⟨a, cap, e, hl, hn, h⟩ := h
  rcases h with rfl | ⟨b, off, rfl, hq, hc⟩
  · simp at hk
  · obtain ⟨g1, g2⟩ := gcs_get (List.getElem?_eq_getElem hk)
    have hb := hn gs[k] (List.getElem_mem hk)
    exact ⟨b, off, cap, gs[k].1, gs[k].2, e, hq, List.getElem?_eq_getElem hk, hc _ _ g1, by rw [Nat.add_assoc]; exact hc _ _ g2, hb⟩
theorem Gp.slice (h : Gp Q w v gs) : ∃ a cap, v = .slice a gs.length cap ∧ gs.length ≤ 70368744177664 := by
  obtain ⟨a, cap, e, hl, _⟩ := h
  exact ⟨a, cap, e, hl⟩
theorem ord_take {g : Int × Int} (h : gs[k]? = some g) : ord (gs.take (k + 1)) = (ord (gs.take k) && (decide (g.1 ≠ 0) && decide (g.1 ≤ g.2))) := by
  rw [List.take_add_one, h]
  simp [ord, List.all_append]
theorem ord_false (h : ord (gs.take k) = false) : ord gs = false := by
  have e : ord gs = (ord (gs.take k) && ord (gs.drop k)) := by
    conv => lhs; rw [← List.take_append_drop k gs]
    unfold ord
    rw [List.all_append]
  rw [e, h]
  rfl
theorem far_append : ∀ (gs hs : List (Int × Int)), far (gs ++ hs) = max (far gs) (far hs)
  | [], hs => by have := far_nn hs; simp only [List.nil_append, far]; omega
  | g :: gs, hs => by simp only [List.cons_append, far, far_append gs hs]; omega
theorem far_take {g : Int × Int} (h : gs[k]? = some g) : far (gs.take (k + 1)) = max (far (gs.take k)) g.2 := by
  rw [List.take_add_one, h, far_append]
  simp only [Option.toList, far]
  have := far_nn (gs.take k)
  omega
theorem far_lt : ∀ (gs : List (Int × Int)), Gn gs → far gs < 65536
  | [], h => by decide
  | g :: gs, h => by
    have h1 := h g (by simp)
    have h2 := far_lt gs (fun x hx => h x (by simp [hx]))
    simp only [far]
    omega
theorem far_ge : ∀ (gs : List (Int × Int)) {g : Int × Int}, g ∈ gs → g.2 ≤ far gs
  | [], g, h => by cases h
  | x :: gs, g, h => by
    rcases List.mem_cons.1 h with rfl | h
    · simp only [far]; omega
    · have := far_ge gs h; simp only [far]; omega
theorem Gn.take (h : Gn gs) (k : Nat) : Gn (gs.take k) := fun g hg => h g (List.mem_of_mem_take hg)
set_option maxHeartbeats 1000000 in
theorem inOrder (h : Gp Q w v gs) : Calls Try.prog 51 #[v] w fun e w' => e = .returned (.bool (ord gs)) ∧ Below w.heap.size w w' := by
  have H := hidden h
  obtain ⟨a, cap, rfl, hl⟩ := h.slice
  clear h
  generalize hn : gs.length = n at hl
  have HN := hidden hn
  clear hn
  go_enter Try.func51, Try.ntmps51
  go_wp2_with fail
  go_loopw [7] (fun i wr => ∃ k : Nat, k ≤ n ∧ i = .int .i64 k ∧ ord (gs.take k) = true ∧ Below w.heap.size w wr) (fun i _ => n - (intOf i).toNat)
  case atStart => exact ⟨0, Nat.zero_le _, rfl, rfl, Below.refl _ _⟩
  case round =>
    obtain ⟨k, hk, rfl, hord, hB⟩ := hrel
    rcases Nat.lt_or_ge k n with hlt | hge
    · obtain ⟨b, off, cap', s, e, hv, _, hgk, c1, c2, hs0, hs1, he0, he1⟩ := (H.out.later hB).get (k := k) (by rw [HN.out]; exact hlt)
      cases hv
      have hbl : b < wr.heap.size := cell_lt c1
      have HO := hidden (ord_take hgk)
      rw [hord] at HO
      have HB := hidden hB
      clear hgk hord hB
      by_cases h0 : s = 0
      · subst h0
        go_wp2
        go_ret
        refine ⟨?_, HB.out.alloc HB.out.size _⟩
        rw [ord_false (k := k + 1) (by rw [HO.out]; simp)]
        rfl
      · have hsb : (s == 0) = false := by simp [h0]
        by_cases h1 : s ≤ e
        · have h2 : ¬ e < s := by omega
          go_wp2
          go_roundw
          case rel => exact ⟨k + 1, by omega, by go_num, by rw [HO.out]; simp [h0, h1], HB.out.alloc HB.out.size _⟩
          case measure => simp [intOf]; omega
        · have h2 : e < s := by omega
          go_wp2
          go_ret
          refine ⟨?_, HB.out.alloc HB.out.size _⟩
          rw [ord_false (k := k + 1) (by rw [HO.out]; simp [h1])]
          rfl
    · obtain rfl : n = k := by omega
      rw [List.take_of_length_le (by have := HN.out; omega)] at hord
      have HO := hidden hord
      clear hord
      go_wp2
      go_ret
      exact ⟨by rw [HO.out]; rfl, hB⟩
set_option maxHeartbeats 1000000 in
theorem farthest (h : Gp Q w v gs) : Calls Try.prog 54 #[v] w fun e w' => e = .returned (.int .u32 (far gs)) ∧ Below w.heap.size w w' := by
  have H := hidden h
  obtain ⟨a, cap, rfl, hl⟩ := h.slice
  have HG : Hid (Gn gs) := by obtain ⟨_, _, _, _, hn, _⟩ := h; exact hn
  clear h
  generalize hn : gs.length = n at hl
  have HN := hidden hn
  clear hn
  go_enter Try.func54, Try.ntmps54
  go_wp2_with fail
  go_loopw [3, 8] (fun f i wr => ∃ k : Nat, k ≤ n ∧ i = .int .i64 k ∧ f = .int .u16 (far (gs.take k)) ∧ Below w.heap.size w wr) (fun _ i _ => n - (intOf i).toNat)
  case atStart => exact ⟨0, Nat.zero_le _, rfl, rfl, Below.refl _ _⟩
  case round =>
    obtain ⟨k, hk, rfl, rfl, hB⟩ := hrel
    rcases Nat.lt_or_ge k n with hlt | hge
    · obtain ⟨b, off, cap', s, e, hv, _, hgk, c1, c2, hs0, hs1, he0, he1⟩ := (H.out.later hB).get (k := k) (by rw [HN.out]; exact hlt)
      cases hv
      have hbl : b < wr.heap.size := cell_lt c1
      have HO := hidden (far_take hgk)
      have HB := hidden hB
      have hf0 := far_nn (gs.take k)
      have hf1 := far_lt _ (HG.out.take k)
      generalize far (gs.take k) = fk at *
      clear hgk hB
      go_wp2
      go_roundw
      case rel => exact ⟨k + 1, by omega, by go_num, by rw [HO.out], HB.out.alloc HB.out.size _⟩
      case measure => simp [intOf]; omega
    · obtain rfl : n = k := by omega
      rw [List.take_of_length_le (by have := HN.out; omega)]
      have hf0 := far_nn gs
      have hf1 := far_lt _ HG.out
      generalize hfk : far gs = fk at *
      have HFK := hidden hfk
      clear hfk
      go_wp2
      go_ret
      exact ⟨by rw [HFK.out]; rfl, hB⟩
theorem isReport (s : Int) (w : World) : Calls Try.prog 50 #[.int .u8 s] w fun e w' => e = .returned (.bool (decide (s = 3 ∨ s = 16))) ∧ w = w' := by
  by_cases h0 : s = 3
  · subst h0
    go_enter Try.func50, Try.ntmps50
    go_wp2
    go_ret
    exact ⟨rfl, rfl⟩
  · have h0b : (s == 3) = false := by simp [h0]
    by_cases h1 : s = 16
    · subst h1
      go_enter Try.func50, Try.ntmps50
      go_wp2
      go_ret
      exact ⟨rfl, rfl⟩
    · have h1b : (s == 16) = false := by simp [h1]
      go_enter Try.func50, Try.ntmps50
      go_wp2
      go_ret
      exact ⟨by simp [h0, h1], rfl⟩
/-- a chunk as a value -/
structure Ck where
  kd : Int
  fg : Int
  tsn : Int
  sm : Int
  sn : Int
  pr : Int
  tag : Int
  win : Int
  out : Int
  inn : Int
  ga : Option Addr
  gl : Nat
  gc : Nat
  na : Option Addr
  nl : Nat
  nc : Nat
  da : Option Addr
  dl : Nat
  dc : Nat
  ba : Option Addr
  bl : Nat
  bc : Nat
  pa : Option Addr
  pl : Nat
  pc : Nat
def kcs (c : Ck) : Array Value := #[.int .u8 c.kd, .int .u8 c.fg, .int .u32 c.tsn, .int .u16 c.sm, .int .u16 c.sn, .int .u32 c.pr, .int .u32 c.tag, .int .u32 c.win, .int .u16 c.out, .int .u16 c.inn, .slice c.ga c.gl c.gc, .slice c.na c.nl c.nc, .slice c.da c.dl c.dc, .slice c.ba c.bl c.bc, .slice c.pa c.pl c.pc]
def kv (c : Ck) : Value := .agg (kcs c)
def Ck.nv (c : Ck) : Value := .slice c.na c.nl c.nc
def Ck.gv (c : Ck) : Value := .slice c.ga c.gl c.gc
def Ck.fv (c : Ck) : Value := if c.kd = 16 then c.nv else .slice none 0 0
theorem firm (c : Ck) (w : World) : Calls Try.prog 49 #[kv c] w fun e w' => e = .returned c.fv ∧ w' = w.alloc (.cells (kcs c) 48) := by
  obtain ⟨kd, fg, tsn, sm, sn, pr, tag, win, out, inn, ga, gl, gc, na, nl, nc, da, dl, dc, ba, bl, bc, pa, pl, pc⟩ := c
  unfold kv kcs Ck.fv Ck.nv
  simp only
  by_cases h0 : kd = 16
  · subst h0
    go_enter Try.func49, Try.ntmps49
    go_wp2
    go_ret
    exact ⟨rfl, rfl⟩
  · have h0b : (kd == 16) = false := by simp [h0]
    rw [if_neg h0]
    go_enter Try.func49, Try.ntmps49
    go_wp2
    go_ret
    exact ⟨rfl, rfl⟩
/-- a report as a value, out of memory -/
structure Rp (Q : Nat → Prop) (w : World) (c : Ck) (q : Rq) : Prop where
  kd : c.kd = q.kd
  ts : c.tsn = q.tsn
  t0 : 0 ≤ q.tsn
  t1 : q.tsn < 4294967296
  g : Gp Q w c.gv q.gs
  n : Gp Q w c.nv q.nr
  l : q.gs.length ≤ 35184372088831
  m : q.nr.length ≤ 35184372088831
theorem Rp.later {c : Ck} {q : Rq} (h : Rp Q w c q) (hB : Below w.heap.size w w') : Rp Q w' c q := ⟨h.kd, h.ts, h.t0, h.t1, h.g.later hB, h.n.later hB, h.l, h.m⟩
theorem Rp.stay {c : Ck} {q : Rq} (h : Rp Q w c q) (hm : Mod F w w') (hF : ∀ k, Q k → ¬ F k) : Rp Q w' c q := ⟨h.kd, h.ts, h.t0, h.t1, h.g.stay hm hF, h.n.stay hm hF, h.l, h.m⟩
theorem Rp.f {c : Ck} {q : Rq} (h : Rp Q w c q) : Gp Q w c.fv q.ns := by
  unfold Ck.fv Rq.ns
  rw [h.kd]
  by_cases e : q.kd = 16
  · rw [if_pos e, if_pos e]; exact h.n
  · rw [if_neg e, if_neg e]; exact Gp.nil _ _
theorem unsent {t f : Nat} {rv : Value} {P : List CV} {nx : Int} {n : Nat} {L : List Ch} {fs : Nat → Int} {m : Int} (h : No D w t f rv P nx n L fs m) (hx : 0 ≤ nx ∧ nx < 4294967296) (s : Int) (hs : 0 ≤ s ∧ s < 4294967296) :
    Calls Try.prog 53 #[.pointer (some ⟨t, 0, none⟩), .int .u32 s] w fun e w' => e = .returned (.bool (decide (0 ≤ Ser.dist 4294967296 nx s))) ∧ w = w' := by
  have c1 := h.q.cell 1 rfl
  have DF := hidden (fun w => Ser.diff nx s hx hs w)
  have hd := Ser.dist32_bounds nx s
  generalize Ser.dist 4294967296 nx s = d at *
  clear h
  go_enter Try.func53, Try.ntmps53
  go_wp2_with fail
  refine Calls.mono (DF.out _) ?_
  rintro e w' ⟨rfl, rfl⟩
  go_wp2
  go_ret
  exact ⟨rfl, rfl⟩
end
end Go.Proofs.Ytjceeckcfjjkkaa.Ob
