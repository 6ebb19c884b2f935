/-
  What crc's sumOf, Put and Check, and the library's functions that they call, return of a packet.
  Conditions: as at each contract.
-/
import Derived.Test.YtfibmpconfoieaaDoorParts
import Derived.Deep.RegionHeld3
import Derived.Deep.DrawnRows
import Derived.Lib.AppendZerosOnto
namespace Go.Proofs.YtfibmpconfoieaaDoor.Crc
open Go.ChangeShapes Go.WideShapes Go.ChangeAt Go.RowKit
set_option linter.unusedVariables false
attribute [local go_sem ↓] Go.wp_at_zero Go.wp_at_succ

/-- a packet with 0 in the place of its sum -/
def zed (zs : List Int) : List Int := zs.take 8 ++ ([0, 0, 0, 0] ++ zs.drop 12)

theorem cell_drew (w : World) (a : Addr) : w.drew.cell? a = w.cell? a := rfl

theorem Row.cut {w : World} {b off len : Nat} {zs : List Int} (h : Row w (some ⟨b, off, none⟩) len zs) (hl : 8 ≤ len) : Row w (some ⟨b, off, none⟩) 8 (zs.take 8) := by
  obtain ⟨h1, h2, h3, h4⟩ := h
  refine ⟨by rw [List.length_take]; omega, fun n hn => h2 n (List.mem_of_mem_take hn), by decide, .inr ⟨b, off, rfl, fun j hj => ?_⟩⟩
  rcases h4 with h4 | ⟨b', off', he, hc⟩
  · omega
  · cases he
    rw [hc j (by omega), List.getD_eq_getElem?_getD, List.getD_eq_getElem?_getD, List.getElem?_take, if_pos hj]

theorem Row.rest {w : World} {b off len : Nat} {zs : List Int} (h : Row w (some ⟨b, off, none⟩) len zs) (m cap : Nat) (hm : m ≤ len) (hcap : len ≤ cap) :
    Row w (if cap = m then some ⟨b, off, none⟩ else some ⟨b, off + m, none⟩) (len - m) (zs.drop m) := by
  obtain ⟨h1, h2, h3, h4⟩ := h
  refine ⟨by rw [List.length_drop]; omega, fun n hn => h2 n (List.mem_of_mem_drop hn), by omega, ?_⟩
  rcases Nat.eq_zero_or_pos (len - m) with h0 | hp
  · exact .inl h0
  · rw [if_neg (by omega)]
    rcases h4 with h4 | ⟨b', off', he, hc⟩
    · omega
    · cases he
      refine .inr ⟨b, off + m, rfl, fun j hj => ?_⟩
      rw [Nat.add_assoc, hc (m + j) (by omega), List.getD_eq_getElem?_getD, List.getD_eq_getElem?_getD, List.getElem?_drop]

theorem three (w : World) (g b off len cap : Nat) (zs ms : List Int) (a2 : Option Addr) (hg : g = w.heap.size) (h : Row w (some ⟨b, off, none⟩) len zs) (h12 : 12 ≤ len) (hcap : len ≤ cap) (h2 : Row w a2 4 ms) :
    Parts (w.alloc (.cells #[.slice (some ⟨b, off, none⟩) 8 cap, .slice a2 4 4, .slice (if cap = 12 then some ⟨b, off, none⟩ else some ⟨b, off + 12, none⟩) (len - 12) (cap - 12)] 22)).drew (some ⟨g, 0, none⟩) 3
      [(some ⟨b, off, none⟩, 8, cap, zs.take 8), (a2, 4, 4, ms), (if cap = 12 then some ⟨b, off, none⟩ else some ⟨b, off + 12, none⟩, len - 12, cap - 12, zs.drop 12)] := by
  have hb : ∀ o, Below w.heap.size w (w.alloc o).drew := fun o => ((Below.refl _ _).alloc (Nat.le_refl _) _).drew
  refine ⟨rfl, by decide, ?_, .inr ⟨_, _, rfl, ?_⟩⟩
  · intro p hp
    simp only [List.mem_cons, List.not_mem_nil, or_false] at hp
    rcases hp with rfl | rfl | rfl
    · exact (h.cut (by omega)).later (hb _)
    · exact h2.later (hb _)
    · exact (h.rest 12 cap h12 hcap).later (hb _)
  · intro j p hj
    rw [cell_drew, World.cell?_alloc_at _ _ _ _ hg]
    match j, hj with
    | 0, hj => cases hj; rfl
    | 1, hj => cases hj; rfl
    | 2, hj => cases hj; rfl

theorem all_three (p q r : Option Addr × Nat × Nat × List Int) : all [p, q, r] = p.2.2.2 ++ (q.2.2.2 ++ r.2.2.2) := by simp [all]

theorem zed_bytes {zs : List Int} (h : Bytes zs) : Bytes (zed zs) := by
  intro n hn
  simp only [zed, List.mem_append] at hn
  rcases hn with hn | hn | hn
  · exact h n (List.mem_of_mem_take hn)
  · simp only [List.mem_cons, List.not_mem_nil, or_false] at hn
    rcases hn with rfl | rfl | rfl | rfl <;> decide
  · exact h n (List.mem_of_mem_drop hn)

abbrev z4 : Obj := .cells #[.int .u8 0, .int .u8 0, .int .u8 0, .int .u8 0] 41

theorem row_z4 (w : World) (g : Nat) (hg : g = w.heap.size) : Row (w.alloc z4) (some ⟨g, 0, none⟩) 4 [0, 0, 0, 0] := by
  refine ⟨rfl, show ∀ n ∈ [(0 : Int), 0, 0, 0], 0 ≤ n ∧ n < 256 by decide, by decide, .inr ⟨g, 0, rfl, fun j hj => ?_⟩⟩
  rw [World.cell?_alloc_at _ _ _ _ hg]
  match j, hj with
  | 0, _ | 1, _ | 2, _ | 3, _ => rfl

/-- the bytes of a sum, the lowest first -/
def b4 (s : Nat) : List Int := [(s : Int) % 256, (s : Int) / 256 % 256, (s : Int) / 65536 % 256, (s : Int) / 16777216]
theorem b4_bytes (s : Nat) (h : s < 4294967296) : Bytes (b4 s) := by
  intro n hn
  simp only [b4, List.mem_cons, List.not_mem_nil, or_false] at hn
  rcases hn with rfl | rfl | rfl | rfl <;> omega
/-- as an array's value -/
abbrev v4 (s : Nat) : Array Value := #[.int .u8 ((s : Int) % 256), .int .u8 ((s : Int) / 256 % 256), .int .u8 ((s : Int) / 65536 % 256), .int .u8 ((s : Int) / 16777216)]

theorem sumOf (b off len cap : Nat) (zs : List Int) (w : World) (ht : Tab w) (h : Row w (some ⟨b, off, none⟩) len zs) (h12 : 12 ≤ len) (hcap : len ≤ cap) (hbig : len ≤ 140737488351232) :
    Calls Tryd.prog 19 #[.slice (some ⟨b, off, none⟩) len cap] w fun e w' => e = .returned (.agg (v4 (sum (zed zs)))) ∧ Below w.heap.size w w' := by
  have g1 : (0 : Int) ≤ 8 := by decide
  have g2 : (8 : Int) ≤ (len : Int) := by omega
  have g3 : (12 : Int) ≤ (len : Int) := by omega
  have g4 : (len : Int) ≤ (cap : Int) := by omega
  have g5 : (8 : Int) ≤ (cap : Int) := by omega
  have n1 : ¬ cap = 0 := by omega
  have b2 : Below w.heap.size w ((w.alloc z4).alloc z4) := ((Below.refl _ _).alloc (Nat.le_refl _) _).alloc (by simp) _
  have b3 : Below w.heap.size w (((w.alloc z4).alloc z4).alloc (.cells #[.slice (some ⟨b, off, none⟩) 8 cap, .slice (some ⟨w.heap.size + 1, 0, none⟩) 4 4, .slice (if cap = 12 then some ⟨b, off, none⟩ else some ⟨b, off + 12, none⟩) (len - 12) (cap - 12)] 22)).drew := (b2.alloc (by simp; omega) _).drew
  have hp := three ((w.alloc z4).alloc z4) (w.heap.size + 1 + 1) b off len cap zs [0, 0, 0, 0] (some ⟨w.heap.size + 1, 0, none⟩) (by simp) (h.later b2) h12 hcap (row_z4 _ _ (by simp))
  have H : Hid _ := crcsum _ 3 3 _ _ (ht.later b3 ht.pos) hp
  have hal : all [(some (⟨b, off, none⟩ : Addr), 8, cap, zs.take 8), (some ⟨w.heap.size + 1, 0, none⟩, 4, 4, [0, 0, 0, 0]), (if cap = 12 then some ⟨b, off, none⟩ else some ⟨b, off + 12, none⟩, len - 12, cap - 12, zs.drop 12)] = zed zs := all_three _ _ _
  rw [hal] at H
  have hs := sum_lt (zed zs) (zed_bytes h.2.1)
  obtain ⟨a3, hif⟩ : ∃ a3, (if cap = 12 then some (⟨b, off, none⟩ : Addr) else some ⟨b, off + 12, none⟩) = a3 := ⟨_, rfl⟩
  rw [hif] at H b3
  have HB : Hid _ := b3
  clear hp b2 b3 hal
  generalize sum (zed zs) = s at H hs ⊢
  go_enter Tryd.func19, Tryd.ntmps19
  go_wp2_with fail
  go_region_held3 (fun w' => True) (trivial) (first | (go_at_call 9; refine Calls.mono H.out ?_; rintro e w' ⟨rfl, rfl⟩))
  go_wp2
  refine wp_loop_rounds 5 ?_
  iterate 5 (rw [rounds_succ]; go_wp2)
  refine bodyPost_ret (v := .agg (v4 s)) (by simp [results, Tryd.results19, go_sem]) rfl ⟨rfl, ?_⟩
  exact ((((Below.refl _ _).alloc (Nat.le_refl _) _).alloc (by simp) _).alloc (by simp; omega) _).drew

theorem take_eq_step (xs ys : List Int) (k : Nat) (hx : k < xs.length) (hy : k < ys.length) : xs.take (k + 1) = ys.take (k + 1) ↔ xs.take k = ys.take k ∧ xs.getD k 0 = ys.getD k 0 := by
  rw [List.take_add_one, List.take_add_one, List.getElem?_eq_getElem hx, List.getElem?_eq_getElem hy, List.getD_eq_getElem?_getD, List.getD_eq_getElem?_getD, List.getElem?_eq_getElem hx, List.getElem?_eq_getElem hy]
  constructor
  · intro h
    have hl : (xs.take k).length = (ys.take k).length := by rw [List.length_take, List.length_take]; omega
    have := List.append_inj h hl
    simpa using this
  · rintro ⟨h1, h2⟩
    simp at h2
    rw [h1, h2]

theorem equal (b off b' off' n cap cap' : Nat) (xs ys : List Int) (w : World) (hx : Row w (some ⟨b, off, none⟩) n xs) (hy : Row w (some ⟨b', off', none⟩) n ys) (hn : 0 < n) :
    Calls Tryd.prog 21 #[.slice (some ⟨b, off, none⟩) n cap, .slice (some ⟨b', off', none⟩) n cap'] w fun e w' => e = .returned (.bool (decide (xs = ys))) ∧ Below w.heap.size w w' := by
  obtain ⟨hxl, hxb, hlim, hxc⟩ := hx
  obtain ⟨hyl, hyb, _, hyc⟩ := hy
  obtain ⟨_, _, he, hxc⟩ := hxc.resolve_left (by omega)
  cases he
  obtain ⟨_, _, he, hyc⟩ := hyc.resolve_left (by omega)
  cases he
  have hne : ((n : Int) != (n : Int)) = false := by simp
  go_enter Tryd.func21, Tryd.ntmps21
  go_wp2
  go_loopw [5, 13] (fun _ i wr => ∃ k : Nat, k ≤ n ∧ i = .int .i64 k ∧ xs.take k = ys.take k ∧ Below w.heap.size w wr)
    (fun _ i _ => n - (intOf i).toNat)
  case atStart => exact ⟨0, Nat.zero_le _, rfl, rfl, Below.refl _ _⟩
  case round =>
    obtain ⟨k, hk, rfl, heq, hbel⟩ := hrel
    rcases Nat.lt_or_ge k n with hlt | hge
    · have c1 := hxc k hlt
      have c1 := (hbel.cell (cell_lt c1)).trans c1
      have c2 := hyc k hlt
      have c2 := (hbel.cell (cell_lt c2)).trans c2
      have st := take_eq_step xs ys k (by omega) (by omega)
      generalize xs.getD k 0 = x at c1 st
      generalize ys.getD k 0 = y at c2 st
      have HS : Hid _ := st
      have HE : Hid _ := heq
      have k0 : (0 : Int) ≤ (k : Int) := by omega
      have k1 : (k : Int) < (n : Int) := by omega
      clear hxc hyc st heq
      by_cases hxy : x = y
      · subst hxy
        go_wp2
        go_region_held3 (fun w' => w'.cell? ⟨b, off + k, none⟩ = some (.int .u8 x) ∧ w'.cell? ⟨b', off' + k, none⟩ = some (.int .u8 x)) (go_keep) (fail)
        go_wp2
        go_roundw
        case rel => exact ⟨k + 1, by omega, by go_num, HS.out.2 ⟨HE.out, by simp⟩, hbel.drew⟩
        case measure => simp [intOf]; omega
      · have hxy' : (x != y) = true := by simpa using hxy
        go_wp2
        go_region_held3 (fun w' => w'.cell? ⟨b, off + k, none⟩ = some (.int .u8 x) ∧ w'.cell? ⟨b', off' + k, none⟩ = some (.int .u8 y)) (go_keep) (fail)
        go_wp2
        go_ret
        have hd : decide (xs = ys) = false := decide_eq_false (fun e => hxy (HS.out.1 (by rw [e])).2)
        rw [hd]
        exact ⟨rfl, hbel.drew⟩
    · have hge : k = n := by omega
      subst hge
      go_wp2
      go_ret
      rw [List.take_of_length_le (by omega), List.take_of_length_le (by omega)] at heq
      exact ⟨by simp [heq], hbel⟩


theorem grow (n : Nat) (h0 : 0 < n) (hn : n ≤ 140737488351232) (w : World) :
    Calls Tryd.prog 22 #[.slice none 0 0, .int .i64 (n : Int)] w fun e w' => ∃ cap, e = .returned (.slice (some ⟨w.heap.size, 0, none⟩) 0 cap) ∧
      w'.ownsRow w.heap.size 5 1 (.slice (some ⟨w.heap.size, 0, none⟩) 0 cap) 0 [] ∧ Below w.heap.size w w' := by
  obtain ⟨i0, hi, hz0, hz1, hz2⟩ := info_parts info5
  have hrz : ∀ ty, (Builtin.append_ #[22, 3] ty #[.slice none 0 0, .int .i64 (n : Int)]).run Tryd.prog w = _ := fun ty => Lib.run_append_nil_zeros w 22 3 ty 5 i0 (.int .u8 0) .i64 .i64 Tryd.underlying22 Tryd.underlying3 hi hz0 n h0 (by omega) (by omega) (by rw [hz2]; omega)
  have hge := grownCap_ge w n 0 5
  have hml := grownCap_le_maxLen w n 0 5 (by unfold maxLen; omega)
  generalize hG : grownCap w n 0 5 = G at hrz hge hml
  clear hG
  have hG63 : G ≤ 9223372036854775807 := hml
  have p0 : (0 : Int) < (n : Int) := by omega
  go_enter Tryd.func22, Tryd.ntmps22
  go_wp2_with (at_builtin; refine Lib.wpList_append_run _ rfl _ _ _ _ rfl _ _ rfl rfl _ _ (hrz _) ?_)
  go_ret
  refine ⟨G, rfl, ⟨rfl, .inr ⟨w.heap.size, G, Builtin.zeroCells #[.int .u8 0] n ++ Builtin.zeroCells #[.int .u8 0] (G - n), rfl, Nat.le_refl _, ?_, Nat.zero_le _, hml, ?_, ?_⟩⟩, ((Below.refl _ _).alloc (Nat.le_refl _) _).drew⟩
  · exact heap_alloc_new w _
  · simp [Builtin.zeroCells]; omega
  · simp

theorem concat (pa : Option Addr) (n pcap : Nat) (ps : List (Option Addr × Nat × Nat × List Int)) (w : World) (h : Parts w pa n ps) (hq : ∀ p ∈ ps, p.1 = none → p.2.1 = 0 ∧ p.2.2.1 = 0)
    (h0 : 0 < (all ps).length) (hbig : (all ps).length ≤ 140737488351232) :
    Calls Tryd.prog 20 #[.slice pa n pcap] w fun e w' => ∃ v, e = .returned v ∧ w'.ownsRow w.heap.size 5 1 v (all ps).length ((all ps).map (Value.int .u8)) ∧ Below w.heap.size w w' := by
  obtain ⟨hpl, hlim, hrow, hor⟩ := h
  rcases hor with rfl | ⟨b, off, rfl, hc⟩
  · obtain rfl := List.eq_nil_of_length_eq_zero hpl
    simp [all] at h0
  obtain ⟨i0, hi, hz0, hz1, hz2⟩ := info_parts info5
  go_enter Tryd.func20, Tryd.ntmps20
  go_wp2
  go_loop [3, 5, 11] (fun s _ i => ∃ k : Nat, k ≤ n ∧ i = .int .i64 k ∧ s = .int .i64 ((all (ps.take k)).length : Int))
    (fun _ _ i => n - (intOf i).toNat)
  case atStart => exact ⟨0, Nat.zero_le _, rfl, rfl⟩
  case round =>
    obtain ⟨k, hk, rfl, rfl⟩ := hrel
    rcases Nat.lt_or_ge k n with hlt | hge
    · obtain ⟨⟨a, len, cap, zs⟩, hp⟩ : ∃ p, ps[k]? = some p := ⟨_, List.getElem?_eq_getElem (by omega)⟩
      have hcell := hc k _ hp
      have hsn := all_snoc ps k _ hp
      have hle := all_len ps (k + 1)
      have hzl := (hrow _ (List.mem_of_getElem? hp)).1
      simp only at hcell hzl hsn
      rw [hsn, List.length_append, hzl] at hle
      have HN : Hid ((all (ps.take (k + 1))).length = (all (ps.take k)).length + len) := by rw [hsn, List.length_append, hzl]; exact rfl
      clear hc hrow hp hsn hzl
      generalize (all (ps.take k)).length = m at *
      go_wp2
      go_round
      case rel => exact ⟨k + 1, by omega, by go_num, by rw [HN.out]; go_num⟩
      case measure => simp [intOf]; omega
    · have hge : k = n := by omega
      subst hge
      rw [List.take_of_length_le (by omega)]
      go_wp2_with fail
      refine (grow (all ps).length h0 hbig w).mono ?_
      rintro e w1 ⟨gc, rfl, hown0, hb0⟩
      go_wp2
      go_loopw [6, 8, 27] (fun v _ i wr => ∃ q : Nat, q ≤ k ∧ i = .int .i64 q ∧ wr.ownsRow w.heap.size 5 1 v (all (ps.take q)).length ((all (ps.take q)).map (Value.int .u8)) ∧ Below w.heap.size w wr)
        (fun _ _ i _ => k - (intOf i).toNat)
      case atStart => exact ⟨0, Nat.zero_le _, rfl, hown0, hb0⟩
      case round =>
        obtain ⟨q, hqk, rfl, hown, hbel⟩ := hrel
        rcases Nat.lt_or_ge q k with hlt | hge
        · obtain ⟨⟨a, len, cap, zs⟩, hp⟩ : ∃ p, ps[q]? = some p := ⟨_, List.getElem?_eq_getElem (by omega)⟩
          have hcw := hc q _ hp
          have hcell := (hbel.cell (cell_lt hcw)).trans hcw
          have hr := (hrow _ (List.mem_of_getElem? hp)).later hbel
          have hsn := all_snoc ps q _ hp
          have hle := all_len ps (q + 1)
          have hqq := hq _ (List.mem_of_getElem? hp)
          obtain ⟨hzl, hzb, hzlim, hor⟩ := hr
          simp only at hcell hzl hzb hzlim hor hsn hqq
          rw [hsn, List.length_append] at hle
          have HN : Hid (all (ps.take (q + 1)) = all (ps.take q) ++ zs) := hsn
          clear hc hrow hp hcw hsn hq hown0 hb0
          generalize hX : all (ps.take q) = xs at *
          clear hX
          have hbase := hbel.size
          rcases a with _ | ad
          · obtain ⟨rfl, rfl⟩ := hqq rfl
            obtain rfl := List.eq_nil_of_length_eq_zero hzl
            go_wp2_with (first | (at_builtin; refine wpList_append_own_none rfl _ _ 22 rfl w.heap.size 5 i0 1 Tryd.underlying22 hi _ _ _ rfl hown rfl ?_) | go_in)
            go_wp2
            go_roundw
            case rel => exact ⟨q + 1, by omega, by go_num, by rw [HN.out, List.append_nil]; exact hown, hbel⟩
            case measure => simp [intOf]; omega
          · have hnews : ∀ j u, (zs.map (Value.int .u8))[j]? = some u → wr.cell? (ad.add j) = some u := by
              rcases hor with h0 | ⟨b', off', he, hc'⟩
              · intro j u hj
                rw [List.eq_nil_of_length_eq_zero (by omega : zs.length = 0)] at hj
                cases hj
              · cases he
                exact news hzl hc'
            go_wp2_with (first | (at_builtin; refine wpList_append_own _ rfl _ _ 22 rfl w.heap.size 5 i0 (.int .u8 0) 1 1 Tryd.underlying22 hi hz0 hz1 hz2 rfl (by decide) _ _ _ rfl hown ad len cap (zs.map (Value.int .u8)) rfl ?c0 hnews (one_cell zs) ?c3 ?c4 hbase ?_) | go_in)
            case c0 => simp; omega
            case c3 => unfold maxLen; omega
            case c4 => omega
            intro v' w2 hown' hgrow _
            have hb1 : Below w.heap.size w w2 := hbel.grown hgrow hbase (fun g hg => by
              rcases hown.2 with ⟨rfl, _⟩ | ⟨g', _, _, rfl, hge, _⟩
              · cases hg
              · cases hg; exact hge)
            have hown2 : w2.ownsRow w.heap.size 5 1 v' (all (ps.take (q + 1))).length ((all (ps.take (q + 1))).map (Value.int .u8)) := by
              rw [HN.out, List.map_append, List.length_append, hzl]
              exact hown'
            clear hown hown' hgrow hnews hcell hor
            go_wp2
            go_roundw
            case rel => exact ⟨q + 1, by omega, by go_num, hown2, hb1⟩
            case measure => simp [intOf]; omega
        · have hge : q = k := by omega
          subst hge
          rw [List.take_of_length_le (by omega)] at hown
          go_wp2
          go_ret
          exact ⟨_, rfl, hown, hbel⟩

theorem own_le {w : World} {base base' size n : Nat} {e : TypeId} {v : Value} {xs : List Value} (h : w.ownsRow base e size v n xs) (hb : base' ≤ base) : w.ownsRow base' e size v n xs :=
  ⟨h.1, h.2.elim Or.inl (fun ⟨g, cap, cur, hv, hg, r⟩ => Or.inr ⟨g, cap, cur, hv, Nat.le_trans hb hg, r⟩)⟩

/-- a packet with its sum -/
def putOf (zs : List Int) : List Int := zs.take 8 ++ (b4 (sum (zed zs)) ++ zs.drop 12)

theorem put_len {zs : List Int} (h : 12 ≤ zs.length) : (putOf zs).length = zs.length := by
  simp [putOf, b4]; omega

theorem put_bytes {zs : List Int} (h : Bytes zs) : Bytes (putOf zs) := by
  intro n hn
  simp only [putOf, List.mem_append] at hn
  rcases hn with hn | hn | hn
  · exact h n (List.mem_of_mem_take hn)
  · exact b4_bytes _ (sum_lt _ (zed_bytes h)) n hn
  · exact h n (List.mem_of_mem_drop hn)

theorem row_v4 (w : World) (g s : Nat) (hs : s < 4294967296) (hg : g = w.heap.size) : Row (w.alloc (.cells (v4 s) 41)) (some ⟨g, 0, none⟩) 4 (b4 s) := by
  refine ⟨rfl, b4_bytes s hs, by decide, .inr ⟨g, 0, rfl, fun j hj => ?_⟩⟩
  rw [World.cell?_alloc_at _ _ _ _ hg]
  match j, hj with
  | 0, _ | 1, _ | 2, _ | 3, _ => rfl

theorem put_brief (a : Option Addr) (len cap : Nat) (w : World) (h : len < 12) :
    Calls Tryd.prog 14 #[.slice a len cap] w fun e w' => e = .returned (.tuple #[.slice none 0 0, .int .i64 20]) ∧ w = w' := by
  go_enter Tryd.func14, Tryd.ntmps14
  go_wp2
  go_ret2
  exact ⟨rfl, rfl⟩

theorem put (b off len cap : Nat) (zs : List Int) (w : World) (ht : Tab w) (h : Row w (some ⟨b, off, none⟩) len zs) (h12 : 12 ≤ len) (hcap : len ≤ cap) (hbig : len ≤ 140737488351232) :
    Calls Tryd.prog 14 #[.slice (some ⟨b, off, none⟩) len cap] w fun e w' => ∃ v, e = .returned (.tuple #[v, .int .i64 0]) ∧ w'.ownsRow w.heap.size 5 1 v len ((putOf zs).map (Value.int .u8)) ∧ Below w.heap.size w w' := by
  have g1 : (0 : Int) ≤ 8 := by decide
  have g2 : (8 : Int) ≤ (len : Int) := by omega
  have g3 : (12 : Int) ≤ (len : Int) := by omega
  have g4 : (len : Int) ≤ (cap : Int) := by omega
  have g5 : (8 : Int) ≤ (cap : Int) := by omega
  have n1 : ¬ cap = 0 := by omega
  have hs := sum_lt (zed zs) (zed_bytes h.2.1)
  have hpl := put_len (zs := zs) (by rw [h.1]; exact h12)
  rw [h.1] at hpl
  go_enter Tryd.func14, Tryd.ntmps14
  go_wp2_with fail
  refine (sumOf b off len cap zs w ht h h12 hcap hbig).mono ?_
  rintro e w1 ⟨rfl, hb1⟩
  have hp := three (w1.alloc (.cells (v4 (sum (zed zs))) 41)) (w1.heap.size + 1) b off len cap zs (b4 (sum (zed zs))) (some ⟨w1.heap.size, 0, none⟩) (by simp) ((h.later hb1).later ((Below.refl _ _).alloc (Nat.le_refl _) _)) h12 hcap (row_v4 _ _ _ hs rfl)
  have hb2 : Below w.heap.size w (((w1.alloc (.cells (v4 (sum (zed zs))) 41)).alloc (.cells #[.slice (some ⟨b, off, none⟩) 8 cap, .slice (some ⟨w1.heap.size, 0, none⟩) 4 4, .slice (if cap = 12 then some ⟨b, off, none⟩ else some ⟨b, off + 12, none⟩) (len - 12) (cap - 12)] 22)).drew) :=
    ((hb1.alloc hb1.size _).alloc (by have := hb1.size; simp; omega) _).drew
  have hal : all [(some (⟨b, off, none⟩ : Addr), 8, cap, zs.take 8), (some ⟨w1.heap.size, 0, none⟩, 4, 4, b4 (sum (zed zs))), (if cap = 12 then some ⟨b, off, none⟩ else some ⟨b, off + 12, none⟩, len - 12, cap - 12, zs.drop 12)] = putOf zs := all_three _ _ _
  have H := concat _ 3 3 _ _ hp (by
    intro p hm hn
    simp only [List.mem_cons, List.not_mem_nil, or_false] at hm
    rcases hm with rfl | rfl | rfl
    · cases hn
    · cases hn
    · simp only at hn; split at hn <;> cases hn) (by rw [hal, hpl]; omega) (by rw [hal, hpl]; omega)
  rw [hal, hpl] at H
  obtain ⟨a3, hif⟩ : ∃ a3, (if cap = 12 then some (⟨b, off, none⟩ : Addr) else some ⟨b, off + 12, none⟩) = a3 := ⟨_, rfl⟩
  rw [hif] at H hb2
  have HH : Hid _ := H
  have HB : Hid _ := hb2
  clear hp hb2 hal H
  generalize sum (zed zs) = s at *
  go_wp2_with fail
  go_region_held3 (fun w' => True) (trivial) (first | (go_at_call 20; refine Calls.mono HH.out ?_; rintro e w3 ⟨v, rfl, hown, hb3⟩))
  go_wp2
  go_ret2
  have hsz := HB.out.size
  exact ⟨v, rfl, own_le hown hsz, HB.out.trans (hb3.mono hsz)⟩

theorem Row.mid {w : World} {b off len : Nat} {zs : List Int} (h : Row w (some ⟨b, off, none⟩) len zs) (hl : 12 ≤ len) : Row w (some ⟨b, off + 8, none⟩) 4 ((zs.drop 8).take 4) := by
  obtain ⟨h1, h2, h3, h4⟩ := h
  refine ⟨by rw [List.length_take, List.length_drop]; omega, fun n hn => h2 n (List.mem_of_mem_drop (List.mem_of_mem_take hn)), by decide, .inr ⟨b, off + 8, rfl, fun j hj => ?_⟩⟩
  rcases h4 with h4 | ⟨b', off', he, hc⟩
  · omega
  · cases he
    rw [Nat.add_assoc, hc (8 + j) (by omega), List.getD_eq_getElem?_getD, List.getD_eq_getElem?_getD, List.getElem?_take, if_pos hj, List.getElem?_drop]

/-- the number that Check answers of a packet that is long enough -/
def codeOf (zs : List Int) : Int := if putOf zs = zs then 0 else 21
theorem code_ok {zs : List Int} (h : putOf zs = zs) : codeOf zs = 0 := if_pos h
theorem code_bad {zs : List Int} (h : ¬ putOf zs = zs) : codeOf zs = 21 := if_neg h

theorem put_eq_iff {zs : List Int} (h : 12 ≤ zs.length) : putOf zs = zs ↔ b4 (sum (zed zs)) = (zs.drop 8).take 4 := by
  have e : zs = zs.take 8 ++ ((zs.drop 8).take 4 ++ zs.drop 12) := by
    have e1 : zs.drop 12 = (zs.drop 8).drop 4 := by rw [List.drop_drop]
    rw [e1, List.take_append_drop, List.take_append_drop]
  constructor
  · intro h2
    unfold putOf at h2
    have h3 : zs.take 8 ++ (b4 (sum (zed zs)) ++ zs.drop 12) = zs.take 8 ++ ((zs.drop 8).take 4 ++ zs.drop 12) := h2.trans e
    exact List.append_cancel_right (List.append_cancel_left h3)
  · intro h2
    unfold putOf
    rw [h2]
    exact e.symm

theorem check_brief (a : Option Addr) (len cap : Nat) (w : World) (h : len < 12) :
    Calls Tryd.prog 16 #[.slice a len cap] w fun e w' => e = .returned (.int .i64 20) ∧ w = w' := by
  go_enter Tryd.func16, Tryd.ntmps16
  go_wp2
  go_ret
  exact ⟨rfl, rfl⟩

theorem check (b off len cap : Nat) (zs : List Int) (w : World) (ht : Tab w) (h : Row w (some ⟨b, off, none⟩) len zs) (h12 : 12 ≤ len) (hcap : len ≤ cap) (hbig : len ≤ 140737488351232) :
    Calls Tryd.prog 16 #[.slice (some ⟨b, off, none⟩) len cap] w fun e w' => e = .returned (.int .i64 (codeOf zs)) ∧ Below w.heap.size w w' := by
  have g1 : (8 : Int) ≤ 12 := by decide
  have g3 : (12 : Int) ≤ (len : Int) := by omega
  have g4 : (len : Int) ≤ (cap : Int) := by omega
  have g5 : (12 : Int) ≤ (cap : Int) := by omega
  have n8 : ¬ cap = 8 := by omega
  have hs := sum_lt (zed zs) (zed_bytes h.2.1)
  have hiff := put_eq_iff (zs := zs) (by rw [h.1]; exact h12)
  go_enter Tryd.func16, Tryd.ntmps16
  go_wp2_with fail
  refine (sumOf b off len cap zs w ht h h12 hcap hbig).mono ?_
  rintro e w1 ⟨rfl, hb1⟩
  have hb2 : Below w.heap.size w (w1.alloc (.cells (v4 (sum (zed zs))) 41)).drew := (hb1.alloc hb1.size _).drew
  have H := equal w1.heap.size 0 b (off + 8) 4 4 (cap - 8) (b4 (sum (zed zs))) ((zs.drop 8).take 4) (w1.alloc (.cells (v4 (sum (zed zs))) 41)).drew
    ((row_v4 _ _ _ hs rfl).later (Below.refl _ _).drew) ((h.mid h12).later hb2) (by decide)
  have hd : decide (b4 (sum (zed zs)) = (zs.drop 8).take 4) = decide (putOf zs = zs) := decide_eq_decide.2 hiff.symm
  rw [hd] at H
  generalize sum (zed zs) = s at *
  have HH : Hid _ := H
  have HB : Hid _ := hb2
  clear hb2 H hd hiff
  by_cases hput : putOf zs = zs
  · rw [decide_eq_true hput] at HH
    have HP : Hid (codeOf zs = 0) := code_ok hput
    clear hput
    go_wp2_with fail
    go_region_held3 (fun w' => True) (trivial) (first | (go_at_call 21; refine Calls.mono HH.out ?_; rintro e w3 ⟨rfl, hb3⟩))
    go_wp2
    go_ret
    exact ⟨by rw [HP.out]; rfl, HB.out.trans (hb3.mono HB.out.size)⟩
  · rw [decide_eq_false hput] at HH
    have HP : Hid (codeOf zs = 21) := code_bad hput
    clear hput
    go_wp2_with fail
    go_region_held3 (fun w' => True) (trivial) (first | (go_at_call 21; refine Calls.mono HH.out ?_; rintro e w3 ⟨rfl, hb3⟩))
    go_wp2
    go_ret
    exact ⟨by rw [HP.out]; rfl, HB.out.trans (hb3.mono HB.out.size)⟩

end Go.Proofs.YtfibmpconfoieaaDoor.Crc
