/-
  What the functions of package crc that only read return, and the document's answers beside them, and that all leave memory as it was.
  Conditions: the numbers lie within their kinds, the cells hold them, the program's table holds its sixteen numbers.
-/
import Derived.Test.YtfibmpconfoieaaDoorRows
import Derived.Test.YtfibmpconfoieaaDoorCrc
import Derived.WalkKit
import Derived.ProofKit
import Derived.OpenShut
import Derived.Laws.BitsAllLaws
import Derived.Lib.SlBytesConst
namespace Go.Proofs.YtfibmpconfoieaaDoor.Crc
open Go.ChangeShapes Go.WideShapes Go.ChangeAt Go.RowKit
set_option linter.unusedVariables false

/-- the program's table stands in block 0 -/
def Tab (w : World) : Prop := ∀ i : Nat, i < 16 → w.cell? ⟨0, i, none⟩ = some (.int .u32 (tab.getD i 0))

/-- a row of bytes that can be read -/
def Row (w : World) (a : Option Addr) (len : Nat) (zs : List Int) : Prop :=
  zs.length = len ∧ Bytes zs ∧ len ≤ 281474976710656 ∧ (len = 0 ∨ ∃ b off, a = some ⟨b, off, none⟩ ∧ ∀ j, j < len → w.cell? ⟨b, off + j, none⟩ = some (.int .u8 (zs.getD j 0)))

theorem fin_int {k : IntKind} {x y : Int} {w : World} (h : x = y) : Ending.returned (.int k x) = Ending.returned (.int k y) ∧ w = w := ⟨by rw [h], rfl⟩

theorem tab_bound (i : Nat) (h : i < 16) : 0 ≤ tab.getD i 0 ∧ tab.getD i 0 < 4294967296 := by
  have t : ∀ i : Fin 16, 0 ≤ tab.getD i.val 0 ∧ tab.getD i.val 0 < 4294967296 := by decide +kernel
  exact t ⟨i, h⟩

theorem xor_u32 (a b : Nat) (ha : a < 4294967296) (hb : b < 4294967296) : bits .xor .u32 (a : Int) (b : Int) = ((a ^^^ b : Nat) : Int) := u32_xor_nat a b ha hb

theorem nib_lt (r : Nat) (h : r < 4294967296) : nib r < 4294967296 := by rw [nib_eq]; exact iter_lt _ _ h

/-- what the walk makes of a nibble's step -/
theorem nib_walk (R : Nat) (h : R < 4294967296) : bits .xor .u32 ((R : Int) / 16) (tab.getD (R % 16) 0) = ((nib R : Nat) : Int) := by
  have t := tab_bound (R % 16) (by omega)
  have e : tab.getD (R % 16) 0 = (((tab.getD (R % 16) 0).toNat : Nat) : Int) := by omega
  rw [e, show ((R : Int) / 16) = ((R / 16 : Nat) : Int) by omega, xor_u32 _ _ (by omega) (by omega)]
  rfl

theorem step (r : Nat) (hr : r < 4294967296) (w : World) (ht : Tab w) :
    Calls Tryd.prog 18 #[.int .u32 (r : Int)] w fun e w' => e = .returned (.int .u32 ((iter 8 r : Nat) : Int)) ∧ w = w' := by
  go_enter Tryd.func18, Tryd.ntmps18
  go_wp2
  go_loop [0, 3] (fun s i => ∃ k : Nat, k ≤ 2 ∧ i = .int .i64 k ∧ s = .int .u32 ((iter (4 * k) r : Nat) : Int))
    (fun _ i => 2 - (intOf i).toNat)
  case atStart => exact ⟨0, Nat.zero_le _, rfl, rfl⟩
  case round =>
    obtain ⟨k, hk, rfl, rfl⟩ := hrel
    have hs := iter_lt (4 * k) r hr
    have hn : iter (4 * (k + 1)) r = nib (iter (4 * k) r) := by rw [nib_eq, ← iter_add]; rfl
    generalize hR : iter (4 * k) r = R at hs hn ⊢
    have HS : Hid (iter (4 * k) r = R) := hR
    have HN : Hid (iter (4 * (k + 1)) r = nib R) := hn
    clear hR hn
    have h1 : bits BinOp.and IntKind.u32 (R : Int) 15 = ((R % 16 : Nat) : Int) := by
      rw [show (15 : Int) = ((15 : Nat) : Int) from rfl, u32_and_nat R 15 hs (by decide), nat_mask4]
    have h2 : w.cell? ⟨0, R % 16, none⟩ = some (.int .u32 (tab.getD (R % 16) 0)) := ht _ (by omega)
    have h3 : R % 16 < 16 := by omega
    have h4 : Hid (bits .xor .u32 ((R : Int) / 16) (tab.getD (R % 16) 0) = ((nib R : Nat) : Int)) := nib_walk R hs
    go_wp2
    · go_round
      case rel => exact ⟨k + 1, by omega, by go_num, by rw [← List.getD_eq_getElem?_getD, h4.out, HN.out]⟩
      case measure => simp [intOf]; omega
    · have hge : k = 2 := by omega
      subst hge
      go_ret
      exact fin_int (congrArg Int.ofNat HS.out.symm)

theorem bit_walk (R : Nat) (h : R < 4294967296) : (R % 2 = 1 → bits .xor .u32 ((R : Int) / 2) 2197175160 = ((bit1 R : Nat) : Int)) ∧ (R % 2 ≠ 1 → ((R : Int) / 2) = ((bit1 R : Nat) : Int)) := by
  unfold bit1
  constructor <;> intro e
  · rw [if_pos e, show ((R : Int) / 2) = ((R / 2 : Nat) : Int) by omega, show (2197175160 : Int) = ((2197175160 : Nat) : Int) from rfl, xor_u32 _ _ (by omega) (by decide)]
  · rw [if_neg e, Nat.xor_zero]; omega

theorem at_bound (zs : List Int) (hb : Bytes zs) (k : Nat) : 0 ≤ zs[k]?.getD 0 ∧ zs[k]?.getD 0 < 256 := by
  cases h : zs[k]? with
  | none => decide
  | some x => exact hb x (List.mem_of_getElem? h)

theorem byte_walk (R : Nat) (h : R < 4294967296) (z : Int) (hz : 0 ≤ z ∧ z < 256) : bits .xor .u32 (R : Int) z = ((R ^^^ z.toNat : Nat) : Int) := by
  have e : z = ((z.toNat : Nat) : Int) := by omega
  generalize hn : z.toNat = n at e ⊢
  rw [e, xor_u32 _ _ h (by omega)]

theorem rextend (r : Nat) (hr : r < 4294967296) (a : Option Addr) (len cap : Nat) (zs : List Int) (w : World) (h : Row w a len zs) :
    Calls Tryd.prog 12 #[.int .u32 (r : Int), .slice a len cap] w fun e w' => e = .returned (.int .u32 ((rem r zs : Nat) : Int)) ∧ w = w' := by
  obtain ⟨hl, hb, hlim, rfl | ⟨b, off, rfl, hc⟩⟩ := h
  · obtain rfl := List.eq_nil_of_length_eq_zero hl
    go_enter Tryd.func12, Tryd.ntmps12
    go_wp2
    refine wp_loop_rounds 1 ?_
    rw [rounds_succ]
    go_wp2
    go_ret
    exact fin_int rfl
  · go_enter Tryd.func12, Tryd.ntmps12
    go_wp2
    go_loop [0, 5, 6, 7] (fun s i _ _ => ∃ k : Nat, k ≤ len ∧ i = .int .i64 k ∧ s = .int .u32 ((rem r (zs.take k) : Nat) : Int))
      (fun _ i _ _ => len - (intOf i).toNat)
    case atStart => exact ⟨0, Nat.zero_le _, rfl, rfl⟩
    case round =>
      obtain ⟨k, hk, rfl, rfl⟩ := hrel
      obtain ⟨z, hz⟩ : ∃ z, z = zs.getD k 0 := ⟨_, rfl⟩
      have hx : 0 ≤ z ∧ z < 256 := by rw [hz, List.getD_eq_getElem?_getD]; exact at_bound zs hb k
      have hcell : k < len → w.cell? ⟨b, off + k, none⟩ = some (.int .u8 z) := fun h => by rw [hz]; exact hc _ h
      have hs := rem_lt (zs.take k) (fun n hn => hb n (List.mem_of_mem_take hn)) r hr
      have hsn := rem_snoc r zs k
      rw [← hz] at hsn
      clear hc hb hz
      generalize hS : rem r (zs.take k) = S at hs hsn ⊢
      have HS : Hid (rem r (zs.take k) = S) := hS
      have h5 : S ^^^ z.toNat < 4294967296 := Nat.xor_lt_two_pow (n := 32) hs (by omega)
      have h4 := byte_walk S hs _ hx
      generalize hX : S ^^^ z.toNat = X at h4 h5 hsn
      have HN : Hid (k < zs.length → rem r (zs.take (k + 1)) = iter 8 X) := hsn
      clear hS hsn hX
      have h32 : z % 4294967296 = z := by omega
      go_wp2
      · have hlt : k < len := by assumption
        go_loop [0, 6, 7] (fun s i _ => ∃ j : Nat, j ≤ 8 ∧ i = .int .i64 j ∧ s = .int .u32 ((iter j X : Nat) : Int))
          (fun _ i _ => 8 - (intOf i).toNat)
        case atStart => exact ⟨0, Nat.zero_le _, rfl, rfl⟩
        case round =>
          obtain ⟨j, hj, rfl, rfl⟩ := hrel
          have ht := iter_lt j X h5
          have hn : iter (j + 1) X = bit1 (iter j X) := iter_add j 1 X
          generalize hR : iter j X = R at ht hn ⊢
          have HR : Hid (iter j X = R) := hR
          have HM : Hid (iter (j + 1) X = bit1 R) := hn
          clear hR hn
          have hb1 : Hid ((R % 2 = 1 → bits .xor .u32 ((R : Int) / 2) 2197175160 = ((bit1 R : Nat) : Int)) ∧ (R % 2 ≠ 1 → ((R : Int) / 2) = ((bit1 R : Nat) : Int))) := bit_walk R ht
          have h1 : bits BinOp.and IntKind.u32 (R : Int) 1 = ((R % 2 : Nat) : Int) := by
            rw [show (1 : Int) = ((1 : Nat) : Int) from rfl, u32_and_nat R 1 ht (by decide), nat_mask1]
          rcases Nat.mod_two_eq_zero_or_one R with h2 | h2
          · rw [h2] at h1
            go_wp2
            · go_round
              case rel => exact ⟨j + 1, by omega, by go_num, by rw [HM.out, hb1.out.2 (by omega)]⟩
              case measure => simp [intOf]; omega
            · have hge : j = 8 := by omega
              subst hge
              go_round
              case rel => exact ⟨k + 1, by omega, by go_num, by rw [HN.out (by omega), HR.out]⟩
              case measure => simp [intOf]; omega
          · rw [h2] at h1
            go_wp2
            · go_round
              case rel => exact ⟨j + 1, by omega, by go_num, by rw [HM.out, hb1.out.1 (by omega)]⟩
              case measure => simp [intOf]; omega
            · have hge : j = 8 := by omega
              subst hge
              go_round
              case rel => exact ⟨k + 1, by omega, by go_num, by rw [HN.out (by omega), HR.out]⟩
              case measure => simp [intOf]; omega
      · have hge : k = len := by omega
        subst hge
        go_ret
        rw [← hl] at HS
        exact fin_int (by rw [← HS.out, List.take_length])

/-- parts that can be read: of each its address, its length, its capacity, its bytes -/
def Parts (w : World) (pa : Option Addr) (n : Nat) (ps : List (Option Addr × Nat × Nat × List Int)) : Prop :=
  ps.length = n ∧ n ≤ 281474976710656 ∧ (∀ p ∈ ps, Row w p.1 p.2.1 p.2.2.2) ∧
    (n = 0 ∨ ∃ b off, pa = some ⟨b, off, none⟩ ∧ ∀ j p, ps[j]? = some p → w.cell? ⟨b, off + j, none⟩ = some (.slice p.1 p.2.1 p.2.2.1))
/-- all their bytes -/
def all (ps : List (Option Addr × Nat × Nat × List Int)) : List Int := (ps.map fun p => p.2.2.2).flatten

theorem all_bytes {w : World} {ps : List (Option Addr × Nat × Nat × List Int)} (h : ∀ p ∈ ps, Row w p.1 p.2.1 p.2.2.2) : Bytes (all ps) := by
  intro n hn
  unfold all at hn
  rw [List.mem_flatten] at hn
  obtain ⟨l, hl, hn⟩ := hn
  obtain ⟨p, hp, rfl⟩ := List.mem_map.1 hl
  exact (h p hp).2.1 n hn

theorem all_snoc (ps : List (Option Addr × Nat × Nat × List Int)) (k : Nat) (p : Option Addr × Nat × Nat × List Int) (h : ps[k]? = some p) : all (ps.take (k + 1)) = all (ps.take k) ++ p.2.2.2 := by
  rw [List.take_add_one, h]
  unfold all
  simp

theorem extend (r : Nat) (hr : r < 4294967296) (pa : Option Addr) (n pcap : Nat) (ps : List (Option Addr × Nat × Nat × List Int)) (w : World) (ht : Tab w) (h : Parts w pa n ps) :
    Calls Tryd.prog 11 #[.int .u32 (r : Int), .slice pa n pcap] w fun e w' => e = .returned (.int .u32 ((rem r (all ps) : Nat) : Int)) ∧ w = w' := by
  obtain ⟨hl, hlim, hrow, rfl | ⟨b, off, rfl, hc⟩⟩ := h
  · obtain rfl := List.eq_nil_of_length_eq_zero hl
    go_enter Tryd.func11, Tryd.ntmps11
    go_wp2
    refine wp_loop_rounds 1 ?_
    rw [rounds_succ]
    go_wp2
    go_ret
    exact fin_int rfl
  · go_enter Tryd.func11, Tryd.ntmps11
    go_wp2
    go_loop [0, 6, 8, 11, 15, 16, 17] (fun s _ _ i _ _ _ => ∃ k : Nat, k ≤ n ∧ i = .int .i64 k ∧ s = .int .u32 ((rem r (all (ps.take k)) : Nat) : Int))
      (fun _ _ _ i _ _ _ => n - (intOf i).toNat)
    case atStart => exact ⟨0, Nat.zero_le _, rfl, rfl⟩
    case round =>
      obtain ⟨k, hk, rfl, rfl⟩ := hrel
      rcases Nat.lt_or_ge k n with hlt | hge
      · obtain ⟨⟨a, len, cap, zs⟩, hp⟩ : ∃ p, ps[k]? = some p := ⟨_, List.getElem?_eq_getElem (by omega)⟩
        have hcell := hc k _ hp
        have hs := rem_lt (all (ps.take k)) (all_bytes (fun p hp => hrow p (List.mem_of_mem_take hp))) r hr
        have hsn : rem r (all (ps.take (k + 1))) = rem (rem r (all (ps.take k))) zs := by rw [all_snoc ps k _ hp, rem_append]
        obtain ⟨hzl, hb, hzlim, hor⟩ := hrow _ (List.mem_of_getElem? hp)
        clear hc hrow hp
        generalize hS : rem r (all (ps.take k)) = S at hs hsn ⊢
        have HN : Hid (rem r (all (ps.take (k + 1))) = rem S zs) := hsn
        have HZ : Hid (zs.length = len) := hzl
        clear hS hsn hzl
        simp only at hcell hzlim hor
        go_wp2
        rcases hor with rfl | ⟨zb, zoff, rfl, hzc⟩
        · refine wp_loop_rounds 1 ?_
          rw [rounds_succ]
          go_wp2
          go_round
          case rel => exact ⟨k + 1, by omega, by go_num, by rw [HN.out, List.eq_nil_of_length_eq_zero HZ.out]; rfl⟩
          case measure => simp [intOf]; omega
        · go_loop [0, 8, 17] (fun s _ i => ∃ j : Nat, j ≤ len ∧ i = .int .i64 j ∧ s = .int .u32 ((rem S (zs.take j) : Nat) : Int))
            (fun _ _ i => len - (intOf i).toNat)
          case atStart => exact ⟨0, Nat.zero_le _, rfl, rfl⟩
          case round =>
            obtain ⟨j, hj, rfl, rfl⟩ := hrel
            obtain ⟨z, hz⟩ : ∃ z, z = zs.getD j 0 := ⟨_, rfl⟩
            have hx : 0 ≤ z ∧ z < 256 := by rw [hz, List.getD_eq_getElem?_getD]; exact at_bound zs hb j
            have hcz : j < len → w.cell? ⟨zb, zoff + j, none⟩ = some (.int .u8 z) := fun h => by rw [hz]; exact hzc _ h
            have hq := rem_lt (zs.take j) (fun n hn => hb n (List.mem_of_mem_take hn)) S hs
            have hqn := rem_snoc S zs j
            rw [← hz] at hqn
            clear hzc hb hz
            generalize hR : rem S (zs.take j) = R at hq hqn ⊢
            have HR : Hid (rem S (zs.take j) = R) := hR
            have h5 : R ^^^ z.toNat < 4294967296 := Nat.xor_lt_two_pow (n := 32) hq (by omega)
            have h4 := byte_walk R hq _ hx
            generalize hX : R ^^^ z.toNat = X at h4 h5 hqn
            have HM : Hid (j < zs.length → rem S (zs.take (j + 1)) = iter 8 X) := hqn
            clear hR hqn hX
            have h32 : z % 4294967296 = z := by omega
            go_wp2_with fail
            · have hjl : j < len := by assumption
              refine (step X h5 w ht).mono ?_
              rintro e w' ⟨rfl, rfl⟩
              go_wp2
              go_round
              case rel => exact ⟨j + 1, by omega, by go_num, by rw [HM.out (by rw [HZ.out]; omega)]⟩
              case measure => simp [intOf]; omega
            · have hge : j = len := by omega
              subst hge
              go_round
              case rel => exact ⟨k + 1, by omega, by go_num, by rw [HN.out, ← HR.out, List.take_of_length_le (by rw [HZ.out]; exact Nat.le_refl _)]⟩
              case measure => simp [intOf]; omega
      · have hge : k = n := by omega
        subst hge
        go_wp2
        go_ret
        exact fin_int (by rw [List.take_of_length_le (by omega)])

theorem sum_lt (zs : List Int) (hb : Bytes zs) : sum zs < 4294967296 :=
  Nat.xor_lt_two_pow (n := 32) (rem_lt zs hb 4294967295 (by decide)) (by decide)

theorem crcsum (pa : Option Addr) (n pcap : Nat) (ps : List (Option Addr × Nat × Nat × List Int)) (w : World) (ht : Tab w) (h : Parts w pa n ps) :
    Calls Tryd.prog 9 #[.slice pa n pcap] w fun e w' => e = .returned (.int .u32 ((sum (all ps) : Nat) : Int)) ∧ w = w' := by
  have hs : IntKind.u32.signed = false := rfl
  have h1 := rem_lt (all ps) (all_bytes h.2.2.1) 4294967295 (by decide)
  have h2 := xor_u32 4294967295 _ (by decide) h1
  rw [Nat.xor_comm] at h2
  have H2 : Hid (bits .xor .u32 IntKind.u32.max ((rem 4294967295 (all ps) : Nat) : Int) = ((sum (all ps) : Nat) : Int)) := h2
  clear h2
  go_enter Tryd.func9, Tryd.ntmps9
  go_wp2_with fail
  refine (extend 4294967295 (by decide) pa n pcap ps w ht h).mono ?_
  rintro e w' ⟨rfl, rfl⟩
  go_wp2
  go_ret
  exact fin_int H2.out

theorem rsum (a : Option Addr) (len cap : Nat) (zs : List Int) (w : World) (h : Row w a len zs) :
    Calls Tryd.prog 10 #[.slice a len cap] w fun e w' => e = .returned (.int .u32 ((sum zs : Nat) : Int)) ∧ w = w' := by
  have h1 := rem_lt zs h.2.1 4294967295 (by decide)
  have H2 : Hid (bits .xor .u32 ((rem 4294967295 zs : Nat) : Int) 4294967295 = ((sum zs : Nat) : Int)) := xor_u32 _ 4294967295 h1 (by decide)
  go_enter Tryd.func10, Tryd.ntmps10
  go_wp2_with fail
  refine (rextend 4294967295 (by decide) a len cap zs w h).mono ?_
  rintro e w' ⟨rfl, rfl⟩
  go_wp2
  go_ret
  exact fin_int H2.out

theorem Tab.later {w w' : World} (h : Tab w) (hb : Below w.heap.size w w') (h0 : 0 < w.heap.size) : Tab w' := fun i hi => (hb.cell h0).trans (h i hi)
theorem Tab.pos {w : World} (h : Tab w) : 0 < w.heap.size := by
  rcases Nat.eq_zero_or_pos w.heap.size with h0 | h0
  · have := h 0 (by decide)
    simp [World.cell?, h0] at this
  · exact h0

theorem cell_lt {w : World} {a : Addr} {v : Value} (h : w.cell? a = some v) : a.block < w.heap.size := by
  rcases Nat.lt_or_ge a.block w.heap.size with h0 | h0
  · exact h0
  · simp [World.cell?, Array.getElem?_eq_none h0] at h

theorem Row.later {w w' : World} {a : Option Addr} {len : Nat} {zs : List Int} (h : Row w a len zs) (hb : Below w.heap.size w w') : Row w' a len zs := by
  obtain ⟨h1, h2, h3, h4⟩ := h
  refine ⟨h1, h2, h3, h4.imp id ?_⟩
  rintro ⟨b, off, rfl, hc⟩
  exact ⟨b, off, rfl, fun j hj => (hb.cell (cell_lt (hc j hj))).trans (hc j hj)⟩

theorem mark_at (w : World) (C : Array Value) (t : TypeId) (fr : Nat × Nat) (n j : Nat) (hn : n = w.heap.size) : (w.alloc (.cells C t fr)).cell? ⟨n, j, none⟩ = C[j]? := by
  subst hn; exact World.cell?_alloc_mark w C t fr j
theorem const_at (w : World) (C : Array Value) (n c g : Nat) (hg : g = w.heap.size) :
    (convert 22 22 (.slice (some ⟨g, 0, none⟩) n c)).run Tryd.prog (w.alloc (.cells C 5)) = .ok (.slice (some ⟨g, 0, none⟩) n c) (w.alloc (.cells C 5 (C.size, C.size + 1))) := by
  subst hg; exact Lib.run_convert_bytes_const w 22 5 C n c Tryd.underlying22 Tryd.underlying5

theorem Parts.later {w w' : World} {pa : Option Addr} {n : Nat} {ps : List (Option Addr × Nat × Nat × List Int)} (h : Parts w pa n ps) (hb : Below w.heap.size w w') : Parts w' pa n ps := by
  obtain ⟨h1, h2, h3, h4⟩ := h
  refine ⟨h1, h2, fun p hp => (h3 p hp).later hb, h4.imp id ?_⟩
  rintro ⟨b, off, rfl, hc⟩
  exact ⟨b, off, rfl, fun j p hj => (hb.cell (cell_lt (hc j p hj))).trans (hc j p hj)⟩

def word1 : Array Value := #[.int .u8 49, .int .u8 50, .int .u8 51, .int .u8 52, .int .u8 53]
def word2 : Array Value := #[.int .u8 54, .int .u8 55, .int .u8 56, .int .u8 57]

theorem words (w : World) : Parts (((w.alloc (.cells word1 5 (5, 6))).alloc (.cells word2 5 (4, 5))).alloc (.cells #[.slice (some ⟨w.heap.size, 0, none⟩) 5 5, .slice (some ⟨w.heap.size + 1, 0, none⟩) 4 4] 22))
    (some ⟨w.heap.size + 1 + 1, 0, none⟩) 2 [(some ⟨w.heap.size, 0, none⟩, 5, 5, [49, 50, 51, 52, 53]), (some ⟨w.heap.size + 1, 0, none⟩, 4, 4, [54, 55, 56, 57])] := by
  refine ⟨rfl, by decide, ?_, .inr ⟨_, _, rfl, ?_⟩⟩
  · intro p hp
    simp only [List.mem_cons, List.not_mem_nil, or_false] at hp
    rcases hp with rfl | rfl
    · refine ⟨rfl, show ∀ n ∈ [(49 : Int), 50, 51, 52, 53], 0 ≤ n ∧ n < 256 by decide, show 5 ≤ 281474976710656 by decide, .inr ⟨_, _, rfl, ?_⟩⟩
      intro j hj
      rw [World.cell?_alloc_past _ _ _ (by simp; omega), World.cell?_alloc_past _ _ _ (by simp), mark_at _ _ _ _ _ _ rfl]
      simp only at hj
      match j, hj with
      | 0, _ | 1, _ | 2, _ | 3, _ | 4, _ => rfl
    · refine ⟨rfl, show ∀ n ∈ [(54 : Int), 55, 56, 57], 0 ≤ n ∧ n < 256 by decide, show 4 ≤ 281474976710656 by decide, .inr ⟨_, _, rfl, ?_⟩⟩
      intro j hj
      rw [World.cell?_alloc_past _ _ _ (by simp), mark_at _ _ _ _ _ _ (by simp)]
      simp only at hj
      match j, hj with
      | 0, _ | 1, _ | 2, _ | 3, _ => rfl
  · intro j p hj
    rw [World.cell?_alloc_at _ _ _ _ (by simp)]
    match j, hj with
    | 0, hj => cases hj; rfl
    | 1, hj => cases hj; rfl

/-- one part, as a call lays it -/
theorem one (w : World) (a : Option Addr) (len cap g : Nat) (zs : List Int) (h : Row w a len zs) (hg : g = w.heap.size) :
    Parts (w.alloc (.cells #[.slice a len cap] 22)) (some ⟨g, 0, none⟩) 1 [(a, len, cap, zs)] := by
  refine ⟨rfl, by decide, ?_, .inr ⟨_, _, rfl, ?_⟩⟩
  · intro p hp
    obtain rfl := List.mem_singleton.1 hp
    exact h.later ((Below.refl _ _).alloc (Nat.le_refl _) _)
  · intro j p hj
    rw [World.cell?_alloc_at _ _ _ _ hg]
    match j, hj with
    | 0, hj => cases hj; rfl
theorem all_one (p : Option Addr × Nat × Nat × List Int) : all [p] = p.2.2.2 := by simp [all]
theorem none_of (w : World) (pa : Option Addr) : Parts w pa 0 [] := ⟨rfl, by decide, (fun p hp => by cases hp), .inl rfl⟩
theorem u32_nat {x : Int} (h : (Lit.int .u32 x).wf = true) : ∃ r : Nat, x = (r : Int) ∧ r < 4294967296 := by
  simp [Lit.wf, IntKind.min, IntKind.max, IntKind.signed, IntKind.bits] at h
  exact ⟨x.toNat, by omega, by omega⟩

/-- a slice of bytes that came in -/
theorem row_of {H : Type} {enc : TypeId × Value → H} {W : World} {base : Nat} {held : Bool} {fuel : Nat} {a : Option Addr} {len cap : Nat} {x : DataW H × List MemPlace}
    (h : DataW.trod enc Tryd.prog W base (fun _ => true) held fuel 22 (Value.slice a len cap).cells.toList = some x)
    (hsz : ∀ elems spare, x.1 = .slice elems spare → elems.length + spare.length ≤ 140737488351232) : ∃ zs, Row W a len zs ∧ len ≤ cap ∧ cap ≤ 140737488351232 ∧ (a = none → len = 0 ∧ cap = 0) := by
  rcases open_ints Tryd.underlying22 Tryd.underlying5 (by kernel_rfl) h with ⟨hcs, _⟩ | ⟨y, l, c, zs, hcs, _, hl, hm, hz, rfl, hcell, hwz⟩
  · simp [Value.cells] at hcs
    obtain ⟨rfl, rfl, rfl⟩ := hcs
    exact ⟨[], ⟨rfl, (fun n hn => by cases hn), by decide, .inl rfl⟩, by decide, by decide, fun _ => ⟨rfl, rfl⟩⟩
  · simp [Value.cells] at hcs
    obtain ⟨rfl, rfl, rfl⟩ := hcs
    simp only [if_pos] at hz
    have hc : cap ≤ 140737488351232 := by
      have := hsz _ _ rfl
      simp only [lits, List.length_map, List.length_take, List.length_drop] at this
      omega
    have hb : Bytes (zs.take len) := fun n hn => by
      have := hwz n (List.mem_of_mem_take hn)
      simp [Lit.wf, IntKind.min, IntKind.max, IntKind.signed, IntKind.bits] at this
      omega
    refine ⟨zs.take len, ⟨by rw [List.length_take]; omega, hb, by omega, ?_⟩, hl, hc, (fun h => by cases h)⟩
    rcases Nat.eq_zero_or_pos len with h0 | hpos
    · exact .inl h0
    · obtain ⟨b, off, rfl, hc'⟩ := ints_at hcell (by omega)
      refine .inr ⟨b, off, rfl, fun j hj => ?_⟩
      rw [hc' j (by omega), List.getD_eq_getElem?_getD, List.getD_eq_getElem?_getD, List.getElem?_take, if_pos hj]

/-- a known sum -/
theorem awake (w : World) (ht : Tab w) :
    Calls Tryd.prog 13 #[] w fun e w' => e = .returned (.bool true) ∧ Below w.heap.size w w' := by
  have k1 := const_at w word1 5 5 w.heap.size rfl
  have k2 := const_at (w.alloc (.cells word1 5 (5, 6))) word2 4 4 (w.heap.size + 1) (by simp)
  have hp := words w
  have hb : Below w.heap.size w (((w.alloc (.cells word1 5 (5, 6))).alloc (.cells word2 5 (4, 5))).alloc (.cells #[.slice (some ⟨w.heap.size, 0, none⟩) 5 5, .slice (some ⟨w.heap.size + 1, 0, none⟩) 4 4] 22)) :=
    (((Below.refl _ _).alloc (Nat.le_refl _) _).alloc (by simp) _).alloc (by simp; omega) _
  unfold word1 word2 at *
  have H : Hid _ := crcsum _ 2 2 _ _ (ht.later hb ht.pos) hp
  have HB : Hid _ := hb
  clear hb hp
  go_enter Tryd.func13, Tryd.ntmps13
  go_wp2_with fail
  refine Calls.mono H.out ?_
  rintro e w' ⟨rfl, rfl⟩
  have hk : sum (all [(some (⟨w.heap.size, 0, none⟩ : Addr), 5, 5, [49, 50, 51, 52, 53]), (some ⟨w.heap.size + 1, 0, none⟩, 4, 4, [54, 55, 56, 57])]) = 3808858755 := sum_known
  rw [hk]
  go_wp2
  go_ret
  exact ⟨rfl, HB.out⟩

end Go.Proofs.YtfibmpconfoieaaDoor.Crc
