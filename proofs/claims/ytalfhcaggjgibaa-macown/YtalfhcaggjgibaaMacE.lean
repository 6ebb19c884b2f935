/-
  What write of package mac makes of a state, byte by byte.
  Conditions: the numbers lie within their kinds, the cells hold them, the bytes lie in another block than the state.
-/
import Derived.Test.YtalfhcaggjgibaaMacD
namespace Go.Proofs.Ytalfhcaggjgibaa.Mac
open Go.ChangeShapes Go.WideShapes Go.ChangeAt Go.RowKit
set_option linter.unusedVariables false

def Bytes (zs : List Int) : Prop := ∀ n ∈ zs, 0 ≤ n ∧ n < 256
/-- a row of bytes that can be read -/
def Row (w : World) (a : Option Addr) (len : Nat) (zs : List Int) : Prop :=
  zs.length = len ∧ Bytes zs ∧ len ≤ 281474976710656 ∧ (len = 0 ∨ ∃ b off, a = some ⟨b, off, none⟩ ∧ ∀ j, j < len → w.cell? ⟨b, off + j, none⟩ = some (.int .u8 (zs.getD j 0)))
theorem cell_lt {w : World} {a : Addr} {v : Value} (h : w.cell? a = some v) : a.block < w.heap.size := by
  rcases Nat.lt_or_ge a.block w.heap.size with h0 | h0
  · exact h0
  · simp [World.cell?, Array.getElem?_eq_none h0] at h
theorem at_bound (zs : List Int) (hb : Bytes zs) (k : Nat) : 0 ≤ zs.getD k 0 ∧ zs.getD k 0 < 256 := by
  rw [List.getD_eq_getElem?_getD]
  cases h : zs[k]? with
  | none => decide
  | some x => exact hb x (List.mem_of_getElem? h)
theorem Row.later {w w' : World} {a : Option Addr} {len : Nat} {zs : List Int} (h : Row w a len zs) (hb : Below w.heap.size w w') : Row w' a len zs := by
  obtain ⟨h1, h2, h3, h4⟩ := h
  refine ⟨h1, h2, h3, h4.imp id ?_⟩
  rintro ⟨b, off, rfl, hc⟩
  exact ⟨b, off, rfl, fun j hj => (hb.cell (cell_lt (hc j hj))).trans (hc j hj)⟩
theorem grown_cell {w w' : World} {b : Nat} (g : w.grownBy w' (some b)) {a : Addr} {v : Value} (h : w.cell? a = some v) (hne : a.block ≠ b) : w'.cell? a = some v :=
  (World.cell?_of_block (g.block a.block (cell_lt h) (fun e => hne (Option.some.inj e)))).trans h

theorem Row.parted {w : World} {a : Option Addr} {len : Nat} {zs : List Int} (h : Row w a len zs) :
    zs.length = len ∧ Bytes zs ∧ len ≤ 281474976710656 ∧ (len = 0 ∨ (0 < len ∧ ∃ b off, a = some ⟨b, off, none⟩ ∧ ∀ j, j < len → w.cell? ⟨b, off + j, none⟩ = some (.int .u8 (zs.getD j 0)))) := by
  obtain ⟨h1, h2, h3, h4⟩ := h
  refine ⟨h1, h2, h3, ?_⟩
  rcases Nat.eq_zero_or_pos len with h0 | h0
  · exact .inl h0
  · exact .inr ⟨h0, h4.resolve_left (by omega)⟩
theorem Row.block {w : World} {a : Option Addr} {len : Nat} {zs : List Int} (h : Row w a len zs) (hp : 0 < len) : ∀ x, a = some x → x.block < w.heap.size := by
  obtain ⟨b, off, rfl, hc⟩ := h.2.2.2.resolve_left (by omega)
  intro x hx
  cases hx
  exact cell_lt (hc 0 hp)

theorem write (w : World) (b : Nat) (s : Q × Int × Nat) (a : Option Addr) (len cap : Nat) (zs : List Int) (h : SS w b s) (hs : US s) (hr : Row w a len zs)
    (hne : 0 < len → ∀ x, a = some x → x.block ≠ b) (hn : s.2.2 + len < 9223372036854775808) :
    Calls Try.prog 17 #[.pointer (some ⟨b, 0, none⟩), .slice a len cap] w fun e w' => e = .returned (.tuple #[]) ∧
      SS w' b (come s zs) ∧ w.grownBy w' (some b) := by
  replace hr := Row.parted hr
  obtain ⟨hl, hb, hlim, rfl | ⟨hpos, b', off, rfl, hc⟩⟩ := hr
  · obtain rfl := List.eq_nil_of_length_eq_zero hl
    go_enter Try.func17, Try.ntmps17
    go_wp2
    refine wp_loop_rounds 1 ?_
    rw [rounds_succ]
    go_wp2
    go_end0
    exact ⟨rfl, h, World.grownBy.refl w (some b)⟩
  · have hbb : b' ≠ b := hne hpos _ rfl
    go_enter Try.func17, Try.ntmps17
    go_wp2
    go_loopw [5, 8] (fun _ i wr => ∃ k : Nat, k ≤ len ∧ i = .int .i64 k ∧ SS wr b (come s (zs.take k)) ∧ w.grownBy wr (some b)) (fun _ i _ => len - (intOf i).toNat)
    case atStart => exact ⟨0, Nat.zero_le _, rfl, h, World.grownBy.refl w (some b)⟩
    case round =>
      obtain ⟨k, hk, rfl, hr, gr⟩ := hrel
      rcases Nat.lt_or_ge k len with hlt | hge
      · have us := US_come (zs.take k) s hs
        have hct := come_count (zs.take k) s
        rw [List.length_take, Nat.min_eq_left (by omega)] at hct
        have HN : Hid _ := come_snoc s zs k (by omega)
        have hz := at_bound zs hb k
        have hcz := grown_cell gr (hc k hlt) hbb
        generalize zs.getD k 0 = z at *
        obtain ⟨⟨q, m, n⟩, hq⟩ : ∃ S, come s (zs.take k) = S := ⟨_, rfl⟩
        rw [hq] at hr us hct HN
        simp only at hct
        obtain ⟨uq, um⟩ := us
        replace um : U m := um
        replace uq : UQ q := uq
        replace hr : SQ _ b q m (n : Int) := hr
        have hn1 : n < 9223372036854775807 := by omega
        have c4 := hr.c4
        have c5 := hr.c5
        have hf := hr.fr
        clear hc hb hne hs h hq hct hn
        have hst := (hr.s4 (put m n z)).s5 ((n : Int) + 1)
        have hgr := grownBy_drew (grownBy_set (grownBy_set gr ⟨b, 4, none⟩ rfl (.int .u64 (put m n z))) ⟨b, 5, none⟩ rfl (.int .u64 ((n : Int) + 1)))
        have HU : Hid (U (put m n z)) := U_bits _ _ _
        have HP : Hid (bits BinOp.or IntKind.u64 m (IntKind.u64.wrap (z * 2 ^ (8 * (n % 8)))) = put m n z) := rfl
        generalize put m n z = y at *
        by_cases h8 : (n + 1) % 8 = 0
        · have hd : (((n : Int) + 1) % 8 == 0) = true := by simp; omega
          have HS : Hid (come s (List.take (k + 1) zs) = (mixq q y, 0, n + 1)) := by
            unfold Hid; rw [HN.out]; unfold step; rw [if_pos h8]; simp only [put, HP.out]
          have H := fun w h => mix w b q y ((n : Int) + 1) y h uq HU.out
          clear HN h8 hr
          generalize mixq q y = q' at *
          have HT : Hid _ := hst
          have HG : Hid _ := hgr
          have hpo := HP.out
          clear hst hgr HP
          go_wp2
          go_region
          go_wp2_with fail
          refine Calls.mono (H _ HT.out) ?_
          rintro e w2 ⟨rfl, h2, g2⟩
          have hf2 := h2.fr
          have c6 := h2.c4
          clear c4 c5 hf hcz hpo
          go_wp2
          go_roundw
          case rel => exact ⟨k + 1, by omega, by go_num, by rw [HS.out]; exact h2.s4 0, grownBy_set (HG.out.trans g2) ⟨b, 4, none⟩ rfl _⟩
          case measure => simp [intOf]; omega
        · have hd : (((n : Int) + 1) % 8 == 0) = false := by simp; omega
          have HS : Hid (come s (List.take (k + 1) zs) = (q, y, n + 1)) := by
            unfold Hid; rw [HN.out]; unfold step; rw [if_neg h8]; simp only [put, HP.out]
          have HT : Hid _ := hst
          have HG : Hid _ := hgr
          have hpo := HP.out
          clear hst hgr HN h8 HP
          go_wp2
          go_region
          go_wp2
          go_roundw
          case rel => exact ⟨k + 1, by omega, by go_num, by rw [HS.out]; exact HT.out, HG.out⟩
          case measure => simp [intOf]; omega
      · have hge : k = len := by omega
        subst hge
        go_wp2
        go_end0
        rw [← hl, List.take_length] at hr
        exact ⟨rfl, hr, gr⟩

/-- up to eight bytes as a number, the lowest first -/
def pk (f : Nat → Int) : Nat → Int
  | 0 => 0
  | k + 1 => bits .or .u64 (pk f k) (IntKind.u64.wrap (f k * 2 ^ (8 * k)))
theorem U_pk (f : Nat → Int) (k : Nat) : U (pk f k) := by
  cases k with
  | zero => exact show U 0 from ⟨by decide, by decide⟩
  | succ k => exact U_bits _ _ _

def byteAt (zs : List Int) (i : Nat) : Int := zs.getD i 0
theorem number (w : World) (a : Option Addr) (len cap : Nat) (zs : List Int) (hr : Row w a len zs) (h8 : len ≤ 8) :
    Calls Try.prog 21 #[.slice a len cap] w fun e w' => e = .returned (.int .u64 (pk (byteAt zs) len)) ∧ w = w' := by
  obtain ⟨hl, hb, hlim, rfl | ⟨b', off, rfl, hc⟩⟩ := hr
  · obtain rfl := List.eq_nil_of_length_eq_zero hl
    go_enter Try.func21, Try.ntmps21
    go_wp2
    refine wp_loop_rounds 1 ?_
    rw [rounds_succ]
    go_wp2
    go_ret
    exact ⟨rfl, rfl⟩
  · go_enter Try.func21, Try.ntmps21
    go_wp2
    go_loop [3, 4, 5, 8] (fun x _ _ i => ∃ k : Nat, k ≤ len ∧ i = .int .i64 k ∧ x = .int .u64 (pk (byteAt zs) k)) (fun _ _ _ i => len - (intOf i).toNat)
    case atStart => exact ⟨0, Nat.zero_le _, rfl, rfl⟩
    case round =>
      obtain ⟨k, hk, rfl, rfl⟩ := hrel
      rcases Nat.lt_or_ge k len with hlt | hge
      · have HN : Hid (pk (byteAt zs) (k + 1) = bits .or .u64 (pk (byteAt zs) k) (IntKind.u64.wrap (byteAt zs k * 2 ^ (8 * k)))) := rfl
        have hz : 0 ≤ byteAt zs k ∧ byteAt zs k < 256 := at_bound zs hb k
        have hcz : w.cell? ⟨b', off + k, none⟩ = some (.int .u8 (byteAt zs k)) := hc k hlt
        have hx := U_pk (byteAt zs) k
        generalize byteAt zs k = z at *
        generalize pk (byteAt zs) k = x at *
        obtain ⟨hx1, hx2⟩ := hx
        clear hc hb
        have hk8 : k < 8 := by omega
        go_wp2
        go_round
        case rel => exact ⟨k + 1, by omega, by go_num, by rw [HN.out]⟩
        case measure => simp [intOf]; omega
      · have hge : k = len := by omega
        subst hge
        go_wp2
        go_ret
        exact ⟨rfl, rfl⟩

theorem low (w : World) (a : Option Addr) (len cap : Nat) (zs : List Int) (p r : Nat) (hr : Row w a len zs) (h1 : p ≤ r) (h2 : r ≤ len) (h8 : r ≤ p + 8) :
    Calls Try.prog 19 #[.slice a len cap, .int .i64 (p : Int), .int .i64 (r : Int)] w fun e w' => e = .returned (.int .u64 (pk (fun i => byteAt zs (p + i)) (r - p))) ∧ w = w' := by
  obtain ⟨hl, hb, hlim, rfl | ⟨b', off, rfl, hc⟩⟩ := hr
  · obtain rfl : r = 0 := by omega
    obtain rfl : p = 0 := by omega
    go_enter Try.func19, Try.ntmps19
    go_wp2
    refine wp_loop_rounds 1 ?_
    rw [rounds_succ]
    go_wp2
    go_ret
    exact ⟨rfl, rfl⟩
  · go_enter Try.func19, Try.ntmps19
    go_wp2
    go_loop [7, 8] (fun x i => ∃ k : Nat, p + k ≤ r ∧ i = .int .i64 ((p + k : Nat) : Int) ∧ x = .int .u64 (pk (fun i => byteAt zs (p + i)) k)) (fun _ i => r - (intOf i).toNat)
    case atStart => exact ⟨0, by omega, rfl, rfl⟩
    case round =>
      obtain ⟨k, hk, rfl, rfl⟩ := hrel
      rcases Nat.lt_or_ge (p + k) r with hlt | hge
      · have HN : Hid (pk (fun i => byteAt zs (p + i)) (k + 1) = bits .or .u64 (pk (fun i => byteAt zs (p + i)) k) (IntKind.u64.wrap (byteAt zs (p + k) * 2 ^ (8 * k)))) := rfl
        have hz : 0 ≤ byteAt zs (p + k) ∧ byteAt zs (p + k) < 256 := at_bound zs hb (p + k)
        have hcz : w.cell? ⟨b', off + (p + k), none⟩ = some (.int .u8 (byteAt zs (p + k))) := hc (p + k) (by omega)
        have hx := U_pk (fun i => byteAt zs (p + i)) k
        generalize byteAt zs (p + k) = z at *
        generalize pk (fun i => byteAt zs (p + i)) k = x at *
        obtain ⟨hx1, hx2⟩ := hx
        clear hc hb
        have hk8 : k < 8 := by omega
        go_wp2
        go_round
        case rel => exact ⟨k + 1, by omega, by go_num, by rw [HN.out]⟩
        case measure => simp [intOf]; omega
      · have hge : k = r - p := by omega
        subst hge
        go_wp2
        go_ret
        exact ⟨rfl, rfl⟩
end Go.Proofs.Ytalfhcaggjgibaa.Mac
