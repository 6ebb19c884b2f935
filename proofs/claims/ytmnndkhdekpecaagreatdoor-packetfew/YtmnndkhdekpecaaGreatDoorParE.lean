/-
  The document's bytes of a list.
  Conditions: the numbers lie within their kinds, the cells hold them.
-/
import Derived.Test.YtmnndkhdekpecaaGreatDoorPa
namespace Go.Proofs.YtmnndkhdekpecaaGreatDoor.Par
open Go.ChangeShapes Go.WideShapes Go.ChangeAt Go.RowKit
set_option linter.unusedVariables false

theorem rTwo (n : Int) (h0 : 0 ≤ n) (h1 : n < 65536) (w : World) :
    Calls Tryz.prog 31 #[.int .u16 n] w fun e w' => e = .returned (.slice (some ⟨w.heap.size, 0, none⟩) 2 2) ∧ w' = w.alloc (.cells #[.int .u8 (n / 256), .int .u8 (n % 256)] 5) := by
  go_enter Tryz.func31, Tryz.ntmps31
  go_wp2
  go_ret
  exact ⟨rfl, rfl⟩
theorem own_later {w w' : World} {base e s n : Nat} {v : Value} {xs : List Value} (h : w.ownsRow base e s v n xs) (hb : Below w.heap.size w w') : w'.ownsRow base e s v n xs :=
  h.kept (row := none) ⟨hb.os, hb.tape, hb.output, hb.size, fun k hk _ => hb.block k hk⟩ (Classical.em (v.ownBlock = none))
theorem own_append {w : World} {base n m : Nat} {v : Value} {xs ys : List Int} (h : w.ownsRow base 5 1 v n (cs xs ++ cs ys)) : w.ownsRow base 5 1 v n (cs (xs ++ ys)) := by rw [cs_append]; exact h
theorem own_len {w : World} {base n : Nat} {v : Value} {xs : List Int} (h : w.ownsRow base 5 1 v n (cs xs)) : xs.length = n := by have := h.1; rw [cs_len, Nat.mul_one] at this; exact this
theorem own_form {w : World} {base e s n : Nat} {v : Value} {xs : List Value} (h : w.ownsRow base e s v n xs) : ∃ a cap, v = .slice a n cap := by
  rcases h.2 with ⟨rfl, rfl⟩ | ⟨g, cap, cur, rfl, _⟩ <;> exact ⟨_, _, rfl⟩

def lenW : Value → Nat
  | .slice _ n _ => n
  | _ => 0
theorem fill_end (m d : Nat) (hd : m + d ≤ fill4 m) (h : (m + d) % 4 = 0) : fill4 m - m = d := by unfold fill4 at *; omega
theorem fill_more (m d : Nat) (hd : m + d ≤ fill4 m) (h : ¬ (m + d) % 4 = 0) : m + (d + 1) ≤ fill4 m := by unfold fill4 at *; omega
theorem rep_snoc (X : List Int) (d : Nat) : cs (X ++ List.replicate (d + 1) 0) = cs (X ++ List.replicate d 0) ++ [.int .u8 0] := by
  rw [List.replicate_succ', ← List.append_assoc, cs_append]; rfl
set_option maxRecDepth 20000 in
theorem rEncode (base : Nat) (w : World) (pa : Option Addr) (n pcap : Nat) (ps : List Prm) (hp : Prms base w pa n ps) :
    Calls Tryz.prog 77 #[.slice pa n pcap] w fun e w' => ∃ v c, e = .returned (.tuple #[v, .int .i64 c]) ∧ code ps c ∧ (c ≠ 0 → v = .slice none 0 0) ∧
      (c = 0 → w'.ownsRow w.heap.size 5 1 v (enc (ps.map val)).length (cs (enc (ps.map val)))) ∧ Below w.heap.size w w' := by
  obtain ⟨i0, hi, hz0, hz1, hz2⟩ := info_parts info5
  have HP := hidden hp
  have hnl := hp.2.1
  have hpl := hp.1
  have HC : Hid (∀ e, code ps e ↔ (256 < n ∧ e = 3) ∨ (n ≤ 256 ∧ Long ps ∧ e = 2) ∨ (n ≤ 256 ∧ ¬ Long ps ∧ e = 0)) := by intro e; unfold code; rw [hpl]
  clear hp
  by_cases hm : 256 < n
  · go_enter Tryz.func77, Tryz.ntmps77
    go_wp2
    go_ret2
    exact ⟨_, _, rfl, (HC.out _).2 (.inl ⟨hm, rfl⟩), (fun _ => rfl), (fun h => by omega), Below.refl _ _⟩
  · go_enter Tryz.func77, Tryz.ntmps77
    go_wp2_with fail
    go_loopw [4] (fun i wr => ∃ k : Nat, k ≤ n ∧ i = .int .i64 k ∧ (∀ p ∈ ps.take k, ¬ 65531 < p.2.2.1) ∧ w = wr) (fun i _ => n - (intOf i).toNat)
    case atStart => exact ⟨0, Nat.zero_le _, rfl, (fun p hp => by simp at hp), rfl⟩
    case round =>
      obtain ⟨k, hk, rfl, hno, rfl⟩ := hrel
      rcases Nat.lt_or_ge k n with hlt | hge
      · obtain ⟨b, off, t, a, len, cap, zs, rfl, hpk, hc1, hc2, hone⟩ := HP.out.get hlt
        obtain ⟨_, _, hlim, _⟩ := hone.len
        have HPK := hidden hpk
        have HN := hidden hno
        clear hpk hno hone
        by_cases hL : 65531 < len
        · go_wp2
          go_ret2
          exact ⟨_, _, rfl, (HC.out _).2 (.inr (.inl ⟨by omega, ⟨_, List.mem_of_getElem? HPK.out, hL⟩, rfl⟩)), (fun _ => rfl), (fun h => by omega), Below.refl _ _⟩
        · go_wp2
          go_roundw
          case rel =>
            refine ⟨k + 1, by omega, by go_num, fun p hp => ?_, by trivial⟩
            rcases mem_take_succ HPK.out hp with h | h
            · exact HN.out p h
            · subst h; exact hL
          case measure => simp [intOf]; omega
      · obtain rfl : n = k := by omega
        rw [List.take_of_length_le (by rw [HP.out.1]; omega)] at hno
        have HL := hidden (show ¬ Long ps from fun ⟨p, hp, hl⟩ => hno p hp hl)
        clear hno
        have HE := hidden (enc_take_le HL.out (by rw [hpl]; omega) HP.out.2.2.1)
        have hd9 : decide ((256 : Int) < (n : Int)) = false := decide_eq_false (by omega)
        rw [hd9]
        go_wp2_with fail
        go_loopw [5, 6] (fun v i wr => ∃ k : Nat, k ≤ n ∧ i = .int .i64 k ∧ wr.ownsRow w.heap.size 5 1 v (enc ((ps.take k).map val)).length (cs (enc ((ps.take k).map val))) ∧ Below w.heap.size w wr) (fun _ i _ => n - (intOf i).toNat)
        case atStart => exact ⟨0, Nat.zero_le _, rfl, World.ownsRow_nil _ _ _ _, Below.refl _ _⟩
        case round =>
          obtain ⟨k, hk, rfl, ho, hbl⟩ := hrel
          rcases Nat.lt_or_ge k n with hlt | hge
          · obtain ⟨b, off, t, a, len, cap, zs, rfl, hpk, hc1, hc2, hone⟩ := HP.out.get hlt
            obtain ⟨hzl, _, hlim, ht⟩ := hone.len
            have hs := enc_snoc ps k _ hpk
            have hshort : len ≤ 65531 := by
              rcases Nat.lt_or_ge 65531 len with h | h
              · exact absurd ⟨_, List.mem_of_getElem? hpk, h⟩ HL.out
              · exact h
            have hput : put (enc ((ps.take k).map val)) (t, zs) = enc ((ps.take k).map val) ++ List.replicate (fill4 (enc ((ps.take k).map val)).length - (enc ((ps.take k).map val)).length) 0 ++ head (t, zs) ++ zs := rfl
            have HS := hidden (hs.trans hput)
            have h2 := fill4_le (enc ((ps.take k).map val)).length
            have h3 := HE.out k
            have HO := hidden ho
            have HB := hidden hbl
            have HON := hidden hone
            have HC1 := hidden hc1
            have HC2 := hidden hc2
            have hbs := hbl.size
            clear hs hput hpk hbl ho hone hc1 hc2
            generalize hX : enc ((ps.take k).map val) = X at *
            have HX := hidden hX
            clear hX
            generalize hmm : X.length = m at *
            have Hm := hidden hmm
            clear hmm
            go_wp2_with fail
            go_loopw [5] (fun v wr => ∃ d : Nat, m + d ≤ fill4 m ∧ wr.ownsRow w.heap.size 5 1 v (m + d) (cs (X ++ List.replicate d 0)) ∧ Below w.heap.size w wr) (fun v _ => fill4 m - lenW v)
            case atStart => exact ⟨0, by omega, by simpa using HO.out, HB.out⟩
            case round =>
              obtain ⟨d, hd, ho, hbl⟩ := hrel
              obtain ⟨va, vc, rfl⟩ := own_form ho
              have HO2 := hidden ho
              have HB2 := hidden hbl
              clear ho hbl
              have htm : ((m : Int) + (d : Int)).tmod 4 = (((m + d) % 4 : Nat) : Int) := by rw [Int.tmod_eq_emod_of_nonneg (by omega)]; omega
              by_cases hz : (m + d) % 4 = 0
              · have he := fill_end m d hd hz
                clear htm
                rw [he] at HS
                have HON2 := hidden (HON.out.later HB2.out)
                have hc1 := (HB2.out.cell (cell_lt HC1.out)).trans HC1.out
                have hc2 := (HB2.out.cell (cell_lt HC2.out)).trans HC2.out
                have hM : m + d ≤ 16777732 := by omega
                have HLN := hidden (show (X ++ List.replicate d 0).length = m + d by rw [List.length_append, List.length_replicate, Hm.out])
                generalize X ++ List.replicate d 0 = Y at *
                generalize m + d = M at *
                have hzi : (M : Int) % 4 = 0 := by omega
                have hbs2 := HB2.out.size
                have HE2 := hidden (show head (t, zs) = [t / 256, t % 256] ++ [((len : Int) + 4) / 256, ((len : Int) + 4) % 256] by
                  unfold head
                  simp only [hzl]
                  rw [show ((len + 4 : Nat) : Int) = (len : Int) + 4 by omega, show ((len : Int) + 4) / 256 % 256 = ((len : Int) + 4) / 256 by omega]
                  rfl)
                clear HO HB h2 hd hz he
                go_wp2_with fail
                refine (rTwo t ht.1 ht.2 _).mono ?_
                rintro e w3 ⟨rfl, hw3⟩
                have B3 : Below w.heap.size w w3 := by rw [hw3]; exact HB2.out.alloc hbs2 _
                have ho3 : w3.ownsRow w.heap.size 5 1 (.slice va M vc) M (cs Y) := by rw [hw3]; exact HO2.out.alloc _
                have hn3 : ∀ j u, (cs [t / 256, t % 256])[j]? = some u → w3.cell? ((⟨wr.heap.size, 0, none⟩ : Addr).add j) = some u := by rw [hw3]; exact cells_new wr _ 5
                have hb3 := B3.size
                have hc13 := (B3.cell (cell_lt HC1.out)).trans HC1.out
                have hc23 := (B3.cell (cell_lt HC2.out)).trans HC2.out
                clear hw3 hc1 hc2
                go_wp2_with (at_builtin; refine wpList_append_own _ rfl _ _ 27 rfl w.heap.size 5 i0 (.int .u8 0) 1 1 Tryz.underlying27 hi hz0 hz1 hz2 rfl (by decide) _ _ _ rfl ho3 ⟨wr.heap.size, 0, none⟩ 2 2 (cs [t / 256, t % 256]) rfl rfl hn3 (cs_one _) ?d3 ?d4 hb3 ?_)
                case d3 => unfold maxLen; omega
                case d4 => omega
                intro v4 w4 ho4 hg4 _
                have HB4 := hidden (B3.grown hg4 hb3 (fun j hj => (ho3.lt j hj).1))
                obtain ⟨va4, vc4, rfl⟩ := own_form ho4
                have HO4 := hidden ho4
                have hc14 := (HB4.out.cell (cell_lt HC1.out)).trans HC1.out
                have hc24 := (HB4.out.cell (cell_lt HC2.out)).trans HC2.out
                have hb4 := HB4.out.size
                clear ho3 ho4 hg4 hn3 hc13 hc23 B3 hb3
                go_wp2_with fail
                refine (rTwo ((len : Int) + 4) (by omega) (by omega) _).mono ?_
                rintro e w5 ⟨rfl, hw5⟩
                have B5 : Below w.heap.size w w5 := by rw [hw5]; exact HB4.out.alloc hb4 _
                have ho5 : w5.ownsRow w.heap.size 5 1 (.slice va4 (M + 2) vc4) (M + 2) (cs Y ++ cs [t / 256, t % 256]) := by rw [hw5]; exact HO4.out.alloc _
                have hn5 : ∀ j u, (cs [((len : Int) + 4) / 256, ((len : Int) + 4) % 256])[j]? = some u → w5.cell? ((⟨w4.heap.size, 0, none⟩ : Addr).add j) = some u := by rw [hw5]; exact cells_new w4 _ 5
                have hb5 := B5.size
                clear hw5 hc14 hc24
                go_wp2_with (at_builtin; refine wpList_append_own _ rfl _ _ 27 rfl w.heap.size 5 i0 (.int .u8 0) 1 1 Tryz.underlying27 hi hz0 hz1 hz2 rfl (by decide) _ _ _ rfl ho5 ⟨w4.heap.size, 0, none⟩ 2 2 (cs [((len : Int) + 4) / 256, ((len : Int) + 4) % 256]) rfl rfl hn5 (cs_one _) ?e3 ?e4 hb5 ?_)
                case e3 => unfold maxLen; omega
                case e4 => omega
                intro v6 w6 ho6 hg6 _
                have HB6 := hidden (B5.grown hg6 hb5 (fun j hj => (ho5.lt j hj).1))
                obtain ⟨va6, vc6, rfl⟩ := own_form ho6
                have HO6 := hidden (show w6.ownsRow w.heap.size 5 1 (.slice va6 (M + 4) vc6) (M + 4) (cs (Y ++ head (t, zs))) by
                  rw [HE2.out, cs_append, cs_append]; exact ho6)
                have hc26 := (HB6.out.cell (cell_lt HC2.out)).trans HC2.out
                have hb6 := HB6.out.size
                have HN6 := hidden (HON.out.later HB6.out)
                clear ho5 ho6 hg6 hn5 B5 hb5
                rcases a with _ | ad
                · obtain ⟨h0, h1⟩ := HN6.out.2.2.2.2 rfl
                  simp only at h0 h1
                  subst h0; subst h1
                  obtain rfl := List.eq_nil_of_length_eq_zero hzl
                  go_wp2_with (at_builtin; refine wpList_append_own_none rfl _ _ 27 rfl w.heap.size 5 i0 1 Tryz.underlying27 hi _ _ _ rfl HO6.out rfl ?_)
                  go_wp2
                  go_roundw
                  case rel => exact ⟨k + 1, by omega, by go_num, by rw [HS.out, List.append_nil, List.length_append, HLN.out]; exact HO6.out, HB6.out⟩
                  case measure => simp [intOf]; omega
                · have hnews := HN6.out.2.1.news
                  simp only at hnews
                  go_wp2_with (at_builtin; refine wpList_append_own _ rfl _ _ 27 rfl w.heap.size 5 i0 (.int .u8 0) 1 1 Tryz.underlying27 hi hz0 hz1 hz2 rfl (by decide) _ _ _ rfl HO6.out ad len cap (cs zs) rfl ?g0 hnews (cs_one _) ?g3 ?g4 hb6 ?_)
                  case g0 => rw [cs_len, hzl, Nat.mul_one]
                  case g3 => unfold maxLen; omega
                  case g4 => omega
                  intro v7 w7 ho7 hg7 _
                  have HB7 := hidden (HB6.out.grown hg7 hb6 (fun j hj => (HO6.out.lt j hj).1))
                  have HO7 := hidden ho7
                  clear ho7 hg7 hnews
                  go_wp2
                  go_roundw
                  case rel => exact ⟨k + 1, by omega, by go_num, by rw [HS.out, cs_append, List.length_append, List.length_append, HLN.out, hzl]; exact HO7.out, HB7.out⟩
                  case measure => simp [intOf]; omega
              · have hmore := fill_more m d hd hz
                have hnz : ¬ ((((m + d) % 4 : Nat) : Int) = 0) := by omega
                generalize (((m + d) % 4 : Nat) : Int) = q at *
                have hsz := HB2.out.size
                go_wp2_with (at_builtin; refine wpList_append_own _ rfl _ _ 27 rfl w.heap.size 5 i0 (.int .u8 0) 1 1 Tryz.underlying27 hi hz0 hz1 hz2 rfl (by decide) _ _ _ rfl (HO2.out.alloc _) ⟨wr.heap.size, 0, none⟩ 1 1 [.int .u8 0] rfl rfl (cell_one_new _ _ _) (by simp [Value.oneCell']) ?c3 ?c4 (by simp; omega) ?_)
                case c3 => unfold maxLen; omega
                case c4 => omega
                intro v' w2 ho2 hg2 _
                rw [← rep_snoc] at ho2
                have hb2 : Below w.heap.size w w2 := (HB2.out.alloc hsz _).grown hg2 (by simp; omega) (fun j hj => (HO2.out.lt j hj).1)
                obtain ⟨va', vc', rfl⟩ := own_form ho2
                have HO3 := hidden ho2
                clear hg2 ho2
                go_wp2
                go_roundw
                case rel => exact ⟨d + 1, hmore, HO3.out, hb2⟩
                case measure => simp [lenW]; omega
          · obtain rfl : n = k := by omega
            rw [List.take_of_length_le (by rw [HP.out.1]; omega)] at ho
            have ho' := hidden ho
            clear ho
            go_wp2
            go_ret2
            exact ⟨_, _, rfl, (HC.out _).2 (.inr (.inr ⟨by omega, HL.out, rfl⟩)), (fun h => absurd rfl h), (fun _ => ho'.out), hbl⟩

end Go.Proofs.YtmnndkhdekpecaaGreatDoor.Par
