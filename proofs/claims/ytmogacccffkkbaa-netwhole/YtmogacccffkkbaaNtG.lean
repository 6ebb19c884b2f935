/-
  Send and Forge.
  Conditions: the network lies in memory; the bytes lie in memory.
-/
import Derived.Test.YtmogacccffkkbaaNtF
namespace Go.Proofs.Ytmogacccffkkbaa.Nt
open Go.ChangeShapes Go.WideShapes Go.ChangeAt Go.RowKit
open Ba (hidden Only In Has own_ne own_stay own_len own_some own_mono cell_lt heap_lt)
set_option linter.unusedVariables false
theorem cnt_at (S : St) (i e : Nat) (f : Bool) : (cnt S i e f).R i e = ⟨bump f (S.R i e).T, (S.R i e).L⟩ := up2_same _ _ _ _
/-- bytes in memory, ahead of base or in a block of bytes -/
def By (base : Nat) (w : World) (a : Option Addr) (n : Nat) (bs : List Int) : Prop :=
  bs.length = n ∧ Bytes bs ∧ (n = 0 ∨ ∃ b off, a = some ⟨b, off, none⟩ ∧ b < w.heap.size ∧ (b < base ∨ ∃ cs m, w.heap[b]? = some (.cells cs 5 m)) ∧ ∀ j, j < n → w.cell? ⟨b, off + j, none⟩ = some (.int .u8 (bs.getD j 0)))
theorem By.stay {TY : TypeId → Bool} {base : Nat} {w w' : World} {a : Option Addr} {n : Nat} {bs : List Int} (h : By base w a n bs) (hk : Kept TY base w w') (ht : TY 5 = false) : By base w' a n bs := by
  obtain ⟨h1, h2, h3⟩ := h
  refine ⟨h1, h2, h3.imp id ?_⟩
  rintro ⟨b, off, rfl, hb, hc, hj⟩
  have e : w'.heap[b]? = w.heap[b]? := hk.block b hb (hc.imp id (by
    rintro ⟨cs, m, e1⟩ cs' t' m' e2
    rw [e1] at e2
    cases e2
    exact ht))
  refine ⟨b, off, rfl, Nat.lt_of_lt_of_le hb hk.size, ?_, fun j hl => ?_⟩
  · rw [e]; exact hc
  · rw [← hj j hl]; simp [World.cell?, e]
theorem By.later {base : Nat} {w w' : World} {a : Option Addr} {n : Nat} {bs : List Int} (h : By base w a n bs) (hB : Below w.heap.size w w') : By base w' a n bs := h.stay (TY := fun _ => false) (Kept.of_below hB) rfl
/-- bytes as a text -/
theorem By.conv {base : Nat} {w : World} {a : Option Addr} {n : Nat} {bs : List Int} (h : By base w a n bs) (cap : Nat) : (convert 32 9 (.slice a n cap)).run Try.prog w = .ok (.string (strOfNums bs)) w := by
  rcases Nat.eq_zero_or_pos n with rfl | hp
  · obtain rfl := List.eq_nil_of_length_eq_zero h.1
    cases a with
    | none => exact run_convert_bytes_nil w 32 5 Try.underlying32 Try.underlying5 0 cap 9 Try.underlying9
    | some x =>
      rw [run_convert_bytes_string w 32 9 5 _ 0 cap Try.underlying32 Try.underlying5 Try.underlying9]
      exact run_bytesToString w x 0 cap [] (run_loadCells_list w x [] (fun j v hj => by cases hj))
  · obtain ⟨b, off, rfl, _, _, hc⟩ := h.2.2.resolve_left (by omega)
    exact run_convert_bytes_arg w 32 5 Try.underlying32 Try.underlying5 b off n cap bs h.1 hc 9 Try.underlying9
section
variable {base : Nat} {w w' w1 : World} {t b : Nat} {vs : Nat → Nat → Value} {S : St} {i e : Nat}
/-- what Send and Forge leave -/
def LaO (base : Nat) (w : World) (t b : Nat) (S : St) (en path now : Int) (bs : List Int) (f : Bool) (e : Ending) (w' : World) : Prop :=
  e = .returned (.tuple #[.int .i64 (laI S en path now bs.length), .int .i64 (laE S en path now bs.length)]) ∧ (∃ vs', No base w' t b vs' (laS S en path now bs f)) ∧ Kept TYc base w w'
theorem la_bad (h : No base w t b vs S) {en path now : Int} {bs : List Int} {f : Bool} {c : Int} (hc : laE S en path now bs.length = c) (h0 : c ≠ 0) (o : Obj) : LaO base w t b S en path now bs f (.returned (.tuple #[.int .i64 0, .int .i64 c])) (w.alloc o) := by
  have hl : laS S en path now bs f = S := by unfold laS; rw [hc]; exact if_neg h0
  have hi : laI S en path now bs.length = 0 := by unfold laI; rw [hc]; exact if_neg h0
  refine ⟨by rw [hc, hi], ⟨vs, ?_⟩, (Kept.refl _ _ _).alloc o⟩
  rw [hl]
  exact h.later ((Below.refl _ _).alloc (Nat.le_refl _) o)
set_option maxHeartbeats 2000000 in
theorem launch (h : No base w t b vs S) (hI : Inv S) (hn : S.next ≤ 1000) (hbase : base ≤ w.heap.size) (en path now : Int) {a : Option Addr} {n cap : Nat} {bs : List Int} (hb : By base w a n bs) (f : Bool) :
    Calls Try.prog 37 #[.pointer (some ⟨t, 0, none⟩), .int .i64 en, .int .i64 path, .slice a n cap, .agg #[.int .i64 0, .int .i64 now, .int .i64 0, .bool f]] w fun e' w' => LaO base w t b S en path now bs f e' w' := by
  obtain ⟨W1, hW1⟩ : ∃ W1, W1 = w.alloc (.cells #[.int .i64 0, .int .i64 now, .int .i64 0, .bool f] 51) := ⟨_, rfl⟩
  have hB : Below w.heap.size w W1 := by rw [hW1]; exact (Below.refl _ w).alloc (Nat.le_refl _) _
  have h' := h.later hB
  have BAD : Hid (∀ c o, laE S en path now bs.length = c → c ≠ 0 → LaO base w t b S en path now bs f (.returned (.tuple #[.int .i64 0, .int .i64 c])) (w.alloc o)) := fun c o hc h0 => la_bad h hc h0 o
  have hnb : bs.length = n := hb.1
  cases hp : ok S en path with
  | false =>
    have hE : Hid (laE S en path now bs.length = 90) := by unfold Hid laE; rw [hp]; rfl
    have LA := hidden (row_no h' hp hI.p)
    rw [hW1] at LA
    clear h h' hp hb hB hW1 hnb
    go_enter Try.func37, Try.ntmps37
    go_wp2_with fail
    refine Calls.mono LA.out ?_
    rintro e w' ⟨rfl, rfl⟩
    go_wp2
    go_ret2
    exact BAD.out 90 _ hE.out (by decide)
  | true =>
    have LA := hidden (row_ok h' hp hI.p)
    by_cases hnow : 0 ≤ now ∧ now ≤ 1099511627776
    · by_cases hlen : n ≤ 65536
      · have hE : laE S en path now bs.length = 0 := by unfold laE; rw [hp, if_pos rfl, if_pos hnow, if_pos (by omega)]
        have ha := At.of hp
        have hr := hI.rows path.toNat en.toNat
        have hl := hr.len
        have FU := hidden (full h' ha (by omega))
        have CO := hidden (count h' ha hr hn f)
        have hbx : Has W1 w.heap.size #[.int .i64 0, .int .i64 now, .int .i64 0, .bool f] 51 := by rw [hW1]; exact Has.new w _ _
        have CV : Hid (∀ w2, Kept TYc base w w2 → (convert 32 9 (.slice a n cap)).run Try.prog w2 = .ok (.string (strOfNums bs)) w2) := fun w2 hk => (hb.stay hk rfl).conv cap
        have hokc : ok (cnt S path.toNat en.toNat f) en path = true := hp
        have PU : Hid (∀ w2, No base w2 t b vs (cnt S path.toNat en.toNat f) → Kept TYc base w w2 → Calls Try.prog 41 #[.pointer (some ⟨t, 0, none⟩), .int .i64 en, .int .i64 path, .agg #[.int .i64 0, .int .i64 now, .int .i64 n, .bool f, .string (strOfNums bs)]] w2 fun e' w' => LaO base w t b S en path now bs f (.returned (.tuple #[.int .i64 S.next, .int .i64 0])) w' ∧ e' = .returned (.int .i64 S.next)) := fun w2 hN hK => by
          have hq1 : ((cnt S path.toNat en.toNat f).R path.toNat en.toNat).T.l = (S.R path.toNat en.toNat).T.l := by
            rw [cnt_at]
            cases f <;> rfl
          have hq2 : ((cnt S path.toNat en.toNat f).R path.toNat en.toNat).L = (S.R path.toNat en.toNat).L := by
            rw [cnt_at]
          refine Calls.mono (put hN hokc rfl rfl (Nat.le_trans hbase hK.size) hI.p ⟨hI.next, hn⟩ (by rw [hq1]; have := hr.l; have := hr.s; have := hr.f; have := hr.d; have := hr.sum; have := hr.few; omega) (by rw [hq2]; omega) ⟨0, now, n, f, bs⟩) ?_
          rintro e w' ⟨rfl, hE2, hK2⟩
          refine ⟨⟨?_, ?_, hK.trans hK2⟩, rfl⟩
          · unfold laI; rw [hE]; rfl
          · unfold laS; rw [if_pos hE, hnb]; exact hE2
        have HK0 : Hid (Kept TYc base w W1) := Kept.of_below hB
        have HBX := hidden hbx
        have hneb : Hid (∀ w2, Kept TYc base W1 w2 → Has w2 w.heap.size #[.int .i64 0, .int .i64 now, .int .i64 0, .bool f] 51) := fun w2 hk => hk.has hbx rfl
        have hok := hp
        rw [hW1] at LA FU CO
        have HW1 := hidden hW1
        generalize path.toNat * 11 + en.toNat * 5 = o at LA FU CO
        clear h h' hp hb hB hW1 hE ha hr hl hbx hokc hok
        go_enter Try.func37, Try.ntmps37
        go_wp2_with fail
        refine Calls.mono LA.out ?_
        rintro e w' ⟨rfl, rfl⟩
        go_wp2_with fail
        refine Calls.mono FU.out ?_
        rintro e w' ⟨rfl, rfl⟩
        go_wp2_with fail
        refine Calls.mono CO.out ?_
        rintro e w2 ⟨rfl, hN, hK⟩
        rw [← HW1.out] at hK
        have hx := hneb.out w2 hK
        have cx0 := hx.cell 0 rfl
        have cx1 := hx.cell 1 rfl
        have cx2 := hx.cell 2 rfl
        have cx3 := hx.cell 3 rfl
        have fx2 := hx.frozen 2
        have cv := CV.out (w2.setCell ⟨w.heap.size, 2, none⟩ (.int .i64 n)) ((HK0.out.trans hK).setNew (p := ⟨w.heap.size, 2, none⟩) (Nat.le_refl _) _)
        have HN2 : Hid (No base (w2.setCell ⟨w.heap.size, 2, none⟩ (.int .i64 n)) t b vs (cnt S path.toNat en.toNat f)) := by
          have hT : Kept (fun t => t == 51) base w2 (w2.setCell ⟨w.heap.size, 2, none⟩ (.int .i64 n)) := (Kept.refl _ _ _).set (p := ⟨w.heap.size, 2, none⟩) hx rfl hbase _
          exact hN.stay hT rfl rfl rfl
        have HK2 : Hid (Kept TYc base w (w2.setCell ⟨w.heap.size, 2, none⟩ (.int .i64 n))) := (HK0.out.trans hK).setNew (p := ⟨w.heap.size, 2, none⟩) (Nat.le_refl _) _
        clear hN hK hx
        go_wp2_with fail
        refine Calls.mono (PU.out _ HN2.out HK2.out) ?_
        rintro e w3 ⟨hL, rfl⟩
        have HL := hidden hL
        clear hL
        go_wp2
        go_ret2
        exact HL.out
      · have hE : Hid (laE S en path now bs.length = 2) := by unfold Hid laE; rw [hp, if_pos rfl, if_pos hnow, if_neg (by omega)]
        rw [hW1] at LA
        clear h h' hp hb hB hW1 hnb
        go_enter Try.func37, Try.ntmps37
        go_wp2_with fail
        refine Calls.mono LA.out ?_
        rintro e w' ⟨rfl, rfl⟩
        go_wp2
        go_ret2
        exact BAD.out 2 _ hE.out (by decide)
    · have hE : Hid (laE S en path now bs.length = 1) := by unfold Hid laE; rw [hp, if_pos rfl, if_neg hnow]
      rw [hW1] at LA
      clear h h' hp hb hB hW1 hnb
      by_cases hneg : now < 0
      · go_enter Try.func37, Try.ntmps37
        go_wp2_with fail
        refine Calls.mono LA.out ?_
        rintro e w' ⟨rfl, rfl⟩
        go_wp2
        go_ret2
        exact BAD.out 1 _ hE.out (by decide)
      · have hbig : 1099511627776 < now := by omega
        go_enter Try.func37, Try.ntmps37
        go_wp2_with fail
        refine Calls.mono LA.out ?_
        rintro e w' ⟨rfl, rfl⟩
        go_wp2
        go_ret2
        exact BAD.out 1 _ hE.out (by decide)
theorem send (h : No base w t b vs S) (hI : Inv S) (hn : S.next ≤ 1000) (hbase : base ≤ w.heap.size) (en path now : Int) {a : Option Addr} {n cap : Nat} {bs : List Int} (hb : By base w a n bs) :
    Calls Try.prog 14 #[.pointer (some ⟨t, 0, none⟩), .int .i64 en, .int .i64 path, .slice a n cap, .int .i64 now] w fun e' w' => LaO base w t b S en path now bs false e' w' := by
  have LA := hidden (launch h hI hn hbase en path now (cap := cap) hb false)
  clear h hb
  go_enter Try.func14, Try.ntmps14
  go_wp2_with fail
  refine Calls.mono LA.out ?_
  intro e w' hL
  obtain rfl := hL.1
  have HL := hidden hL
  clear hL
  go_wp2
  go_ret2
  exact HL.out
theorem forge (h : No base w t b vs S) (hI : Inv S) (hn : S.next ≤ 1000) (hbase : base ≤ w.heap.size) (en path now : Int) {a : Option Addr} {n cap : Nat} {bs : List Int} (hb : By base w a n bs) :
    Calls Try.prog 16 #[.pointer (some ⟨t, 0, none⟩), .int .i64 en, .int .i64 path, .slice a n cap, .int .i64 now] w fun e' w' => LaO base w t b S en path now bs true e' w' := by
  have LA := hidden (launch h hI hn hbase en path now (cap := cap) hb true)
  clear h hb
  go_enter Try.func16, Try.ntmps16
  go_wp2_with fail
  refine Calls.mono LA.out ?_
  intro e w' hL
  obtain rfl := hL.1
  have HL := hidden hL
  clear hL
  go_wp2
  go_ret2
  exact HL.out
end
end Go.Proofs.Ytmogacccffkkbaa.Nt
