/-
  Acts; whether all that is told of two networks is alike.
  Conditions: both lie in memory.
-/
import Derived.Test.YtmogacccffkkbaaNtT
namespace Go.Proofs.Ytmogacccffkkbaa.Nt
open Go.ChangeShapes Go.WideShapes Go.ChangeAt Go.RowKit
open Ba (hidden Only In Has own_ne own_stay own_len own_some own_mono cell_lt heap_lt)
set_option linter.unusedVariables false
/-- an act -/
structure Op where
  kind : Int
  en : Int
  path : Int
  i : Int
  at_ : Int
  now : Int
  bits : Int
  bs : List Int
def opc (o : Op) (a : Option Addr) (n cap : Nat) : List Value := [.int .i64 o.kind, .int .i64 o.en, .int .i64 o.path, .int .i64 o.i, .int .i64 o.at_, .int .i64 o.now, .int .u8 o.bits, .slice a n cap]
/-- what it makes of a network -/
def act_ (o : Op) (S : St) : St :=
  if o.kind = 1 then laS S o.en o.path o.now o.bs false else if o.kind = 2 then laS S o.en o.path o.now o.bs true else if o.kind = 3 then takeS S o.en o.path o.i dlT else if o.kind = 4 then takeS S o.en o.path o.i drT
  else if o.kind = 5 then twS S o.en o.path o.i else if o.kind = 6 then spS S o.en o.path o.i o.at_ o.bits else if o.kind = 7 then dnS S o.path else if o.kind = 8 then upS S o.path else S
theorem act_inv {S : St} (h : Inv S) (o : Op) (hb : Bytes o.bs) (hbi : 0 ≤ o.bits ∧ o.bits < 256) : Inv (act_ o S) ∧ (act_ o S).next ≤ S.next + 1 := by
  unfold act_
  split
  · exact ⟨h.la _ _ _ _ hb, (laS_next _ _ _ _).2⟩
  split
  · exact ⟨h.la _ _ _ _ hb, (laS_next _ _ _ _).2⟩
  split
  · exact ⟨h.take _ _ _ (.inl rfl), by rw [takeS_next]; omega⟩
  split
  · exact ⟨h.take _ _ _ (.inr rfl), by rw [takeS_next]; omega⟩
  split
  · exact ⟨h.tw _ _ _, (twS_next _ _ _).2⟩
  split
  · exact ⟨h.sp _ _ _ _ hbi, by rw [spS_next]; omega⟩
  split
  · exact ⟨h.dn _, by rw [dnS_next]; omega⟩
  split
  · exact ⟨h.up _, by rw [upS_next]; omega⟩
  · exact ⟨h, by omega⟩
section
variable {base : Nat} {w0 w w' : World} {t r : Nat} {S S' : St}
set_option maxHeartbeats 4000000 in
set_option maxRecDepth 20000 in
theorem act0 (h : Pn base w0 w t r S S') (kd en path j at_ now bits : Int) (a : Option Addr) (n cap : Nat) (h1 : ¬ kd = 1) (h2 : ¬ kd = 2) (h3 : ¬ kd = 3) (h4 : ¬ kd = 4) (h5 : ¬ kd = 5) (h6 : ¬ kd = 6) (h7 : ¬ kd = 7) (h8 : ¬ kd = 8) :
    Calls Try.prog 10 #[.pointer (some ⟨t, 0, none⟩), .pointer (some ⟨r, 0, none⟩), .agg #[.int .i64 kd, .int .i64 en, .int .i64 path, .int .i64 j, .int .i64 at_, .int .i64 now, .int .u8 bits, .slice a n cap]] w fun e' w' => ActO base w0 t r S S' S S' e' w' := by
  have FIN : Hid (∀ o, Pn base w0 (w.alloc o) t r S S') := fun o => h.later ((Below.refl _ w).alloc (Nat.le_refl _) o)
  have k1 : (kd == 1) = false := beq_eq_false_iff_ne.2 h1
  have k2 : (kd == 2) = false := beq_eq_false_iff_ne.2 h2
  have k3 : (kd == 3) = false := beq_eq_false_iff_ne.2 h3
  have k4 : (kd == 4) = false := beq_eq_false_iff_ne.2 h4
  have k5 : (kd == 5) = false := beq_eq_false_iff_ne.2 h5
  have k6 : (kd == 6) = false := beq_eq_false_iff_ne.2 h6
  have k7 : (kd == 7) = false := beq_eq_false_iff_ne.2 h7
  have k8 : (kd == 8) = false := beq_eq_false_iff_ne.2 h8
  clear h
  go_enter Try.func10, Try.ntmps10
  go_wp2
  go_ret
  exact ⟨true, rfl, fun _ => rfl, FIN.out _⟩
theorem act (h : Pn base w0 w t r S S') (hI : Inv S) (hn : S.next ≤ 1000) (hI' : Inv S') (hn' : S'.next ≤ 1000) (o : Op) {a : Option Addr} {n cap : Nat} (hby : By base w a n o.bs) (hnil : a = none → cap = 0) (hbi : 0 ≤ o.bits ∧ o.bits < 256) :
    Calls Try.prog 10 #[.pointer (some ⟨t, 0, none⟩), .pointer (some ⟨r, 0, none⟩), .agg #[.int .i64 o.kind, .int .i64 o.en, .int .i64 o.path, .int .i64 o.i, .int .i64 o.at_, .int .i64 o.now, .int .u8 o.bits, .slice a n cap]] w fun e' w' => ActO base w0 t r S S' (act_ o S) (act_ o S') e' w' := by
  unfold act_
  obtain ⟨kd, en, path, j, at_, now, bits, bs⟩ := o
  simp only at hby hbi ⊢
  by_cases k1 : kd = 1
  · subst k1; exact act1 h hI hn hI' hn' en path j at_ now bits hby hnil hbi
  by_cases k2 : kd = 2
  · subst k2; exact act2 h hI hn hI' hn' en path j at_ now bits hby hnil hbi
  by_cases k3 : kd = 3
  · subst k3; exact act3 h hI hn hI' hn' en path j at_ now bits hby hnil hbi
  by_cases k4 : kd = 4
  · subst k4; exact act4 h hI hn hI' hn' en path j at_ now bits hby hnil hbi
  by_cases k5 : kd = 5
  · subst k5; exact act5 h hI hn hI' hn' en path j at_ now bits hby hnil hbi
  by_cases k6 : kd = 6
  · subst k6; exact act6 h hI hn hI' hn' en path j at_ now bits hby hnil hbi
  by_cases k7 : kd = 7
  · subst k7; exact act7 h hI hn hI' hn' en path j at_ now bits hby hnil hbi
  by_cases k8 : kd = 8
  · subst k8; exact act8 h hI hn hI' hn' en path j at_ now bits hby hnil hbi
  rw [if_neg k1, if_neg k2, if_neg k3, if_neg k4, if_neg k5, if_neg k6, if_neg k7, if_neg k8, if_neg k1, if_neg k2, if_neg k3, if_neg k4, if_neg k5, if_neg k6, if_neg k7, if_neg k8]
  exact act0 h kd en path j at_ now bits a n cap k1 k2 k3 k4 k5 k6 k7 k8
end
def flL (S : St) (en path : Int) : List Pk := if ok S en path then (S.R path.toNat en.toNat).L else []
def flE (S : St) (en path : Int) : Int := if ok S en path then 0 else 90
def flT (S : St) (en path : Int) : Tr := if ok S en path then (S.R path.toNat en.toNat).T else zT
theorem FlR.nil (w : World) : FlR w (.slice none 0 0) [] := ⟨none, 0, rfl, .inl rfl⟩
section
variable {base : Nat} {w w' : World} {t b r : Nat} {vs : Nat → Nat → Value} {S : St} {rv ov : Value} {rb : Nat → Nat} {X : Nat → Nat → List Pq}
theorem flyingA (h : No base w t b vs S) (hI : Inv S) (hn : S.next ≤ 1000) (en path : Int) : Calls Try.prog 12 #[.pointer (some ⟨t, 0, none⟩), .int .i64 en, .int .i64 path] w fun e w' => ∃ a n cap, e = .returned (.tuple #[.slice a n cap, .int .i64 (flE S en path)]) ∧ FlR w' (.slice a n cap) (flL S en path) ∧ n = (flL S en path).length ∧ Below w.heap.size w w' := by
  unfold flE flL
  cases hp : ok S en path with
  | false =>
    refine (flying_no h hp hI.p).mono ?_
    rintro e w' ⟨rfl, rfl⟩
    exact ⟨_, _, _, rfl, FlR.nil _, rfl, Below.refl _ _⟩
  | true =>
    refine (flying_ok h hp hI.p (by have := (hI.rows path.toNat en.toNat).len; omega)).mono ?_
    rintro e w' ⟨v, rfl, hF, hB⟩
    obtain ⟨a, cap, rfl, hF'⟩ := hF
    exact ⟨_, _, _, rfl, ⟨a, cap, rfl, hF'⟩, rfl, hB⟩
theorem rFlyingA (h : Ro base w r rv ov rb vs X S) (hI : Inv S) (hn : S.next ≤ 1000) (en path : Int) : Calls Try.prog 33 #[.pointer (some ⟨r, 0, none⟩), .int .i64 en, .int .i64 path] w fun e w' => ∃ a n cap, e = .returned (.tuple #[.slice a n cap, .int .i64 (flE S en path)]) ∧ FlR w' (.slice a n cap) (flL S en path) ∧ n = (flL S en path).length ∧ Below w.heap.size w w' := by
  unfold flE flL
  cases hp : ok S en path with
  | false =>
    refine (rFlying_no h hp hI.p).mono ?_
    rintro e w' ⟨rfl, rfl⟩
    exact ⟨_, _, _, rfl, FlR.nil _, rfl, Below.refl _ _⟩
  | true =>
    refine (rFlying_ok h hp hI hn).mono ?_
    rintro e w' ⟨v, rfl, hF, hB⟩
    obtain ⟨a, cap, rfl, hF'⟩ := hF
    exact ⟨_, _, _, rfl, ⟨a, cap, rfl, hF'⟩, rfl, hB⟩
theorem trafficA (h : No base w t b vs S) (hS : S.p ≤ 8) (en path : Int) : Calls Try.prog 13 #[.pointer (some ⟨t, 0, none⟩), .int .i64 en, .int .i64 path] w fun e w' => e = .returned (.tuple #[tv (flT S en path), .int .i64 (flE S en path)]) ∧ Below w.heap.size w w' := by
  unfold flE flT
  cases hp : ok S en path with
  | false => exact traffic_no h hp hS
  | true => exact traffic_ok h hp hS
theorem rTrafficA (h : Ro base w r rv ov rb vs X S) (hS : S.p ≤ 8) (en path : Int) : Calls Try.prog 34 #[.pointer (some ⟨r, 0, none⟩), .int .i64 en, .int .i64 path] w fun e w' => e = .returned (.tuple #[tv (flT S en path), .int .i64 (flE S en path)]) ∧ Below w.heap.size w w' := by
  unfold flE flT
  cases hp : ok S en path with
  | false => exact rTraffic_no h hp hS
  | true => exact rTraffic_ok h hp hS
theorem FlR.cells {v : Value} {L : List Pk} (h : FlR w v L) {j : Nat} (hj : j < L.length) : ∃ g cap, v = .slice (some ⟨g, 0, none⟩) L.length cap ∧ w.cell? ⟨g, j * 4, none⟩ = some (.int .i64 (L.getD j zpk).id) ∧ w.cell? ⟨g, j * 4 + 1, none⟩ = some (.int .i64 (L.getD j zpk).sent) ∧ w.cell? ⟨g, j * 4 + 2, none⟩ = some (.int .i64 (L.getD j zpk).len) ∧ w.cell? ⟨g, j * 4 + 3, none⟩ = some (.bool (L.getD j zpk).forged) := by
  obtain ⟨a, cap, rfl, h⟩ := h
  rcases h with rfl | ⟨g, rfl, hg, hc⟩
  · simp at hj
  · have hx := cell_at hj
    exact ⟨g, cap, rfl, hc j _ hx 0 _ rfl, hc j _ hx 1 _ rfl, hc j _ hx 2 _ rfl, hc j _ hx 3 _ rfl⟩
end
section
variable {base : Nat} {w0 w w' : World} {t r : Nat} {S : St}
set_option maxHeartbeats 8000000 in
set_option maxRecDepth 20000 in
theorem same (h : Pn base w0 w t r S S) (hI : Inv S) (hn : S.next ≤ 1000) : Calls Try.prog 11 #[.pointer (some ⟨t, 0, none⟩), .pointer (some ⟨r, 0, none⟩)] w fun e w' => e = .returned (.bool true) ∧ Below w.heap.size w w' := by
  obtain ⟨b, vs, hN⟩ := h.c
  obtain ⟨rv, ov, rb, vs', X, hR⟩ := h.r
  obtain ⟨ra, rcap, _, c0⟩ := hR.net0
  have hrl := hR.net.lt
  have PA := hidden (paths (hN.later (w' := w.drew) (Below.refl _ _).drew))
  have E1 : Hid (∀ (args : Array Value) (w : World), (callFunc 23 args).run Try.prog w = .ok (.enter 23 args) w) := enters_of Try.func23 (by kernel_rfl) rfl
  have WO : Hid (∀ (x : World) (p : Int), Below w.heap.size w x → Calls Try.prog 22 #[.pointer (some ⟨t, 0, none⟩), .int .i64 p] x fun e w' => e = .returned (.bool (okP S p && !(S.off p.toNat))) ∧ x = w') := fun x p hB => works (hN.later hB) p hI.p
  have RW : Hid (∀ (x : World) (p : Int), Below w.heap.size w x → Calls Try.prog 32 #[.pointer (some ⟨r, 0, none⟩), .int .i64 p] x fun e w' => e = .returned (.bool (okP S p && !(S.off p.toNat))) ∧ x = w') := fun x p hB => rWorks (hR.later hB) p hI.p
  have FL : Hid (∀ (x : World) (q p : Int), Below w.heap.size w x → Calls Try.prog 12 #[.pointer (some ⟨t, 0, none⟩), .int .i64 q, .int .i64 p] x fun e w' => ∃ a n cap, e = .returned (.tuple #[.slice a n cap, .int .i64 (flE S q p)]) ∧ FlR w' (.slice a n cap) (flL S q p) ∧ n = (flL S q p).length ∧ Below x.heap.size x w') := fun x q p hB => flyingA (hN.later hB) hI hn q p
  have RF : Hid (∀ (x : World) (q p : Int), Below w.heap.size w x → Calls Try.prog 33 #[.pointer (some ⟨r, 0, none⟩), .int .i64 q, .int .i64 p] x fun e w' => ∃ a n cap, e = .returned (.tuple #[.slice a n cap, .int .i64 (flE S q p)]) ∧ FlR w' (.slice a n cap) (flL S q p) ∧ n = (flL S q p).length ∧ Below x.heap.size x w') := fun x q p hB => rFlyingA (hR.later hB) hI hn q p
  have TF : Hid (∀ (x : World) (q p : Int), Below w.heap.size w x → Calls Try.prog 13 #[.pointer (some ⟨t, 0, none⟩), .int .i64 q, .int .i64 p] x fun e w' => e = .returned (.tuple #[.agg #[.int .i64 (flT S q p).s, .int .i64 (flT S q p).d, .int .i64 (flT S q p).l, .int .i64 (flT S q p).f], .int .i64 (flE S q p)]) ∧ Below x.heap.size x w') := fun x q p hB => trafficA (hN.later hB) hI.p q p
  have RT : Hid (∀ (x : World) (q p : Int), Below w.heap.size w x → Calls Try.prog 34 #[.pointer (some ⟨r, 0, none⟩), .int .i64 q, .int .i64 p] x fun e w' => e = .returned (.tuple #[.agg #[.int .i64 (flT S q p).s, .int .i64 (flT S q p).d, .int .i64 (flT S q p).l, .int .i64 (flT S q p).f], .int .i64 (flE S q p)]) ∧ Below x.heap.size x w') := fun x q p hB => rTrafficA (hR.later hB) hI.p q p
  have CC : Hid (∀ (x : World), Below w.heap.size w x → x.cell? ⟨r, 0, none⟩ = some (.slice ra S.p rcap)) := fun x hB => (hB.cell (p := ⟨r, 0, none⟩) hrl).trans c0
  have LL : Hid (∀ q p, ((flL S q p).length : Int) ≤ 1000) := fun q p => by
    unfold flL
    split
    · have := (hI.rows p.toNat q.toNat).len; omega
    · simp
  have hp8 := hI.p
  clear h hN hR hI
  go_enter Try.func11, Try.ntmps11
  go_upto_region 1 with fail
  refine Ord.wp_region_ex0 (X := Unit) (by kernel_rfl) 107 (fun x => [(some 16, .pointer (some ⟨t, 0, none⟩)), (some 17, .int .i64 (S.p : Int)), (some 18, .pointer (some ⟨r, 0, none⟩)), (some 19, .pointer (some ⟨r, 0, none⟩)), (some 20, .pointer (some ⟨r, 0, none⟩)), (some 21, .slice ra S.p rcap), (some 22, .int .i64 (S.p : Int)), (some 23, .bool false)]) [some 16, some 17, some 18, some 19, some 20, some 21, some 22, some 23] rfl (fun listed hsz hr => Ord.all_listedC (rank := [0, 1, 2, 3, 4, 5, 6, 7]) (by kernel_rfl) hsz hr) (by rfl) (fun _ => rfl) (by kernel_rfl) (Rg.StM [] (fun _ _ w' => w' = w.drew)) (fun _ _ _ _ hL h => h.ext (n := 8) (by decide) hL) ?_ ?_ () ?_
  case refine_1 =>
    intro x Lq iq oq ac w' ho hi hcl hdep hF hW
    have f1 : ac.tmps.size = 107 := hF.1
    match iq, ho, hi, hdep with
    | 0, ho, hi, hdep =>
      cases ho
      have da0 : ac.eval (.tmp 0) = .pointer (some ⟨t, 0, none⟩) := hF.old 0 rfl
      exact Ord.ex_value x rfl rfl (Rg.mv da0 rfl) rfl (hW.keep (by decide))
    | 1, ho, hi, hdep =>
      cases ho
      have da0 : ac.eval (.tmp 16) = .pointer (some ⟨t, 0, none⟩) := hF.2.2.2 0 16 _ rfl (hdep ⟨0, .data⟩ (by simp) rfl)
      obtain ⟨kq, hlo, hhi, hA⟩ := hW.range 0 0 (.inl rfl) (.inl rfl)
      rw [hA] at hW ⊢
      exact Rg.ex_call x rfl rfl (Rg.enter (args := #[.pointer (some ⟨t, 0, none⟩)]) rfl rfl (by simp [da0]) E1.out) (Calls.mono PA.out (by rintro e w2 ⟨rfl, rfl⟩; exact ⟨rfl, (hW.keep (by decide))⟩))
    | 2, ho, hi, hdep =>
      cases ho
      have da0 : ac.eval (.tmp 1) = .pointer (some ⟨r, 0, none⟩) := hF.old 1 rfl
      exact Ord.ex_value x rfl rfl (Rg.mv da0 rfl) rfl (hW.keep (by decide))
    | 3, ho, hi, hdep =>
      cases ho
      have da0 : ac.eval (.tmp 18) = .pointer (some ⟨r, 0, none⟩) := hF.2.2.2 2 18 _ rfl (hdep ⟨2, .data⟩ (by simp) rfl)
      exact Ord.ex_value x rfl rfl (Rg.nilc da0 rfl) rfl (hW.keep (by decide))
    | 4, ho, hi, hdep =>
      cases ho
      have da0 : ac.eval (.tmp 19) = .pointer (some ⟨r, 0, none⟩) := hF.2.2.2 3 19 _ rfl (hdep ⟨3, .data⟩ (by simp) rfl)
      exact Ord.ex_value x rfl rfl (Rg.fa da0 rfl (by simp [go_sem])) rfl (hW.keep (by decide))
    | 5, ho, hi, hdep =>
      cases ho
      have da0 : ac.eval (.tmp 20) = .pointer (some ⟨r, 0, none⟩) := hF.2.2.2 4 20 _ rfl (hdep ⟨4, .data⟩ (by simp) rfl)
      obtain ⟨kq, hlo, hhi, hA⟩ := hW.range 0 0 (.inl rfl) (.inl rfl)
      exact Ord.ex_value x rfl rfl (Rg.load da0 rfl (by rw [hA]; simp [go_sem, c0])) rfl (hW.keep (by decide))
    | 6, ho, hi, hdep =>
      cases ho
      have da0 : ac.eval (.tmp 21) = .slice ra S.p rcap := hF.2.2.2 5 21 _ rfl (hdep ⟨5, .data⟩ (by simp) rfl)
      exact Ord.ex_value x rfl rfl (Rg.len_ da0 rfl (by simp [go_sem])) rfl (hW.keep (by decide))
    | 7, ho, hi, hdep =>
      cases ho
      have da0 : ac.eval (.tmp 17) = .int .i64 (S.p : Int) := hF.2.2.2 1 17 _ rfl (hdep ⟨1, .data⟩ (by simp) rfl)
      have da1 : ac.eval (.tmp 22) = .int .i64 (S.p : Int) := hF.2.2.2 6 22 _ rfl (hdep ⟨6, .data⟩ (by simp) rfl)
      exact Ord.ex_value x rfl rfl (Rg.bin da0 da1 rfl (by simp [go_sem])) rfl (hW.keep (by decide))
  case refine_3 => exact Rg.StM.first rfl
  case refine_2 =>
    intro x w2 hW
    have hw := hW.last
    subst hw
    clear hW c0
    simp only [Ord.puts, Ord.prs]
    go_simp
    go_wp2_with fail
    go_loopw [5] (fun iv wr => ∃ (p : Int), iv = .int .i64 p ∧ Hid (Below w.heap.size w wr) ∧ -1 ≤ p ∧ p ≤ (S.p : Int) + 1) (fun iv _ => S.p + 2 - (intOf iv + 1).toNat)
    case atStart => exact ⟨-1, rfl, (Below.refl _ _).drew, by omega, by omega⟩
    case round =>
      obtain ⟨p, rfl, HR, j1, j2⟩ := hrel
      have c0 := CC.out wr HR.out
      by_cases hp : p ≤ (S.p : Int)
      · go_wp2_with fail
        refine Calls.mono (WO.out _ p HR.out) ?_
        rintro e x1 ⟨rfl, rfl⟩
        go_wp2_with fail
        refine Calls.mono (RW.out _ p HR.out) ?_
        rintro e x1 ⟨rfl, rfl⟩
        generalize (okP S p && !(S.off p.toNat)) = bw
        go_wp2_with fail
        clear c0
        go_loopw [6] (fun iv wr => ∃ (q : Int), iv = .int .i64 q ∧ Hid (Below w.heap.size w wr) ∧ 0 ≤ q ∧ q ≤ 3) (fun iv _ => 3 - (intOf iv).toNat)
        case atStart => exact ⟨0, rfl, HR.out, by omega, by omega⟩
        case round =>
          obtain ⟨q, rfl, HQ, k1, k2⟩ := hrel
          by_cases hq : q < 3
          · go_wp2_with fail
            refine Calls.mono (FL.out _ q p HQ.out) ?_
            rintro e x1 ⟨a1, n1, cap1, rfl, hF1, hn1, hB1⟩
            have H1 := hidden (HQ.out.trans (hB1.mono HQ.out.size))
            have HF1 := hidden hF1
            have HN1 := hidden hn1
            have hl1 := LL.out q p
            rw [← hn1] at hl1
            clear hF1 hn1 hB1
            go_wp2_with fail
            refine Calls.mono (RF.out _ q p H1.out) ?_
            rintro e x2 ⟨a2, n2, cap2, rfl, hF2, hn2, hB2⟩
            have H2 := hidden (H1.out.trans (hB2.mono H1.out.size))
            have HF1' := hidden (HF1.out.later hB2)
            have HF2 := hidden hF2
            obtain rfl : n2 = n1 := hn2.trans HN1.out.symm
            clear hF2 hn2 hB2
            go_wp2_with fail
            refine Calls.mono (TF.out _ q p H2.out) ?_
            rintro e x3 ⟨rfl, hB3⟩
            have hB3' := hB3.alloc hB3.size (.cells #[.int .i64 (flT S q p).s, .int .i64 (flT S q p).d, .int .i64 (flT S q p).l, .int .i64 (flT S q p).f] 45)
            have hx3 := Has.new x3 #[.int .i64 (flT S q p).s, .int .i64 (flT S q p).d, .int .i64 (flT S q p).l, .int .i64 (flT S q p).f] 45
            have H3 := hidden (H2.out.trans (hB3'.mono H2.out.size))
            have RT' := hidden (RT.out _ q p H3.out)
            have HF3 := hidden (HF1'.out.later hB3')
            have HF4 := hidden (HF2.out.later hB3')
            have HX3 := hidden hx3
            clear hB3 hB3' hx3 HF1 HF1' HF2
            generalize (flT S q p).s = ts at *
            generalize (flT S q p).d = td at *
            generalize (flT S q p).l = tl at *
            generalize (flT S q p).f = tf at *
            generalize flE S q p = ec at *
            go_wp2_with fail
            refine Calls.mono RT'.out ?_
            rintro e x4 ⟨rfl, hB4⟩
            have hx4 := HX3.out.later hB4
            have y0 := hx4.cell 0 rfl
            have y1 := hx4.cell 1 rfl
            have y2 := hx4.cell 2 rfl
            have y3 := hx4.cell 3 rfl
            have hlx : x3.heap.size < x4.heap.size := hx4.lt
            obtain ⟨W5, hW5⟩ : ∃ W5, W5 = x4.alloc (.cells #[.int .i64 ts, .int .i64 td, .int .i64 tl, .int .i64 tf] 45) := ⟨_, rfl⟩
            have hB5 : Below (x3.alloc (.cells #[.int .i64 ts, .int .i64 td, .int .i64 tl, .int .i64 tf] 45)).heap.size (x3.alloc (.cells #[.int .i64 ts, .int .i64 td, .int .i64 tl, .int .i64 tf] 45)) W5 := by rw [hW5]; exact hB4.alloc hB4.size _
            have HF5 := hidden (HF3.out.later hB5)
            have HF6 := hidden (HF4.out.later hB5)
            have H5 := hidden (H3.out.trans (hB5.mono H3.out.size))
            have HW5 := hidden hW5
            clear hB4 hx4 hB5 hW5 RT' HF3 HF4 HX3
            go_wp2_with fail
            rw [← HW5.out]
            clear y0 y1 y2 y3
            go_loopw [15] (fun iv wr => ∃ (z : Int), iv = .int .i64 z ∧ Hid (Below W5.heap.size W5 wr) ∧ 0 ≤ z ∧ z ≤ (n2 : Int)) (fun iv _ => n2 - (intOf iv).toNat)
            case atStart => exact ⟨0, rfl, Below.refl _ _, by omega, by omega⟩
            case round =>
              obtain ⟨z, rfl, HZ, m1, m2⟩ := hrel
              by_cases hz : z < (n2 : Int)
              · have hzn : z.toNat < (flL S q p).length := by have := HN1.out; omega
                obtain ⟨g1, k1', ev1, d0, d1, d2, d3⟩ := (HF5.out.later HZ.out).cells hzn
                obtain ⟨g2, k2', ev2, f0, f1, f2, f3⟩ := (HF6.out.later HZ.out).cells hzn
                rw [← HN1.out] at ev1 ev2
                cases ev1
                cases ev2
                generalize ((flL S q p).getD z.toNat zpk).id = u0 at *
                generalize ((flL S q p).getD z.toNat zpk).sent = u1 at *
                generalize ((flL S q p).getD z.toNat zpk).len = u2 at *
                generalize ((flL S q p).getD z.toNat zpk).forged = u3 at *
                clear hzn
                go_wp2
                go_quiet (fail)
                have HZ2 : Hid (Below W5.heap.size W5 (wr.drewN nq)) := ⟨HZ.out.os, HZ.out.tape, HZ.out.output, HZ.out.size, HZ.out.block⟩
                go_wp2
                go_roundw
                case rel => exact ⟨_, rfl, HZ2.out, by omega, by omega⟩
                case measure => simp [intOf]; omega
              · have H6 : Hid (Below w.heap.size w wr) := H5.out.trans (HZ.out.mono H5.out.size)
                go_wp2
                go_roundw
                case rel => exact ⟨_, rfl, H6.out, by omega, by omega⟩
                case measure => simp [intOf]; omega
          · go_wp2
            go_roundw
            case rel => exact ⟨_, rfl, HQ.out, by omega, by omega⟩
            case measure => simp [intOf]; omega
      · go_wp2
        go_ret
        exact ⟨rfl, HR.out⟩
end
end Go.Proofs.Ytmogacccffkkbaa.Nt
