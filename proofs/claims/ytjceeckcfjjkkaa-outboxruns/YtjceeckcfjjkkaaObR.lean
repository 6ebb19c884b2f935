/-
  Of each path the first open chunk, whether it is newly told.
  Conditions: as at each lemma.
-/
import Derived.Test.YtjceeckcfjjkkaaObQ
namespace Go.Proofs.Ytjceeckcfjjkkaa.Ob
open Go.ChangeShapes Go.WideShapes Go.ChangeAt Go.RowKit Go.Shelf
open Ba (hidden Has cell_lt heap_lt)
set_option linter.unusedVariables false
attribute [local go_sem] Oper.semAt_some
/-- a reading and its box in memory -/
structure Cx (D : Nat → Prop) (w : World) (t f : Nat) (rv : Value) (nx : Int) (n : Nat) (L : List Ch) (R ap tb fb nb : Nat) (fr rn : Int) (ak : Nat → Ak) (tl gd nl : Nat → Bool) : Prop where
  no : ∃ P, No D w t f rv P nx n L (fun k => fl L k) (Ob.mk L)
  rd : Rd w R t ap n L.length tb fb nb fr rn
  aw : Aw w ap n ak
  tb_ : Bw w tb L.length tl
  fb_ : Bw w fb L.length gd
  nb_ : Bw w nb L.length nl
section
variable {D F : Nat → Prop} {w w' X X' : World} {t f : Nat} {rv : Value} {P : List CV} {nx : Int} {n : Nat} {L L' : List Ch} {i g o : Nat} {x y : Ch} {R ap N tb fb nb : Nat} {fr rn fr' rn' : Int} {ak ak' : Nat → Ak} {tl gd nl : Nat → Bool}
theorem Bw.type (h : Bw w tb N tl) : ∃ cs, Has w tb cs 4 := by obtain ⟨cs, hh, _⟩ := h; exact ⟨cs, hh⟩
theorem Aw.type (h : Aw w ap n ak) : ∃ cs, Has w ap cs 69 := by obtain ⟨cs, hh, _⟩ := h; exact ⟨cs, hh⟩
theorem Cx.rh (h : Cx D w t f rv nx n L R ap tb fb nb fr rn ak tl gd nl) : Has w R #[.slice (some ⟨ap, 0, none⟩) n n, .int .i64 fr, .int .i64 rn, .pointer (some ⟨t, 0, none⟩), .slice (some ⟨tb, 0, none⟩) L.length L.length, .slice (some ⟨fb, 0, none⟩) L.length L.length, .slice (some ⟨nb, 0, none⟩) L.length L.length] 123 := h.rd
/-- blocks that a reading may turn -/
def FX (t f : Nat) (rv : Value) (R ap k : Nat) : Prop := FC t f rv k ∨ k = R ∨ k = ap
theorem Cx.not (h : Cx D w t f rv nx n L R ap tb fb nb fr rn ak tl gd nl) {b : Nat} {cs : Array Value} {ty : TypeId} (hh : Has w b cs ty) (h1 : ty ≠ 80) (h2 : ty ≠ 3) (h3 : ty ≠ 108) (h4 : ty ≠ 123) (h5 : ty ≠ 69) : ¬ FX t f rv R ap b := by
  obtain ⟨P, hN⟩ := h.no
  rintro (e | rfl | rfl)
  · obtain ⟨cs', ty', hh', e'⟩ := hN.type e
    have := has_type hh hh'
    subst this
    rcases e' with e' | e' | e'
    · exact h1 e'
    · exact h2 e'
    · exact h3 e'
  · exact h4 (has_type hh h.rh)
  · obtain ⟨cs', hh'⟩ := h.aw.type
    exact h5 (has_type hh hh')
theorem Cx.turn (h : Cx D w t f rv nx n L R ap tb fb nb fr rn ak tl gd nl) (hm : Mod (FX t f rv R ap) w X) (hL : L'.length = L.length) (hN : ∃ P, No D X t f rv P nx n L' (fun k => fl L' k) (Ob.mk L')) (hR : Rd X R t ap n L.length tb fb nb fr' rn') (ha : Aw X ap n ak') : Cx D X t f rv nx n L' R ap tb fb nb fr' rn' ak' tl gd nl := by
  have hb : ∀ {b : Nat} {q : Nat → Bool}, Bw w b L.length q → Bw X b L'.length q := fun {b q} hb => by
    rw [hL]
    obtain ⟨cs, hh⟩ := hb.type
    exact hb.stay hm (h.not hh (by decide) (by decide) (by decide) (by decide) (by decide))
  exact ⟨hN, by rw [hL]; exact hR, ha, hb h.tb_, hb h.fb_, hb h.nb_⟩
theorem Cx.drew (h : Cx D w t f rv nx n L R ap tb fb nb fr rn ak tl gd nl) : Cx D w.drew t f rv nx n L R ap tb fb nb fr rn ak tl gd nl := by
  obtain ⟨P, hN⟩ := h.no
  exact ⟨⟨P, hN.drew⟩, h.rd, h.aw, h.tb_, h.fb_, h.nb_⟩
theorem Cx.calm {B : Nat} (h : Cx D w t f rv nx n L R ap tb fb nb fr rn ak tl gd nl) (hc : Calm B w w') : Cx D w' t f rv nx n L R ap tb fb nb fr rn ak tl gd nl := by
  obtain ⟨P, hN⟩ := h.no
  exact ⟨⟨P, hN.calm hc⟩, hc.has h.rh, h.aw.calm hc, h.tb_.calm hc, h.fb_.calm hc, h.nb_.calm hc⟩
theorem Cx.later (h : Cx D w t f rv nx n L R ap tb fb nb fr rn ak tl gd nl) (hB : Below w.heap.size w w') : Cx D w' t f rv nx n L R ap tb fb nb fr rn ak tl gd nl := by
  obtain ⟨P, hN⟩ := h.no
  exact ⟨⟨P, hN.later hB⟩, h.rh.later hB, h.aw.later hB, h.tb_.later hB, h.fb_.later hB, h.nb_.later hB⟩
theorem Cx.lt (h : Cx D w t f rv nx n L R ap tb fb nb fr rn ak tl gd nl) {k : Nat} (hk : FX t f rv R ap k) : k < w.heap.size := by
  obtain ⟨P, hN⟩ := h.no
  rcases hk with hk | rfl | rfl
  · exact hN.lt hk
  · exact h.rh.lt
  · exact h.aw.lt
/-- what is told of paths is turned -/
theorem Cx.akT (h : Cx D w t f rv nx n L R ap tb fb nb fr rn ak tl gd nl) (hm : Mod (fun k => k = ap) w X) (ha : Aw X ap n ak') : Cx D X t f rv nx n L R ap tb fb nb fr rn ak' tl gd nl := by
  obtain ⟨P, hN⟩ := h.no
  obtain ⟨cs, hh⟩ := h.aw.type
  refine h.turn (hm.mono (fun k hk => .inr (.inr hk))) rfl ⟨P, hN.stay hm (fun k hk e => ?_) (fun k cur _ h5 e => by subst e; exact h5.ne hh (by decide) rfl)⟩ (hm.has h.rh (fun e => h.rh.ne hh (by decide) e)) ha
  subst e
  obtain ⟨cs', ty', hh', e'⟩ := hN.type hk
  have := has_type hh hh'
  rcases e' with rfl | rfl | rfl <;> cases this
theorem row_len (h : ∃ P, No D w t f rv P nx n L (fun k => fl L k) (Ob.mk L)) : (∃ cap, rv = .slice none 0 cap ∧ L.length = 0) ∨ ∃ g oo cap, rv = .slice (some ⟨g, oo, none⟩) L.length cap := by
  obtain ⟨P, hN⟩ := h
  exact hN.row
theorem hdA_succ (p : Int) {k : Nat} (h : L[k]? = some x) : hdA p L (k + 1) = (hdA p L k || (opn x && decide (x.pa = p))) := by simp only [hdA, h]
theorem mvA_succ (nl : Nat → Bool) (p : Int) {k : Nat} (h : L[k]? = some x) : mvA nl p L (k + 1) = (if opn x && decide (x.pa = p) && !hdA p L k then nl k else mvA nl p L k) := by simp only [mvA, h]
/-- while first open chunks are looked for -/
structure Fm (w : World) (D : Nat → Prop) (X : World) (t f : Nat) (rv : Value) (nx : Int) (n : Nat) (L : List Ch) (R ap tb fb nb : Nat) (fr rn : Int) (ak : Nat → Ak) (tl gd nl : Nat → Bool) (hd : Nat → Bool) : Prop where
  cx : Cx D X t f rv nx n L R ap tb fb nb fr rn ak tl gd nl
  md : Mod (fun k => k = ap) w X
  al : ap < w.heap.size
  bl : tb < w.heap.size ∧ fb < w.heap.size ∧ nb < w.heap.size
  b0 : Has X w.heap.size #[.pointer (some ⟨R, 0, none⟩)] 118
  b2 : Has X (w.heap.size + 2) #[.slice (some ⟨w.heap.size + 1, 0, none⟩) n n] 60
  hh : Bw X (w.heap.size + 1) n hd
variable {hd hd' : Nat → Bool}
theorem Fm.drew (h : Fm w D X t f rv nx n L R ap tb fb nb fr rn ak tl gd nl hd) : Fm w D X.drew t f rv nx n L R ap tb fb nb fr rn ak tl gd nl hd := ⟨h.cx.drew, h.md.drewr, h.al, h.bl, h.b0, h.b2, h.hh⟩
theorem Fm.congr (h : Fm w D X t f rv nx n L R ap tb fb nb fr rn ak tl gd nl hd) (h1 : ∀ i, i < n → ak i = ak' i) (h2 : ∀ i, i < n → hd i = hd' i) : Fm w D X t f rv nx n L R ap tb fb nb fr rn ak' tl gd nl hd' :=
  ⟨⟨h.cx.no, h.cx.rd, h.cx.aw.congr h1, h.cx.tb_, h.cx.fb_, h.cx.nb_⟩, h.md, h.al, h.bl, h.b0, h.b2, h.hh.congr h2⟩
theorem Fm.had (h : Fm w D X t f rv nx n L R ap tb fb nb fr rn ak tl gd nl hd) {j : Nat} (hj : j < n) (u : Bool) : Fm w D (X.setCell ⟨w.heap.size + 1, j, none⟩ (.bool u)) t f rv nx n L R ap tb fb nb fr rn ak tl gd nl (fun i => if i = j then u else hd i) := by
  have hm : Mod (fun k => k = w.heap.size + 1) X (X.setCell ⟨w.heap.size + 1, j, none⟩ (.bool u)) := Mod.setCell (F := fun k => k = w.heap.size + 1) X (p := ⟨w.heap.size + 1, j, none⟩) rfl _
  obtain ⟨P, hN⟩ := h.cx.no
  obtain ⟨cs, hc⟩ := h.hh.type
  obtain ⟨l1, l2, l3⟩ := h.bl
  refine ⟨⟨⟨P, hN.stay hm (fun k hk e => ?_) (fun k cur _ h5 e => by subst e; exact h5.ne hc (by decide) rfl)⟩, hm.has h.cx.rh (fun e => h.cx.rh.ne hc (by decide) e), h.cx.aw.stay hm (fun e => by have := h.al; omega), h.cx.tb_.stay hm (fun e => by omega), h.cx.fb_.stay hm (fun e => by omega), h.cx.nb_.stay hm (fun e => by omega)⟩, h.md.trans hm (fun x hx => .inr (by omega)), h.al, h.bl, hm.has h.b0 (fun e => by omega), hm.has h.b2 (fun e => by omega), h.hh.set hj u⟩
  subst e
  obtain ⟨cs', ty', hh', e'⟩ := hN.type hk
  have := has_type hc hh'
  rcases e' with rfl | rfl | rfl <;> cases this
theorem Fm.mv (h : Fm w D X t f rv nx n L R ap tb fb nb fr rn ak tl gd nl hd) {j : Nat} (hj : j < n) (u : Bool) : Fm w D (X.setCell ⟨ap, j * 4 + 1, none⟩ (.bool u)) t f rv nx n L R ap tb fb nb fr rn (fun i => if i = j then { ak j with mv := u } else ak i) tl gd nl hd := by
  have hm : Mod (fun k => k = ap) X (X.setCell ⟨ap, j * 4 + 1, none⟩ (.bool u)) := Mod.setCell (F := fun k => k = ap) X (p := ⟨ap, j * 4 + 1, none⟩) rfl _
  have hal := h.al
  exact ⟨h.cx.akT hm (h.cx.aw.set hj (c := 1) (by decide) { ak j with mv := u } rfl rfl rfl rfl), h.md.then hm, h.al, h.bl, hm.has h.b0 (fun e => by omega), hm.has h.b2 (fun e => by omega), h.hh.stay hm (fun e => by omega)⟩
theorem Fm.calm {B : Nat} (h : Fm w D X t f rv nx n L R ap tb fb nb fr rn ak tl gd nl hd) (hc : Calm B X X') (hB : w.heap.size ≤ B) : Fm w D X' t f rv nx n L R ap tb fb nb fr rn ak tl gd nl hd :=
  ⟨h.cx.calm hc, hc.mod h.md hB, h.al, h.bl, hc.has h.b0, hc.has h.b2, h.hh.calm hc⟩
set_option maxHeartbeats 2000000 in
theorem findMoved (h : Cx D w t f rv nx n L R ap tb fb nb fr rn ak tl gd nl) (hk : Lk n L) (hn : n ≤ 8) (ha : ∀ i, i < n → (ak i).mv = false) :
    Calls Try.prog 81 #[.pointer (some ⟨R, 0, none⟩)] w fun e w' => e = .returned (.tuple #[]) ∧ Cx D w' t f rv nx n L R ap tb fb nb fr rn (fun p => { ak p with mv := mvA nl p L L.length }) tl gd nl ∧ Mod (fun k => k = ap) w w' := by
  refine (callsIn_wide (n := 10)).1 ?_
  obtain ⟨mb, b1, b2, b3, b4⟩ := make_wide (P := Try.prog) Try.underlying60 info_bool n (by omega) (by omega)
  have c0 := h.rh.cell 0 rfl
  have hRl := h.rh.lt
  obtain ⟨Wa, hWa⟩ : ∃ Wa, Wa = w.alloc (.cells #[.pointer (some ⟨R, 0, none⟩)] 118) := ⟨_, rfl⟩
  have hsa : Wa.heap.size = w.heap.size + 1 := by rw [hWa]; simp
  have hBa : Below w.heap.size w Wa := by rw [hWa]; exact (Below.refl _ w).alloc (Nat.le_refl _) _
  have hba : Has Wa w.heap.size #[.pointer (some ⟨R, 0, none⟩)] 118 := by rw [hWa]; exact Has.new w _ _
  have hBm := b3 Wa
  have hsm := b4 Wa
  have hhb := Bw.made (b2 Wa)
  rw [hsa] at hsm hhb hBm
  have d0 : (mb (w.alloc (.cells #[.pointer (some ⟨R, 0, none⟩)] 118))).cell? ⟨w.heap.size, 0, none⟩ = some (.pointer (some ⟨R, 0, none⟩)) := by rw [← hWa]; exact (hba.later (by rw [hsa]; exact hBm)).cell 0 rfl
  have d3 : (mb (w.alloc (.cells #[.pointer (some ⟨R, 0, none⟩)] 118))).cell? ⟨R, 3, none⟩ = some (.pointer (some ⟨t, 0, none⟩)) := by rw [← hWa]; exact (h.rh.later (hBa.trans (hBm.mono (by omega)))).cell 3 rfl
  obtain ⟨W1, hW1⟩ : ∃ W1, W1 = (mb (w.alloc (.cells #[.pointer (some ⟨R, 0, none⟩)] 118))).alloc (.cells #[.slice (some ⟨w.heap.size + 1, 0, none⟩) n n] 60) := ⟨_, rfl⟩
  have hBn : Below (mb Wa).heap.size (mb Wa) W1 := by rw [hW1, ← hWa]; exact (Below.refl _ _).alloc (Nat.le_refl _) _
  have hbn : Has W1 (w.heap.size + 2) #[.slice (some ⟨w.heap.size + 1, 0, none⟩) n n] 60 := by
    have := Has.new (mb Wa) #[.slice (some ⟨w.heap.size + 1, 0, none⟩) n n] 60
    rw [hsm] at this
    rw [hW1, ← hWa]; exact this
  have hBw : Below w.heap.size w W1 := (hBa.trans (hBm.mono (by omega))).trans (hBn.mono (by omega))
  have HF : Hid (Fm w D W1 t f rv nx n L R ap tb fb nb fr rn ak tl gd nl (fun _ => false)) :=
    ⟨h.later hBw, Mod.of_below hBw, h.aw.lt, ⟨h.tb_.lt, h.fb_.lt, h.nb_.lt⟩, (hba.later (by rw [hsa]; exact hBm)).later hBn, hbn, hhb.later hBn⟩
  have hs1 : w.heap.size + 3 ≤ W1.heap.size := by have := hbn.lt; omega
  have HW1 := hidden hW1
  have HS1 := hidden hs1
  have HK := hidden hk
  have HA := hidden ha
  have HROW := hidden (row_len h.no)
  have hR2 : R < w.heap.size + 1 + 1 := by omega
  clear h hk hW1 hWa hsa hBa hba hBm hsm hhb hBn hbn hBw b2 b3 hs1 ha
  refine callsIn_of_wp_marks Try.func81 rfl trivial ?_ rfl
  simp only [Try.ntmps81, List.size_toArray, List.length_cons, List.length_nil, Nat.reduceAdd, Nat.reduceSub, Array.replicate_succ, Array.replicate_zero, List.push_toArray, List.append_toArray, List.nil_append, List.cons_append]
  gi_wp2_with fail
  rw [← HW1.out]
  refine range_each (t := t) (rv := rv) (n := L.length) rfl HROW.out (by have := HK.out.1; omega)
    (fun k W => Fm w D W t f rv nx n L R ap tb fb nb fr rn (fun p => { ak p with mv := mvA nl p L k }) tl gd nl (fun p => hdA p L k))
    (fun W => False) (fun k W hI => by obtain ⟨P', hN⟩ := hI.cx.no; exact hN.q.cell 0 rfl)
    (fun k W W' hI hc => hI.calm hc (by have := HS1.out; omega))
    (fun W W' hI hc => hI.elim)
    (HF.out.congr (fun i hi => by have := HA.out i hi; cases hq : ak i; rw [hq] at this; simp only at this; rw [this]; rfl) (fun i _ => rfl))
    ?round ?done (fun D W _ hI _ => hI.elim)
  case round =>
    intro l k W hk hi
    gi_wp2
    intro W3 hI3
    have HI3 := hidden hI3
    obtain ⟨P3, hN3⟩ := hI3.cx.no
    obtain ⟨x, hx⟩ : ∃ x, L[k]? = some x := ⟨_, List.getElem?_eq_getElem hk⟩
    obtain ⟨g, o, hp, he⟩ := hN3.place (k := k) hk
    rw [he]
    obtain ⟨v3, hcl, _⟩ := hN3.chunk hp hx
    have HX := hidden hx
    have HKL := hidden hk
    have hxx := HK.out.2 x (List.mem_of_getElem? hx)
    obtain ⟨j, hj⟩ : ∃ j : Nat, x.pa = j := ⟨x.pa.toNat, by omega⟩
    have hjn : j < n := by omega
    have HJ := hidden (And.intro hj hjn)
    have OP : Hid (Calls Try.prog 80 #[.pointer (some ⟨g, o, none⟩)] W3.drew fun e w' => e = .returned (.bool (opn x)) ∧ W3.drew = w') := open_ hN3.drew hp hx
    have EO : Hid (∀ (args : Array Value) (w : World), (callFunc 80 args).run Try.prog w = .ok (.enter 80 args) w) := enters_of Try.func80 (by kernel_rfl) rfl
    have C2 : Hid (W3.drew.cell? ⟨w.heap.size + 1 + 1, 0, none⟩ = some (.slice (some ⟨w.heap.size + 1, 0, none⟩) n n)) := hI3.b2.cell 0 rfl
    have CP : Hid (W3.drew.cell? ⟨g, o + 1, none⟩ = some (.int .i64 (j : Int))) := by rw [← hj]; exact hcl 1 _ rfl
    have CH : Hid (W3.drew.cell? ⟨w.heap.size + 1, j, none⟩ = some (.bool (hdA j L k))) := hI3.hh.cell hjn
    have HIH : Hid (∀ w', (Instr.indexAt 60 (.slice (some ⟨w.heap.size + 1, 0, none⟩) n n) (.int .i64 (j : Int))).run Try.prog w' = .ok (.pointer (some ⟨w.heap.size + 1, j, none⟩)) w') := fun w => ix_bools hjn w
    have HIA : Hid (∀ w', (Instr.indexAt 32 (.slice (some ⟨ap, 0, none⟩) n n) (.int .i64 (j : Int))).run Try.prog w' = .ok (.pointer (some ⟨ap, j * 4, none⟩)) w') := fun w => ix_aks hjn w
    have HIN : Hid (∀ w', (Instr.indexAt 60 (.slice (some ⟨nb, 0, none⟩) L.length L.length) (.int .i64 (k : Int))).run Try.prog w' = .ok (.pointer (some ⟨nb, k, none⟩)) w') := fun w => ix_bools hk w
    have HHS := fun p : Int => hdA_succ p hx
    have HMS := fun p : Int => mvA_succ nl p hx
    have HH := hidden (And.intro HHS HMS)
    have HP := hidden hp
    generalize hz : opn x = z at *
    generalize hhd : hdA j L k = hdk at *
    generalize hN : L.length = N at *
    have HZ := hidden (And.intro hhd hN)
    clear hI3 hN3 hx hp he hcl hxx hj hjn HHS HMS hk hi hz hhd hN
    cases z with
    | false =>
      have G : Hid (Fm w D W3.drew t f rv nx n L R ap tb fb nb fr rn (fun p => { ak p with mv := mvA nl p L (k + 1) }) tl gd nl (fun p => hdA p L (k + 1))) := HI3.out.drew.congr (fun i _ => by rw [HH.out.2]; simp) (fun i _ => by rw [HH.out.1]; simp)
      gi_wp2_with fail
      rename_i K Q hK
      refine Ord.wp_region_exR (X := Unit) (by kernel_rfl) 58 (fun x => [(some 19, .pointer (some ⟨g, o, none⟩)), (some 20, .bool false), (some 21, .bool false), (some 22, undef), (some 23, undef), (some 24, undef), (some 25, undef), (some 26, undef), (some 27, undef), (some 28, undef), (some 29, undef), (some 30, undef), (some 31, .bool false)]) [some 19, some 20, some 21, some 22, some 23, some 24, some 25, some 26, some 27, some 28, some 29, some 30, some 31] rfl (fun listed hsz hr => Ord.all_listedC (rank := [0, 1, 2, 3, 4, 5, 6, 7, 8, 9, 10, 11, 12]) (by kernel_rfl) hsz hr) (by rfl) (fun _ => rfl) (by kernel_rfl) (Rg.StM [] (fun skk sxx w' => w' = W3.drew)) (fun _ _ _ _ hL h => h.ext (n := 13) (by decide) hL) ?_ ?_ () ?_
      case refine_1 =>
        intro x Lq iq oq ac w' ho hi hcl hdep hF hW
        have f1 : ac.tmps.size = 58 := hF.1
        match iq, ho, hi, hdep with
        | 0, ho, hi, hdep =>
          cases ho
          have da0 : ac.eval (.tmp 4) = .pointer (some ⟨g, o, none⟩) := hF.old 4 rfl
          exact Ord.ex_value x rfl rfl (Rg.mv da0 rfl) rfl (hW.keep (by decide))
        | 1, ho, hi, hdep =>
          cases ho
          have da0 : ac.eval (.tmp 19) = .pointer (some ⟨g, o, none⟩) := hF.2.2.2 0 19 _ rfl (hdep ⟨0, .data⟩ (by simp) rfl)
          obtain ⟨kq, hlo, hhi, hA⟩ := hW.range 0 0 (.inl rfl) (.inl rfl)
          have hw := hA
          subst hw
          exact Rg.ex_call x rfl rfl (Rg.enter (args := #[.pointer (some ⟨g, o, none⟩)]) rfl rfl (by simp [da0]) EO.out) (Calls.mono OP.out (by rintro e w2 ⟨rfl, rfl⟩; exact ⟨rfl, (hW.keep (by decide))⟩))
        | 2, ho, hi, hdep =>
          cases ho
          have da0 : ac.eval (.tmp 20) = .bool false := hF.2.2.2 1 20 _ rfl (hdep ⟨1, .data⟩ (by simp) rfl)
          exact Ord.ex_value x rfl rfl (Rg.mv da0 rfl) rfl (hW.keep (by decide))
        | 3, ho, hi, hdep =>
          cases ho
          have dg : ac.eval (.tmp 21) = .bool false := hF.2.2.2 2 21 _ rfl (hdep ⟨2, .guard⟩ (by simp) rfl)
          exact Cw.ex_not x rfl (Ord.wanted_no (bv := true) dg (by rw [f1]; decide) rfl rfl) rfl (hW.keep (by decide))
        | 4, ho, hi, hdep =>
          cases ho
          have dg : ac.eval (.tmp 21) = .bool false := hF.2.2.2 2 21 _ rfl (hdep ⟨2, .guard⟩ (by simp) rfl)
          exact Cw.ex_not x rfl (Ord.wanted_no (bv := true) dg (by rw [f1]; decide) rfl rfl) rfl (hW.keep (by decide))
        | 5, ho, hi, hdep =>
          cases ho
          have dg : ac.eval (.tmp 21) = .bool false := hF.2.2.2 2 21 _ rfl (hdep ⟨2, .guard⟩ (by simp) rfl)
          exact Cw.ex_not x rfl (Ord.wanted_no (bv := true) dg (by rw [f1]; decide) rfl rfl) rfl (hW.keep (by decide))
        | 6, ho, hi, hdep =>
          cases ho
          have dg : ac.eval (.tmp 21) = .bool false := hF.2.2.2 2 21 _ rfl (hdep ⟨2, .guard⟩ (by simp) rfl)
          exact Cw.ex_not x rfl (Ord.wanted_no (bv := true) dg (by rw [f1]; decide) rfl rfl) rfl (hW.keep (by decide))
        | 7, ho, hi, hdep =>
          cases ho
          have dg : ac.eval (.tmp 21) = .bool false := hF.2.2.2 2 21 _ rfl (hdep ⟨2, .guard⟩ (by simp) rfl)
          exact Cw.ex_not x rfl (Ord.wanted_no (bv := true) dg (by rw [f1]; decide) rfl rfl) rfl (hW.keep (by decide))
        | 8, ho, hi, hdep =>
          cases ho
          have dg : ac.eval (.tmp 21) = .bool false := hF.2.2.2 2 21 _ rfl (hdep ⟨2, .guard⟩ (by simp) rfl)
          exact Cw.ex_not x rfl (Ord.wanted_no (bv := true) dg (by rw [f1]; decide) rfl rfl) rfl (hW.keep (by decide))
        | 9, ho, hi, hdep =>
          cases ho
          have dg : ac.eval (.tmp 21) = .bool false := hF.2.2.2 2 21 _ rfl (hdep ⟨2, .guard⟩ (by simp) rfl)
          exact Cw.ex_not x rfl (Ord.wanted_no (bv := true) dg (by rw [f1]; decide) rfl rfl) rfl (hW.keep (by decide))
        | 10, ho, hi, hdep =>
          cases ho
          have dg : ac.eval (.tmp 21) = .bool false := hF.2.2.2 2 21 _ rfl (hdep ⟨2, .guard⟩ (by simp) rfl)
          exact Cw.ex_not x rfl (Ord.wanted_no (bv := true) dg (by rw [f1]; decide) rfl rfl) rfl (hW.keep (by decide))
        | 11, ho, hi, hdep =>
          cases ho
          have dg : ac.eval (.tmp 21) = .bool false := hF.2.2.2 2 21 _ rfl (hdep ⟨2, .guard⟩ (by simp) rfl)
          exact Cw.ex_not x rfl (Ord.wanted_no (bv := true) dg (by rw [f1]; decide) rfl rfl) rfl (hW.keep (by decide))
        | 12, ho, hi, hdep =>
          cases ho
          have da0 : ac.eval (.tmp 21) = .bool false := hF.2.2.2 2 21 _ rfl (hdep ⟨2, .data⟩ (by simp) rfl)
          have da1 : ac.eval (.tmp 30) = undef := hF.2.2.2 11 30 _ rfl (hdep ⟨11, .data⟩ (by simp) rfl)
          exact Ord.ex_value x rfl rfl (Rg.pick_f da0 rfl rfl) rfl (hW.keep (by decide))
      case refine_3 => exact Rg.StM.first rfl
      case refine_2 =>
        intro v' w2 hW
        have hw2 := hW.last
        subst hw2
        clear hW
        simp only [Ord.puts, Ord.prs]
        go_simp
        refine hK _ _ ?_
        gi_wp2
        exact ⟨(KeepsOthers.drew W3).from _, G.out⟩
    | true =>
      cases hdk with
      | true =>
        have G : Hid (Fm w D W3.drew t f rv nx n L R ap tb fb nb fr rn (fun p => { ak p with mv := mvA nl p L (k + 1) }) tl gd nl (fun p => hdA p L (k + 1))) := by
          refine HI3.out.drew.congr (fun i _ => ?_) (fun i _ => ?_)
          · rw [HH.out.2, HJ.out.1]
            by_cases e : (j : Int) = (i : Int)
            · rw [← e, HZ.out.1]; simp
            · simp [e]
          · rw [HH.out.1, HJ.out.1]
            by_cases e : (j : Int) = (i : Int)
            · rw [← e, HZ.out.1]; simp
            · simp [e]
        gi_wp2_with fail
        rename_i K Q hK
        refine Ord.wp_region_exR (X := Unit) (by kernel_rfl) 58 (fun x => [(some 19, .pointer (some ⟨g, o, none⟩)), (some 20, .bool true), (some 21, .bool true), (some 22, .slice (some ⟨w.heap.size + 1, 0, none⟩) n n), (some 23, .pointer (some ⟨g, o, none⟩)), (some 24, .pointer (some ⟨g, o, none⟩)), (some 25, .pointer (some ⟨g, o, none⟩)), (some 26, .pointer (some ⟨g, o + 1, none⟩)), (some 27, .int .i64 (j : Int)), (some 28, .pointer (some ⟨w.heap.size + 1, j, none⟩)), (some 29, .bool true), (some 30, .bool false), (some 31, .bool false)]) [some 19, some 20, some 21, some 22, some 23, some 24, some 25, some 26, some 27, some 28, some 29, some 30, some 31] rfl (fun listed hsz hr => Ord.all_listedC (rank := [0, 1, 2, 3, 4, 5, 6, 7, 8, 9, 10, 11, 12]) (by kernel_rfl) hsz hr) (by rfl) (fun _ => rfl) (by kernel_rfl) (Rg.StM [] (fun skk sxx w' => w' = W3.drew)) (fun _ _ _ _ hL h => h.ext (n := 13) (by decide) hL) ?_ ?_ () ?_
        case refine_1 =>
          intro x Lq iq oq ac w' ho hi hcl hdep hF hW
          have f1 : ac.tmps.size = 58 := hF.1
          match iq, ho, hi, hdep with
          | 0, ho, hi, hdep =>
            cases ho
            have da0 : ac.eval (.tmp 4) = .pointer (some ⟨g, o, none⟩) := hF.old 4 rfl
            exact Ord.ex_value x rfl rfl (Rg.mv da0 rfl) rfl (hW.keep (by decide))
          | 1, ho, hi, hdep =>
            cases ho
            have da0 : ac.eval (.tmp 19) = .pointer (some ⟨g, o, none⟩) := hF.2.2.2 0 19 _ rfl (hdep ⟨0, .data⟩ (by simp) rfl)
            obtain ⟨kq, hlo, hhi, hA⟩ := hW.range 0 0 (.inl rfl) (.inl rfl)
            have hw := hA
            subst hw
            exact Rg.ex_call x rfl rfl (Rg.enter (args := #[.pointer (some ⟨g, o, none⟩)]) rfl rfl (by simp [da0]) EO.out) (Calls.mono OP.out (by rintro e w2 ⟨rfl, rfl⟩; exact ⟨rfl, (hW.keep (by decide))⟩))
          | 2, ho, hi, hdep =>
            cases ho
            have da0 : ac.eval (.tmp 20) = .bool true := hF.2.2.2 1 20 _ rfl (hdep ⟨1, .data⟩ (by simp) rfl)
            exact Ord.ex_value x rfl rfl (Rg.mv da0 rfl) rfl (hW.keep (by decide))
          | 3, ho, hi, hdep =>
            cases ho
            have dg : ac.eval (.tmp 21) = .bool true := hF.2.2.2 2 21 _ rfl (hdep ⟨2, .guard⟩ (by simp) rfl)
            have da0 : ac.eval (.tmp 2) = .pointer (some ⟨w.heap.size + 1 + 1, 0, none⟩) := hF.old 2 rfl
            obtain ⟨kq, hlo, hhi, hA⟩ := hW.range 0 0 (.inl rfl) (.inl rfl)
            exact Ord.ex_value x rfl (Ord.wanted_of dg (by rw [f1]; decide) rfl rfl) (Rg.load da0 rfl (by rw [hA]; simp [go_sem, C2.out])) rfl (hW.keep (by decide))
          | 4, ho, hi, hdep =>
            cases ho
            have dg : ac.eval (.tmp 21) = .bool true := hF.2.2.2 2 21 _ rfl (hdep ⟨2, .guard⟩ (by simp) rfl)
            have da0 : ac.eval (.tmp 4) = .pointer (some ⟨g, o, none⟩) := hF.old 4 rfl
            exact Ord.ex_value x rfl (Ord.wanted_of dg (by rw [f1]; decide) rfl rfl) (Rg.mv da0 rfl) rfl (hW.keep (by decide))
          | 5, ho, hi, hdep =>
            cases ho
            have dg : ac.eval (.tmp 21) = .bool true := hF.2.2.2 2 21 _ rfl (hdep ⟨2, .guard⟩ (by simp) rfl)
            have da0 : ac.eval (.tmp 23) = .pointer (some ⟨g, o, none⟩) := hF.2.2.2 4 23 _ rfl (hdep ⟨4, .data⟩ (by simp) rfl)
            exact Ord.ex_value x rfl (Ord.wanted_of dg (by rw [f1]; decide) rfl rfl) (Rg.nilc da0 rfl) rfl (hW.keep (by decide))
          | 6, ho, hi, hdep =>
            cases ho
            have dg : ac.eval (.tmp 21) = .bool true := hF.2.2.2 2 21 _ rfl (hdep ⟨2, .guard⟩ (by simp) rfl)
            have da0 : ac.eval (.tmp 24) = .pointer (some ⟨g, o, none⟩) := hF.2.2.2 5 24 _ rfl (hdep ⟨5, .data⟩ (by simp) rfl)
            exact Ord.ex_value x rfl (Ord.wanted_of dg (by rw [f1]; decide) rfl rfl) (Rg.fa da0 rfl (by simp [go_sem])) rfl (hW.keep (by decide))
          | 7, ho, hi, hdep =>
            cases ho
            have dg : ac.eval (.tmp 21) = .bool true := hF.2.2.2 2 21 _ rfl (hdep ⟨2, .guard⟩ (by simp) rfl)
            have da0 : ac.eval (.tmp 25) = .pointer (some ⟨g, o, none⟩) := hF.2.2.2 6 25 _ rfl (hdep ⟨6, .data⟩ (by simp) rfl)
            exact Ord.ex_value x rfl (Ord.wanted_of dg (by rw [f1]; decide) rfl rfl) (Rg.fa da0 rfl (by simp [go_sem])) rfl (hW.keep (by decide))
          | 8, ho, hi, hdep =>
            cases ho
            have dg : ac.eval (.tmp 21) = .bool true := hF.2.2.2 2 21 _ rfl (hdep ⟨2, .guard⟩ (by simp) rfl)
            have da0 : ac.eval (.tmp 26) = .pointer (some ⟨g, o + 1, none⟩) := hF.2.2.2 7 26 _ rfl (hdep ⟨7, .data⟩ (by simp) rfl)
            obtain ⟨kq, hlo, hhi, hA⟩ := hW.range 0 0 (.inl rfl) (.inl rfl)
            exact Ord.ex_value x rfl (Ord.wanted_of dg (by rw [f1]; decide) rfl rfl) (Rg.load da0 rfl (by rw [hA]; simp [go_sem, CP.out])) rfl (hW.keep (by decide))
          | 9, ho, hi, hdep =>
            cases ho
            have dg : ac.eval (.tmp 21) = .bool true := hF.2.2.2 2 21 _ rfl (hdep ⟨2, .guard⟩ (by simp) rfl)
            have da0 : ac.eval (.tmp 22) = .slice (some ⟨w.heap.size + 1, 0, none⟩) n n := hF.2.2.2 3 22 _ rfl (hdep ⟨3, .data⟩ (by simp) rfl)
            have da1 : ac.eval (.tmp 27) = .int .i64 (j : Int) := hF.2.2.2 8 27 _ rfl (hdep ⟨8, .data⟩ (by simp) rfl)
            exact Ord.ex_value x rfl (Ord.wanted_of dg (by rw [f1]; decide) rfl rfl) (Rg.ix da0 da1 rfl (HIH.out _)) rfl (hW.keep (by decide))
          | 10, ho, hi, hdep =>
            cases ho
            have dg : ac.eval (.tmp 21) = .bool true := hF.2.2.2 2 21 _ rfl (hdep ⟨2, .guard⟩ (by simp) rfl)
            have da0 : ac.eval (.tmp 28) = .pointer (some ⟨w.heap.size + 1, j, none⟩) := hF.2.2.2 9 28 _ rfl (hdep ⟨9, .data⟩ (by simp) rfl)
            obtain ⟨kq, hlo, hhi, hA⟩ := hW.range 0 0 (.inl rfl) (.inl rfl)
            exact Ord.ex_value x rfl (Ord.wanted_of dg (by rw [f1]; decide) rfl rfl) (Rg.load da0 rfl (by rw [hA]; simp [go_sem, CH.out])) rfl (hW.keep (by decide))
          | 11, ho, hi, hdep =>
            cases ho
            have dg : ac.eval (.tmp 21) = .bool true := hF.2.2.2 2 21 _ rfl (hdep ⟨2, .guard⟩ (by simp) rfl)
            have da0 : ac.eval (.tmp 29) = .bool true := hF.2.2.2 10 29 _ rfl (hdep ⟨10, .data⟩ (by simp) rfl)
            exact Ord.ex_value x rfl (Ord.wanted_of dg (by rw [f1]; decide) rfl rfl) (Rg.not_ da0 rfl) rfl (hW.keep (by decide))
          | 12, ho, hi, hdep =>
            cases ho
            have da0 : ac.eval (.tmp 21) = .bool true := hF.2.2.2 2 21 _ rfl (hdep ⟨2, .data⟩ (by simp) rfl)
            have da1 : ac.eval (.tmp 30) = .bool false := hF.2.2.2 11 30 _ rfl (hdep ⟨11, .data⟩ (by simp) rfl)
            exact Ord.ex_value x rfl rfl (Rg.pick_t da0 da1 rfl) rfl (hW.keep (by decide))
        case refine_3 => exact Rg.StM.first rfl
        case refine_2 =>
          intro v' w2 hW
          have hw2 := hW.last
          subst hw2
          clear hW
          simp only [Ord.puts, Ord.prs]
          go_simp
          refine hK _ _ ?_
          gi_wp2
          exact ⟨(KeepsOthers.drew W3).from _, G.out⟩
      | false =>
        have G0 := hidden HI3.out.drew
        gi_wp2_with fail
        rename_i K Q hK
        refine Ord.wp_region_exR (X := Unit) (by kernel_rfl) 58 (fun x => [(some 19, .pointer (some ⟨g, o, none⟩)), (some 20, .bool true), (some 21, .bool true), (some 22, .slice (some ⟨w.heap.size + 1, 0, none⟩) n n), (some 23, .pointer (some ⟨g, o, none⟩)), (some 24, .pointer (some ⟨g, o, none⟩)), (some 25, .pointer (some ⟨g, o, none⟩)), (some 26, .pointer (some ⟨g, o + 1, none⟩)), (some 27, .int .i64 (j : Int)), (some 28, .pointer (some ⟨w.heap.size + 1, j, none⟩)), (some 29, .bool false), (some 30, .bool true), (some 31, .bool true)]) [some 19, some 20, some 21, some 22, some 23, some 24, some 25, some 26, some 27, some 28, some 29, some 30, some 31] rfl (fun listed hsz hr => Ord.all_listedC (rank := [0, 1, 2, 3, 4, 5, 6, 7, 8, 9, 10, 11, 12]) (by kernel_rfl) hsz hr) (by rfl) (fun _ => rfl) (by kernel_rfl) (Rg.StM [] (fun skk sxx w' => w' = W3.drew)) (fun _ _ _ _ hL h => h.ext (n := 13) (by decide) hL) ?_ ?_ () ?_
        case refine_1 =>
          intro x Lq iq oq ac w' ho hi hcl hdep hF hW
          have f1 : ac.tmps.size = 58 := hF.1
          match iq, ho, hi, hdep with
          | 0, ho, hi, hdep =>
            cases ho
            have da0 : ac.eval (.tmp 4) = .pointer (some ⟨g, o, none⟩) := hF.old 4 rfl
            exact Ord.ex_value x rfl rfl (Rg.mv da0 rfl) rfl (hW.keep (by decide))
          | 1, ho, hi, hdep =>
            cases ho
            have da0 : ac.eval (.tmp 19) = .pointer (some ⟨g, o, none⟩) := hF.2.2.2 0 19 _ rfl (hdep ⟨0, .data⟩ (by simp) rfl)
            obtain ⟨kq, hlo, hhi, hA⟩ := hW.range 0 0 (.inl rfl) (.inl rfl)
            have hw := hA
            subst hw
            exact Rg.ex_call x rfl rfl (Rg.enter (args := #[.pointer (some ⟨g, o, none⟩)]) rfl rfl (by simp [da0]) EO.out) (Calls.mono OP.out (by rintro e w2 ⟨rfl, rfl⟩; exact ⟨rfl, (hW.keep (by decide))⟩))
          | 2, ho, hi, hdep =>
            cases ho
            have da0 : ac.eval (.tmp 20) = .bool true := hF.2.2.2 1 20 _ rfl (hdep ⟨1, .data⟩ (by simp) rfl)
            exact Ord.ex_value x rfl rfl (Rg.mv da0 rfl) rfl (hW.keep (by decide))
          | 3, ho, hi, hdep =>
            cases ho
            have dg : ac.eval (.tmp 21) = .bool true := hF.2.2.2 2 21 _ rfl (hdep ⟨2, .guard⟩ (by simp) rfl)
            have da0 : ac.eval (.tmp 2) = .pointer (some ⟨w.heap.size + 1 + 1, 0, none⟩) := hF.old 2 rfl
            obtain ⟨kq, hlo, hhi, hA⟩ := hW.range 0 0 (.inl rfl) (.inl rfl)
            exact Ord.ex_value x rfl (Ord.wanted_of dg (by rw [f1]; decide) rfl rfl) (Rg.load da0 rfl (by rw [hA]; simp [go_sem, C2.out])) rfl (hW.keep (by decide))
          | 4, ho, hi, hdep =>
            cases ho
            have dg : ac.eval (.tmp 21) = .bool true := hF.2.2.2 2 21 _ rfl (hdep ⟨2, .guard⟩ (by simp) rfl)
            have da0 : ac.eval (.tmp 4) = .pointer (some ⟨g, o, none⟩) := hF.old 4 rfl
            exact Ord.ex_value x rfl (Ord.wanted_of dg (by rw [f1]; decide) rfl rfl) (Rg.mv da0 rfl) rfl (hW.keep (by decide))
          | 5, ho, hi, hdep =>
            cases ho
            have dg : ac.eval (.tmp 21) = .bool true := hF.2.2.2 2 21 _ rfl (hdep ⟨2, .guard⟩ (by simp) rfl)
            have da0 : ac.eval (.tmp 23) = .pointer (some ⟨g, o, none⟩) := hF.2.2.2 4 23 _ rfl (hdep ⟨4, .data⟩ (by simp) rfl)
            exact Ord.ex_value x rfl (Ord.wanted_of dg (by rw [f1]; decide) rfl rfl) (Rg.nilc da0 rfl) rfl (hW.keep (by decide))
          | 6, ho, hi, hdep =>
            cases ho
            have dg : ac.eval (.tmp 21) = .bool true := hF.2.2.2 2 21 _ rfl (hdep ⟨2, .guard⟩ (by simp) rfl)
            have da0 : ac.eval (.tmp 24) = .pointer (some ⟨g, o, none⟩) := hF.2.2.2 5 24 _ rfl (hdep ⟨5, .data⟩ (by simp) rfl)
            exact Ord.ex_value x rfl (Ord.wanted_of dg (by rw [f1]; decide) rfl rfl) (Rg.fa da0 rfl (by simp [go_sem])) rfl (hW.keep (by decide))
          | 7, ho, hi, hdep =>
            cases ho
            have dg : ac.eval (.tmp 21) = .bool true := hF.2.2.2 2 21 _ rfl (hdep ⟨2, .guard⟩ (by simp) rfl)
            have da0 : ac.eval (.tmp 25) = .pointer (some ⟨g, o, none⟩) := hF.2.2.2 6 25 _ rfl (hdep ⟨6, .data⟩ (by simp) rfl)
            exact Ord.ex_value x rfl (Ord.wanted_of dg (by rw [f1]; decide) rfl rfl) (Rg.fa da0 rfl (by simp [go_sem])) rfl (hW.keep (by decide))
          | 8, ho, hi, hdep =>
            cases ho
            have dg : ac.eval (.tmp 21) = .bool true := hF.2.2.2 2 21 _ rfl (hdep ⟨2, .guard⟩ (by simp) rfl)
            have da0 : ac.eval (.tmp 26) = .pointer (some ⟨g, o + 1, none⟩) := hF.2.2.2 7 26 _ rfl (hdep ⟨7, .data⟩ (by simp) rfl)
            obtain ⟨kq, hlo, hhi, hA⟩ := hW.range 0 0 (.inl rfl) (.inl rfl)
            exact Ord.ex_value x rfl (Ord.wanted_of dg (by rw [f1]; decide) rfl rfl) (Rg.load da0 rfl (by rw [hA]; simp [go_sem, CP.out])) rfl (hW.keep (by decide))
          | 9, ho, hi, hdep =>
            cases ho
            have dg : ac.eval (.tmp 21) = .bool true := hF.2.2.2 2 21 _ rfl (hdep ⟨2, .guard⟩ (by simp) rfl)
            have da0 : ac.eval (.tmp 22) = .slice (some ⟨w.heap.size + 1, 0, none⟩) n n := hF.2.2.2 3 22 _ rfl (hdep ⟨3, .data⟩ (by simp) rfl)
            have da1 : ac.eval (.tmp 27) = .int .i64 (j : Int) := hF.2.2.2 8 27 _ rfl (hdep ⟨8, .data⟩ (by simp) rfl)
            exact Ord.ex_value x rfl (Ord.wanted_of dg (by rw [f1]; decide) rfl rfl) (Rg.ix da0 da1 rfl (HIH.out _)) rfl (hW.keep (by decide))
          | 10, ho, hi, hdep =>
            cases ho
            have dg : ac.eval (.tmp 21) = .bool true := hF.2.2.2 2 21 _ rfl (hdep ⟨2, .guard⟩ (by simp) rfl)
            have da0 : ac.eval (.tmp 28) = .pointer (some ⟨w.heap.size + 1, j, none⟩) := hF.2.2.2 9 28 _ rfl (hdep ⟨9, .data⟩ (by simp) rfl)
            obtain ⟨kq, hlo, hhi, hA⟩ := hW.range 0 0 (.inl rfl) (.inl rfl)
            exact Ord.ex_value x rfl (Ord.wanted_of dg (by rw [f1]; decide) rfl rfl) (Rg.load da0 rfl (by rw [hA]; simp [go_sem, CH.out])) rfl (hW.keep (by decide))
          | 11, ho, hi, hdep =>
            cases ho
            have dg : ac.eval (.tmp 21) = .bool true := hF.2.2.2 2 21 _ rfl (hdep ⟨2, .guard⟩ (by simp) rfl)
            have da0 : ac.eval (.tmp 29) = .bool false := hF.2.2.2 10 29 _ rfl (hdep ⟨10, .data⟩ (by simp) rfl)
            exact Ord.ex_value x rfl (Ord.wanted_of dg (by rw [f1]; decide) rfl rfl) (Rg.not_ da0 rfl) rfl (hW.keep (by decide))
          | 12, ho, hi, hdep =>
            cases ho
            have da0 : ac.eval (.tmp 21) = .bool true := hF.2.2.2 2 21 _ rfl (hdep ⟨2, .data⟩ (by simp) rfl)
            have da1 : ac.eval (.tmp 30) = .bool true := hF.2.2.2 11 30 _ rfl (hdep ⟨11, .data⟩ (by simp) rfl)
            exact Ord.ex_value x rfl rfl (Rg.pick_t da0 da1 rfl) rfl (hW.keep (by decide))
        case refine_3 => exact Rg.StM.first rfl
        case refine_2 =>
          intro v' w2 hW
          have hw2 := hW.last
          subst hw2
          clear hW
          simp only [Ord.puts, Ord.prs]
          go_simp
          refine hK _ _ ?_
          clear hK C2 CP CH
          gi_wp2_with fail
          rename_i hK2
          obtain ⟨W4, hW4⟩ : ∃ W4, W4 = W3.drew := ⟨_, rfl⟩
          have G4 : Hid (Fm w D W4 t f rv nx n L R ap tb fb nb fr rn (fun p => { ak p with mv := mvA nl p L k }) tl gd nl (fun p => hdA p L k) ∧ KeepsOthers W3 W4) := by rw [hW4]; exact ⟨G0.out, KeepsOthers.drew W3⟩
          rw [← hW4]
          clear hW4 G0
          obtain ⟨P4, hN4⟩ := G4.out.1.cx.no
          obtain ⟨v4, hcl4, _⟩ := hN4.chunk HP.out HX.out
          have C2 : Hid (W4.drew.cell? ⟨w.heap.size + 1 + 1, 0, none⟩ = some (.slice (some ⟨w.heap.size + 1, 0, none⟩) n n)) := G4.out.1.b2.cell 0 rfl
          have CP : Hid (W4.drew.cell? ⟨g, o + 1, none⟩ = some (.int .i64 (j : Int))) := by rw [← HJ.out.1]; exact hcl4 1 _ rfl
          have HST : Hid ((Instr.storeAt 4 (.pointer (some ⟨w.heap.size + 1, j, none⟩)) (.bool true)).run Try.prog W4.drew = .ok () (W4.drew.setCell ⟨w.heap.size + 1, j, none⟩ (.bool true))) := st_bool (w := W4.drew) true (G4.out.1.drew.hh.cell HJ.out.2) (G4.out.1.drew.hh.frozen j)
          clear hN4 hcl4
          refine Ord.wp_region_exR (X := Unit) (by kernel_rfl) 58 (fun x => [(some 32, .slice (some ⟨w.heap.size + 1, 0, none⟩) n n), (some 33, .pointer (some ⟨g, o, none⟩)), (some 34, .pointer (some ⟨g, o, none⟩)), (some 35, .pointer (some ⟨g, o, none⟩)), (some 36, .pointer (some ⟨g, o + 1, none⟩)), (some 37, .int .i64 (j : Int)), (some 38, .pointer (some ⟨w.heap.size + 1, j, none⟩)), (none, undef)]) [some 32, some 33, some 34, some 35, some 36, some 37, some 38, none] rfl (fun listed hsz hr => Ord.all_listedC (rank := [0, 1, 2, 3, 4, 5, 6, 7]) (by kernel_rfl) hsz hr) (by rfl) (fun _ => rfl) (by kernel_rfl) (Rg.StM [7] (fun skk sxx w' => (skk = 0 → w' = W4.drew) ∧ (skk = 1 → w' = W4.drew.setCell ⟨w.heap.size + 1, j, none⟩ (.bool true)))) (fun _ _ _ _ hL h => h.ext (n := 8) (by decide) hL) ?_ ?_ () ?_
          case refine_1 =>
            intro x Lq iq oq ac w' ho hi hcl hdep hF hW
            have f1 : ac.tmps.size = 58 := hF.1
            match iq, ho, hi, hdep with
            | 0, ho, hi, hdep =>
              cases ho
              have da0 : ac.eval (.tmp 2) = .pointer (some ⟨w.heap.size + 1 + 1, 0, none⟩) := hF.old 2 rfl
              obtain ⟨kq, hlo, hhi, hA⟩ := hW.range 0 0 (.inl rfl) (.inr ⟨7, rfl, (Rg.no_of (fun h => hcl 7 _ rfl (h) ⟨0, .phase⟩ (by simp) rfl) hi)⟩)
              exact Ord.ex_value x rfl rfl (Rg.load da0 rfl (by rw [hA.1 (by omega)]; simp [go_sem, C2.out])) rfl (hW.keep (by decide))
            | 1, ho, hi, hdep =>
              cases ho
              have da0 : ac.eval (.tmp 4) = .pointer (some ⟨g, o, none⟩) := hF.old 4 rfl
              exact Ord.ex_value x rfl rfl (Rg.mv da0 rfl) rfl (hW.keep (by decide))
            | 2, ho, hi, hdep =>
              cases ho
              have da0 : ac.eval (.tmp 33) = .pointer (some ⟨g, o, none⟩) := hF.2.2.2 1 33 _ rfl (hdep ⟨1, .data⟩ (by simp) rfl)
              exact Ord.ex_value x rfl rfl (Rg.nilc da0 rfl) rfl (hW.keep (by decide))
            | 3, ho, hi, hdep =>
              cases ho
              have da0 : ac.eval (.tmp 34) = .pointer (some ⟨g, o, none⟩) := hF.2.2.2 2 34 _ rfl (hdep ⟨2, .data⟩ (by simp) rfl)
              exact Ord.ex_value x rfl rfl (Rg.fa da0 rfl (by simp [go_sem])) rfl (hW.keep (by decide))
            | 4, ho, hi, hdep =>
              cases ho
              have da0 : ac.eval (.tmp 35) = .pointer (some ⟨g, o, none⟩) := hF.2.2.2 3 35 _ rfl (hdep ⟨3, .data⟩ (by simp) rfl)
              exact Ord.ex_value x rfl rfl (Rg.fa da0 rfl (by simp [go_sem])) rfl (hW.keep (by decide))
            | 5, ho, hi, hdep =>
              cases ho
              have da0 : ac.eval (.tmp 36) = .pointer (some ⟨g, o + 1, none⟩) := hF.2.2.2 4 36 _ rfl (hdep ⟨4, .data⟩ (by simp) rfl)
              obtain ⟨kq, hlo, hhi, hA⟩ := hW.range 0 0 (.inl rfl) (.inr ⟨7, rfl, (Rg.no_of (fun h => hcl 7 _ rfl (h) ⟨5, .phase⟩ (by simp) rfl) hi)⟩)
              exact Ord.ex_value x rfl rfl (Rg.load da0 rfl (by rw [hA.1 (by omega)]; simp [go_sem, CP.out])) rfl (hW.keep (by decide))
            | 6, ho, hi, hdep =>
              cases ho
              have da0 : ac.eval (.tmp 32) = .slice (some ⟨w.heap.size + 1, 0, none⟩) n n := hF.2.2.2 0 32 _ rfl (hdep ⟨0, .data⟩ (by simp) rfl)
              have da1 : ac.eval (.tmp 37) = .int .i64 (j : Int) := hF.2.2.2 5 37 _ rfl (hdep ⟨5, .data⟩ (by simp) rfl)
              exact Ord.ex_value x rfl rfl (Rg.ix da0 da1 rfl (HIH.out _)) rfl (hW.keep (by decide))
            | 7, ho, hi, hdep =>
              cases ho
              have da0 : ac.eval (.tmp 38) = .pointer (some ⟨w.heap.size + 1, j, none⟩) := hF.2.2.2 6 38 _ rfl (hdep ⟨6, .data⟩ (by simp) rfl)
              have hA := hW.at (k := 0) rfl hi (.inl rfl)
              have hw := hA.1 rfl
              subst hw
              exact Rg.ex_skip x rfl rfl (Rg.sto da0 rfl rfl HST.out) rfl (hW.next (k := 0) rfl (by decide) hi (.inl rfl) ⟨fun e => absurd e (by decide), fun _ => rfl⟩)
          case refine_3 => exact Rg.StM.first ⟨fun _ => rfl, fun e => absurd e (by decide)⟩
          case refine_2 =>
            intro v' w2 hW
            have hA := hW.last
            have hw2 := hA.2 rfl
            subst hw2
            clear hW hA
            simp only [Ord.puts, Ord.prs]
            go_simp
            refine hK2 _ _ ?_
            clear hK2 C2 CP HST
            obtain ⟨W5, hW5⟩ : ∃ W5, W5 = (W4.setCell ⟨w.heap.size + 1, j, none⟩ (.bool true)).drew := ⟨_, rfl⟩
            have G5 : Hid (Fm w D W5 t f rv nx n L R ap tb fb nb fr rn (fun p => { ak p with mv := mvA nl p L k }) tl gd nl (fun i => if i = j then true else hdA i L k) ∧ KeepsOthers W3 W5) := by
              rw [hW5, show (W4.setCell ⟨w.heap.size + 1, j, none⟩ (.bool true)).drew = W4.drew.setCell ⟨w.heap.size + 1, j, none⟩ (.bool true) from rfl]; exact ⟨G4.out.1.drew.had HJ.out.2 true, (G4.out.2.trans (KeepsOthers.drew W4)).trans (KeepsOthers.setCell _ _ _)⟩
            rw [← hW5]
            clear hW5 G4
            gi_wp2_with fail
            obtain ⟨P5, hN5⟩ := G5.out.1.cx.no
            obtain ⟨v5, hcl5, _⟩ := hN5.chunk HP.out HX.out
            have hrh := G5.out.1.cx.rh
            rw [HZ.out.2] at hrh
            have hnb := G5.out.1.cx.nb_.cell (j := k) (by rw [HZ.out.2]; exact HKL.out)
            have C0 : Hid (W5.drew.cell? ⟨w.heap.size, 0, none⟩ = some (.pointer (some ⟨R, 0, none⟩))) := G5.out.1.b0.cell 0 rfl
            have CA : Hid (W5.drew.cell? ⟨R, 0, none⟩ = some (.slice (some ⟨ap, 0, none⟩) n n)) := hrh.cell 0 rfl
            have CN : Hid (W5.drew.cell? ⟨R, 6, none⟩ = some (.slice (some ⟨nb, 0, none⟩) N N)) := hrh.cell 6 rfl
            have CP : Hid (W5.drew.cell? ⟨g, o + 1, none⟩ = some (.int .i64 (j : Int))) := by rw [← HJ.out.1]; exact hcl5 1 _ rfl
            have CU : Hid (W5.drew.cell? ⟨nb, k, none⟩ = some (.bool (nl k))) := hnb
            obtain ⟨_, q1, _⟩ := G5.out.1.cx.aw.cells HJ.out.2
            have HST : Hid ((Instr.storeAt 4 (.pointer (some ⟨ap, j * 4 + 1, none⟩)) (.bool (nl k))).run Try.prog W5.drew = .ok () (W5.drew.setCell ⟨ap, j * 4 + 1, none⟩ (.bool (nl k)))) := st_bool (w := W5.drew) (nl k) q1 (G5.out.1.cx.aw.frozen _)
            have HU : Hid (nl k = nl k) := rfl
            generalize hu : nl k = u at CU HST
            have HUU := hidden hu
            clear hN5 hcl5 hrh hnb q1 hu HU
            refine Ord.wp_region_exR (X := Unit) (by kernel_rfl) 58 (fun x => [(some 39, .pointer (some ⟨R, 0, none⟩)), (some 40, .pointer (some ⟨R, 0, none⟩)), (some 41, .pointer (some ⟨R, 0, none⟩)), (some 42, .pointer (some ⟨R, 0, none⟩)), (some 43, .slice (some ⟨ap, 0, none⟩) n n), (some 44, .pointer (some ⟨g, o, none⟩)), (some 45, .pointer (some ⟨g, o, none⟩)), (some 46, .pointer (some ⟨g, o, none⟩)), (some 47, .pointer (some ⟨g, o + 1, none⟩)), (some 48, .int .i64 (j : Int)), (some 49, .pointer (some ⟨R, 0, none⟩)), (some 50, .pointer (some ⟨R, 0, none⟩)), (some 51, .pointer (some ⟨R, 6, none⟩)), (some 52, .slice (some ⟨nb, 0, none⟩) N N), (some 53, .int .i64 (k : Int)), (some 54, .pointer (some ⟨nb, k, none⟩)), (some 55, .bool u), (some 56, .pointer (some ⟨ap, j * 4, none⟩)), (some 57, .pointer (some ⟨ap, j * 4 + 1, none⟩)), (none, undef)]) [some 39, some 40, some 41, some 42, some 43, some 44, some 45, some 46, some 47, some 48, some 49, some 50, some 51, some 52, some 53, some 54, some 55, some 56, some 57, none] rfl (fun listed hsz hr => Ord.all_listedC (rank := [0, 1, 2, 3, 4, 5, 6, 7, 8, 9, 10, 11, 12, 13, 14, 15, 16, 17, 18, 19]) (by kernel_rfl) hsz hr) (by rfl) (fun _ => rfl) (by kernel_rfl) (Rg.StM [19] (fun skk sxx w' => (skk = 0 → w' = W5.drew) ∧ (skk = 1 → w' = W5.drew.setCell ⟨ap, j * 4 + 1, none⟩ (.bool u)))) (fun _ _ _ _ hL h => h.ext (n := 20) (by decide) hL) ?_ ?_ () ?_
            case refine_1 =>
              intro x Lq iq oq ac w' ho hi hcl hdep hF hW
              have f1 : ac.tmps.size = 58 := hF.1
              match iq, ho, hi, hdep with
              | 0, ho, hi, hdep =>
                cases ho
                have da0 : ac.eval (.tmp 1) = .pointer (some ⟨w.heap.size, 0, none⟩) := hF.old 1 rfl
                obtain ⟨kq, hlo, hhi, hA⟩ := hW.range 0 0 (.inl rfl) (.inr ⟨19, rfl, (Rg.no_of (fun h => hcl 19 _ rfl (h) ⟨0, .phase⟩ (by simp) rfl) hi)⟩)
                exact Ord.ex_value x rfl rfl (Rg.load da0 rfl (by rw [hA.1 (by omega)]; simp [go_sem, C0.out])) rfl (hW.keep (by decide))
              | 1, ho, hi, hdep =>
                cases ho
                have da0 : ac.eval (.tmp 39) = .pointer (some ⟨R, 0, none⟩) := hF.2.2.2 0 39 _ rfl (hdep ⟨0, .data⟩ (by simp) rfl)
                exact Ord.ex_value x rfl rfl (Rg.nilc da0 rfl) rfl (hW.keep (by decide))
              | 2, ho, hi, hdep =>
                cases ho
                have da0 : ac.eval (.tmp 40) = .pointer (some ⟨R, 0, none⟩) := hF.2.2.2 1 40 _ rfl (hdep ⟨1, .data⟩ (by simp) rfl)
                exact Ord.ex_value x rfl rfl (Rg.fa da0 rfl (by simp [go_sem])) rfl (hW.keep (by decide))
              | 3, ho, hi, hdep =>
                cases ho
                have da0 : ac.eval (.tmp 41) = .pointer (some ⟨R, 0, none⟩) := hF.2.2.2 2 41 _ rfl (hdep ⟨2, .data⟩ (by simp) rfl)
                exact Ord.ex_value x rfl rfl (Rg.fa da0 rfl (by simp [go_sem])) rfl (hW.keep (by decide))
              | 4, ho, hi, hdep =>
                cases ho
                have da0 : ac.eval (.tmp 42) = .pointer (some ⟨R, 0, none⟩) := hF.2.2.2 3 42 _ rfl (hdep ⟨3, .data⟩ (by simp) rfl)
                obtain ⟨kq, hlo, hhi, hA⟩ := hW.range 0 0 (.inl rfl) (.inr ⟨19, rfl, (Rg.no_of (fun h => hcl 19 _ rfl (h) ⟨4, .phase⟩ (by simp) rfl) hi)⟩)
                exact Ord.ex_value x rfl rfl (Rg.load da0 rfl (by rw [hA.1 (by omega)]; simp [go_sem, CA.out])) rfl (hW.keep (by decide))
              | 5, ho, hi, hdep =>
                cases ho
                have da0 : ac.eval (.tmp 4) = .pointer (some ⟨g, o, none⟩) := hF.old 4 rfl
                exact Ord.ex_value x rfl rfl (Rg.mv da0 rfl) rfl (hW.keep (by decide))
              | 6, ho, hi, hdep =>
                cases ho
                have da0 : ac.eval (.tmp 44) = .pointer (some ⟨g, o, none⟩) := hF.2.2.2 5 44 _ rfl (hdep ⟨5, .data⟩ (by simp) rfl)
                exact Ord.ex_value x rfl rfl (Rg.nilc da0 rfl) rfl (hW.keep (by decide))
              | 7, ho, hi, hdep =>
                cases ho
                have da0 : ac.eval (.tmp 45) = .pointer (some ⟨g, o, none⟩) := hF.2.2.2 6 45 _ rfl (hdep ⟨6, .data⟩ (by simp) rfl)
                exact Ord.ex_value x rfl rfl (Rg.fa da0 rfl (by simp [go_sem])) rfl (hW.keep (by decide))
              | 8, ho, hi, hdep =>
                cases ho
                have da0 : ac.eval (.tmp 46) = .pointer (some ⟨g, o, none⟩) := hF.2.2.2 7 46 _ rfl (hdep ⟨7, .data⟩ (by simp) rfl)
                exact Ord.ex_value x rfl rfl (Rg.fa da0 rfl (by simp [go_sem])) rfl (hW.keep (by decide))
              | 9, ho, hi, hdep =>
                cases ho
                have da0 : ac.eval (.tmp 47) = .pointer (some ⟨g, o + 1, none⟩) := hF.2.2.2 8 47 _ rfl (hdep ⟨8, .data⟩ (by simp) rfl)
                obtain ⟨kq, hlo, hhi, hA⟩ := hW.range 0 0 (.inl rfl) (.inr ⟨19, rfl, (Rg.no_of (fun h => hcl 19 _ rfl (h) ⟨9, .phase⟩ (by simp) rfl) hi)⟩)
                exact Ord.ex_value x rfl rfl (Rg.load da0 rfl (by rw [hA.1 (by omega)]; simp [go_sem, CP.out])) rfl (hW.keep (by decide))
              | 10, ho, hi, hdep =>
                cases ho
                have da0 : ac.eval (.tmp 1) = .pointer (some ⟨w.heap.size, 0, none⟩) := hF.old 1 rfl
                obtain ⟨kq, hlo, hhi, hA⟩ := hW.range 0 0 (.inl rfl) (.inr ⟨19, rfl, (Rg.no_of (fun h => hcl 19 _ rfl (h) ⟨10, .phase⟩ (by simp) rfl) hi)⟩)
                exact Ord.ex_value x rfl rfl (Rg.load da0 rfl (by rw [hA.1 (by omega)]; simp [go_sem, C0.out])) rfl (hW.keep (by decide))
              | 11, ho, hi, hdep =>
                cases ho
                have da0 : ac.eval (.tmp 49) = .pointer (some ⟨R, 0, none⟩) := hF.2.2.2 10 49 _ rfl (hdep ⟨10, .data⟩ (by simp) rfl)
                exact Ord.ex_value x rfl rfl (Rg.nilc da0 rfl) rfl (hW.keep (by decide))
              | 12, ho, hi, hdep =>
                cases ho
                have da0 : ac.eval (.tmp 50) = .pointer (some ⟨R, 0, none⟩) := hF.2.2.2 11 50 _ rfl (hdep ⟨11, .data⟩ (by simp) rfl)
                exact Ord.ex_value x rfl rfl (Rg.fa da0 rfl (by simp [go_sem])) rfl (hW.keep (by decide))
              | 13, ho, hi, hdep =>
                cases ho
                have da0 : ac.eval (.tmp 51) = .pointer (some ⟨R, 6, none⟩) := hF.2.2.2 12 51 _ rfl (hdep ⟨12, .data⟩ (by simp) rfl)
                obtain ⟨kq, hlo, hhi, hA⟩ := hW.range 0 0 (.inl rfl) (.inr ⟨19, rfl, (Rg.no_of (fun h => hcl 19 _ rfl (h) ⟨13, .phase⟩ (by simp) rfl) hi)⟩)
                exact Ord.ex_value x rfl rfl (Rg.load da0 rfl (by rw [hA.1 (by omega)]; simp [go_sem, CN.out])) rfl (hW.keep (by decide))
              | 14, ho, hi, hdep =>
                cases ho
                have da0 : ac.eval (.tmp 3) = .int .i64 (k : Int) := hF.old 3 rfl
                exact Ord.ex_value x rfl rfl (Rg.mv da0 rfl) rfl (hW.keep (by decide))
              | 15, ho, hi, hdep =>
                cases ho
                have da0 : ac.eval (.tmp 52) = .slice (some ⟨nb, 0, none⟩) N N := hF.2.2.2 13 52 _ rfl (hdep ⟨13, .data⟩ (by simp) rfl)
                have da1 : ac.eval (.tmp 53) = .int .i64 (k : Int) := hF.2.2.2 14 53 _ rfl (hdep ⟨14, .data⟩ (by simp) rfl)
                exact Ord.ex_value x rfl rfl (Rg.ix da0 da1 rfl (HIN.out _)) rfl (hW.keep (by decide))
              | 16, ho, hi, hdep =>
                cases ho
                have da0 : ac.eval (.tmp 54) = .pointer (some ⟨nb, k, none⟩) := hF.2.2.2 15 54 _ rfl (hdep ⟨15, .data⟩ (by simp) rfl)
                obtain ⟨kq, hlo, hhi, hA⟩ := hW.range 0 0 (.inl rfl) (.inr ⟨19, rfl, (Rg.no_of (fun h => hcl 19 _ rfl (h) ⟨16, .data⟩ (by simp) rfl) hi)⟩)
                exact Ord.ex_value x rfl rfl (Rg.load da0 rfl (by rw [hA.1 (by omega)]; simp [go_sem, CU.out])) rfl (hW.keep (by decide))
              | 17, ho, hi, hdep =>
                cases ho
                have da0 : ac.eval (.tmp 43) = .slice (some ⟨ap, 0, none⟩) n n := hF.2.2.2 4 43 _ rfl (hdep ⟨4, .data⟩ (by simp) rfl)
                have da1 : ac.eval (.tmp 48) = .int .i64 (j : Int) := hF.2.2.2 9 48 _ rfl (hdep ⟨9, .data⟩ (by simp) rfl)
                exact Ord.ex_value x rfl rfl (Rg.ix da0 da1 rfl (HIA.out _)) rfl (hW.keep (by decide))
              | 18, ho, hi, hdep =>
                cases ho
                have da0 : ac.eval (.tmp 56) = .pointer (some ⟨ap, j * 4, none⟩) := hF.2.2.2 17 56 _ rfl (hdep ⟨17, .data⟩ (by simp) rfl)
                exact Ord.ex_value x rfl rfl (Rg.fa da0 rfl (by simp [go_sem])) rfl (hW.keep (by decide))
              | 19, ho, hi, hdep =>
                cases ho
                have da0 : ac.eval (.tmp 57) = .pointer (some ⟨ap, j * 4 + 1, none⟩) := hF.2.2.2 18 57 _ rfl (hdep ⟨18, .data⟩ (by simp) rfl)
                have da1 : ac.eval (.tmp 55) = .bool u := hF.2.2.2 16 55 _ rfl (hdep ⟨16, .data⟩ (by simp) rfl)
                have hA := hW.at (k := 0) rfl hi (.inl rfl)
                have hw := hA.1 rfl
                subst hw
                exact Rg.ex_skip x rfl rfl (Rg.sto da0 da1 rfl HST.out) rfl (hW.next (k := 0) rfl (by decide) hi (.inl rfl) ⟨fun e => absurd e (by decide), fun _ => rfl⟩)
            case refine_3 => exact Rg.StM.first ⟨fun _ => rfl, fun e => absurd e (by decide)⟩
            case refine_2 =>
              intro v' w2 hW
              have hA := hW.last
              have hw2 := hA.2 rfl
              subst hw2
              clear hW hA
              simp only [Ord.puts, Ord.prs]
              go_simp
              have G6 : Hid (Fm w D (W5.drew.setCell ⟨ap, j * 4 + 1, none⟩ (.bool u)) t f rv nx n L R ap tb fb nb fr rn (fun p => { ak p with mv := mvA nl p L (k + 1) }) tl gd nl (fun p => hdA p L (k + 1)) ∧ KeepsOthers W3 (W5.drew.setCell ⟨ap, j * 4 + 1, none⟩ (.bool u))) := by
                refine ⟨(G5.out.1.drew.mv HJ.out.2 u).congr (fun i _ => ?_) (fun i _ => ?_), (G5.out.2.trans (KeepsOthers.drew W5)).trans (KeepsOthers.setCell _ _ _)⟩
                · rw [HH.out.2, HJ.out.1]
                  by_cases e : i = j
                  · subst e; rw [if_pos rfl, HZ.out.1, HUU.out]; simp
                  · have e' : ¬ (j : Int) = (i : Int) := by omega
                    rw [if_neg e]; simp [e']
                · rw [HH.out.1, HJ.out.1]
                  by_cases e : i = j
                  · subst e; simp
                  · have e' : ¬ (j : Int) = (i : Int) := by omega
                    rw [if_neg e]; simp [e']
              clear G5
              gi_wp2
              exact ⟨G6.out.2.from _, G6.out.1⟩
  case done =>
    rintro Dd W hD hI hdef
    have G := hidden hI
    clear hI
    gi_wp2
    refine ⟨by simp, .inl ⟨_, _, rfl, run_takeDeferred hdef, ?_⟩⟩
    have hc := Calm.put (B := W1.heap.size) (.deferred none) hD hdef rfl
    have h2 := G.out.calm hc (by have := HS1.out; omega)
    exact ⟨_, results_none rfl _ _ _, rfl, h2.cx, h2.md⟩
end
end Go.Proofs.Ytjceeckcfjjkkaa.Ob
