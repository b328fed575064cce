/- The document's reader of texts: a column. -/
import Derived.Test.YtpejilhdhkmcjaaGreatDoorJbAl
import Derived.Test.YtpejilhdhkmcjaaGreatDoorJbbk
namespace Go.Proofs.YtpejilhdhkmcjaaGreatDoor
open Go.RowKit

theorem row_kept {R : Nat} {w w' : World} {base : Nat} {e : TypeId} {size : Nat} {v : Value} {n : Nat} {xs : List Value} (h : w.ownsRow base e size v n xs) (hk : RKeep R w w') (hR : R < base) : w'.ownsRow base e size v n xs := by
 refine ⟨h.1, ?_⟩
 rcases h.2 with h2 | ⟨g', cap, cur, he, hbs, hh, rr⟩
 ·
  exact Or.inl h2
 exact Or.inr ⟨g', cap, cur, he, hbs, (hk.blk g' (Blk.lt (t := e) hh) (by omega)).trans hh, rr⟩
theorem row_ints {w : World} {base : Nat} {v : Value} {zs : List Int} (h : w.ownsRow base 3 1 v zs.length (iv zs)) (hne : 0 < zs.length) : ∃ g c, v = .slice (some ⟨g, 0, none⟩) zs.length c ∧ base ≤ g ∧ g < w.heap.size ∧ ∀ j (hj : j < zs.length), w.cell? ⟨g, j, none⟩ = some (.int .i64 zs[j]) := by
 rcases h.2 with ⟨rfl, h0⟩ | ⟨g, cap, cur, rfl, hb, hh, hn, _, hs, ht⟩
 ·
  omega
 refine ⟨g, cap, rfl, hb, Blk.lt (t := 3) hh, fun j hj => ?_⟩
 have f1 : (iv zs)[j]? = some (.int .i64 zs[j]) := by simp [iv, hj]
 rw [← ht, List.getElem?_take_of_lt (by omega)] at f1
 rw [Blk.cell (t := 3) hh, ← Array.getElem?_toList]
 exact f1
theorem ixN0 (g n c r : Nat) (_hm : n ≤ 100000) (hr : r < n) (w : World) : (Instr.indexAt 26 (.slice (some ⟨g, 0, none⟩) n c) (.int .i64 (r : Int))).run Tryz.prog w = .ok (.pointer (some ⟨g, r, none⟩)) w := by go_simp
theorem col_num (zs : List Int) (m : Nat) (s : Ag.Bs) : colM zs (Ag.colS (m + 1) s) = match Ag.numL s 1 1 with | some ([x], r) => colM (zs ++ [(x : Int)]) (Ag.colS m r) | _ => none := by
 rw [col_step]
 unfold Ag.numL
 cases Ag.lineS s with
 | none => rfl
 | some q =>
  obtain ⟨l, r⟩ := q
  simp only
  cases Ag.numsS l with
  | none => rfl
  | some ns =>
   match ns with
   | [] => simp
   | [x] => simp
   | a :: b :: t => simp
theorem num_one {s r : Ag.Bs} {ns : List Nat} (h : Ag.numL s 1 1 = some (ns, r)) : (∃ x, ns = [x]) ∧ r.length ≤ s.length := by
 unfold Ag.numL at h
 cases hl : Ag.lineS s with
 | none => rw [hl] at h; cases h
 | some q =>
  obtain ⟨l, r'⟩ := q
  rw [hl] at h
  simp only at h
  have hll := congrArg List.length (Ag.line_some hl).1
  simp at hll
  cases hn : Ag.numsS l with
  | none => rw [hn] at h; cases h
  | some ns' =>
   rw [hn] at h
   simp only at h
   split at h
   ·
    rename_i hb
    injection h with h
    injection h with h1 h2
    subst h1 h2
    refine ⟨?_, by omega⟩
    match ns', hb with
    | [x], _ => exact ⟨x, rfl⟩
    | [], hb => simp at hb
    | a :: b :: t, hb => simp at hb
   cases h
/-- A column is taken, or the mark is set. -/
def TColP (R : Nat) (s : Ag.Bs) (cs : List Value) (w : World) (o : Option (List Int × Ag.Bs)) (e : Ending) (w' : World) : Prop :=
 ∃ v zs, e = .returned v ∧ w'.ownsRow w.heap.size 3 1 v zs.length (iv zs) ∧ zs.length ≤ 2000 ∧ (∀ z ∈ zs, -1 ≤ z ∧ z ≤ 999999) ∧ RKeep R w w' ∧
 match o with
 | some (zs', r) => zs = zs' ∧ r.length ≤ s.length ∧ TK w' R r false cs
 | none => ∃ s', s'.length ≤ s.length ∧ TK w' R s' true cs
set_option maxRecDepth 10000 in
set_option maxHeartbeats 4000000 in
theorem tcol_any (R : Nat) (s : Ag.Bs) (bad : Bool) (cs : List Value) (n : Nat) (w : World) (h : TK w R s bad cs) (hs : s.length ≤ 40000) (hn : n ≤ 2000) :
  Calls Tryz.prog 71 #[.pointer (some ⟨R, 0, none⟩), .int .i64 (n : Int)] w (TColP R s cs w (if bad = true then none else Ag.colS n s)) := by
 have HRZ : Hid (R < w.heap.size) := h.lt
 obtain ⟨o, ho⟩ : ∃ o, o = (if bad = true then none else Ag.colS n s) := ⟨_, rfl⟩
 rw [← ho]
 have HO0 : Hid (o = if bad = true then none else colM [] (Ag.colS n s)) := by
  unfold Hid
  rw [ho]
  cases Ag.colS n s with
  | none => rfl
  | some q => rfl
 clear ho
 have HSL := Lib.hid hs
 go_enter Tryz.func71, Tryz.ntmps71
 go_wp2
 go_loopw [5, 6] (fun v i wr => ∃ (j : Nat) (zs : List Int) (s' : Ag.Bs) (b : Bool), j ≤ n ∧ zs.length = j ∧ i = .int .i64 (j : Int) ∧ (o = if b = true then none else colM zs (Ag.colS (n - j) s')) ∧ s'.length ≤ s.length ∧ (∀ z ∈ zs, -1 ≤ z ∧ z ≤ 999999) ∧ wr.ownsRow w.heap.size 3 1 v zs.length (iv zs) ∧ TK wr R s' b cs ∧ RKeep R w wr) (fun _ i _ => n - (intOf i).toNat)
 case atStart => exact ⟨0, [], s, bad, Nat.zero_le _, rfl, rfl, HO0.out, Nat.le_refl _, by simp, World.ownsRow_nil w _ _ _, h, RKeep.refl _ _⟩
 clear h
 obtain ⟨j, zs, s', b, hj, hzl, rfl, hco, hs', hzr, hrow, hT, hk⟩ := hrel
 have HZL := Lib.hid hzl
 have HCO := Lib.hid hco
 have HZR := Lib.hid hzr
 have HS' := Lib.hid hs'
 have c1 := hT.c1
 clear hzl hco hzr
 by_cases hlt : j < n
 ·
  have dl : decide ((j : Int) < (n : Int)) = true := decide_eq_true (by omega)
  cases b with
  | true =>
   have HE : Hid (o = none) := HCO.out
   go_wp2
   go_ret
   exact ⟨_, zs, rfl, hrow, by have := HZL.out; omega, HZR.out, hk, by rw [HE.out]; exact ⟨s', HS'.out, hT⟩⟩
  | false =>
   obtain ⟨m, hm⟩ : ∃ m, n - j = m + 1 := ⟨n - j - 1, by omega⟩
   have HON : Hid (o = match Ag.numL s' 1 1 with | some ([x], r) => colM (zs ++ [(x : Int)]) (Ag.colS m r) | _ => none) := by
    unfold Hid
    rw [HCO.out, hm, ← col_num]
    rfl
   have HM := Lib.hid hm
   have HL := Lib.hid (tnums_any R s' false cs 1 1 wr hT (by have := HSL.out; omega) (by omega) (by omega))
   clear hm HCO
   go_wp2_with fail
   refine HL.out.mono ?_
   rintro e w2 ⟨v2, ys, rfl, hr2, hy1, hy5, hyr, hk2, hmt⟩
   obtain ⟨g, c, rfl, hg0, hg1, hgc⟩ := row_ints hr2 (by omega)
   have hix := ixN0 g ys.length c 0
   have hc0 := hgc 0 (by omega)
   have hrow2 := row_kept hrow hk2 HRZ.out
   have hkt := hk.trans hk2
   have HYL := Lib.hid hy1
   have HYR := Lib.hid (hyr ys[0] (List.getElem_mem _))
   have HNX : Hid (∃ s2 b2, s2.length ≤ s.length ∧ TK w2 R s2 b2 cs ∧ o = (if b2 = true then none else colM (zs ++ [ys[0]]) (Ag.colS m s2))) := by
    cases hnl : Ag.numL s' 1 1 with
    | none =>
     rw [hnl] at hmt HON
     obtain ⟨s2, h1, h2⟩ := hmt
     exact ⟨s2, true, by have := HS'.out; omega, h2, HON.out⟩
    | some q =>
     obtain ⟨ns, r⟩ := q
     rw [hnl] at hmt HON
     obtain ⟨⟨x, rfl⟩, hrl⟩ := num_one hnl
     obtain ⟨h1, h2⟩ := hmt
     subst h1
     exact ⟨r, false, by have := HS'.out; omega, h2, HON.out⟩
   have hix0 : ∀ W, (Instr.indexAt 26 (.slice (some ⟨g, 0, none⟩) ys.length c) (.int .i64 0)).run Tryz.prog W = .ok (.pointer (some ⟨g, 0, none⟩)) W := fun W => hix (by omega) (by omega) W
   clear hmt hT HL HON hgc hix hrow hk hk2 hr2 hyr
   generalize ys[0] = y at *
   have HRUN : Hid _ := Lib.hid (fun ty => app_int1 w2 w.heap.size ty u5 zs.length _ hrow2 y (by have := HZL.out; omega) hkt.size)
   have HRB := Lib.hid (row_base hrow2)
   clear hrow2 c1
   go_wp2_with (at_builtin; go_loud (refine wpList_app rfl (.tmp 19) (.tmp 24) 26 rfl _ _ rfl rfl _ HRUN.out ?_); intro v' W4 hR4)
   obtain ⟨s2, b2, q1, q2, q3⟩ := HNX.out
   have hlow := lowAlloc w2 (Obj.cells #[.int .i64 y] 3)
   have hT4 : TK W4 R s2 b2 cs := (q2.keep hlow).grown hR4.2 (fun e => by have := HRB.out R e.symm; have := HRZ.out; omega)
   have hk4 := (hkt.below hlow).grown hR4.2 (fun g e => HRB.out g e)
   have hrow4 : W4.ownsRow w.heap.size 3 1 v' (zs ++ [y]).length (iv (zs ++ [y])) := by
    have e : iv (zs ++ [y]) = iv zs ++ [.int .i64 y] := by simp [iv]
    rw [e, List.length_append]
    exact hR4.1
   constructor
   ·
    refine ⟨j + 1, zs ++ [y], s2, b2, by omega, by have := HZL.out; simp; omega, by go_num, ?_, q1, ?_, hrow4, hT4, hk4⟩
    ·
     have := HM.out
     rw [show n - (j + 1) = m by omega]
     exact q3
    intro z hz
    rcases List.mem_append.1 hz with hz | hz
    ·
     exact HZR.out z hz
    simp at hz
    subst hz
    exact HYR.out
   simp [intOf]; omega
 obtain rfl : j = n := by omega
 have dl : decide ((j : Int) < (j : Int)) = false := decide_eq_false (by omega)
 go_wp2
 go_ret
 refine ⟨_, zs, rfl, hrow, by have := HZL.out; omega, HZR.out, hk, ?_⟩
 have hc := HCO.out
 rw [Nat.sub_self, Ag.colS] at hc
 cases b with
 | true =>
  rw [hc]
  exact ⟨s', HS'.out, hT⟩
 | false =>
  rw [hc]
  simp only [Bool.false_eq_true, if_false, colM, List.append_nil]
  exact ⟨trivial, HS'.out, hT⟩
end Go.Proofs.YtpejilhdhkmcjaaGreatDoor
/- The document's reader of texts: the four columns. -/
namespace Go.Proofs.YtpejilhdhkmcjaaGreatDoor
open Go.RowKit

/-- The numbers of the first line lie in a block. -/
structure Mw (w : World) (R g : Nat) (m : List Nat) : Prop where
 len : m.length = 9
 low : ∀ x ∈ m, x ≤ 2000
 ne : g ≠ R
 lt : g < w.heap.size
 cell : ∀ j (hj : j < m.length), w.cell? ⟨g, j, none⟩ = some (.int .i64 (m[j] : Int))
theorem Mw.keep {w w' : World} {R g : Nat} {m : List Nat} (h : Mw w R g m) (hk : RKeep R w w') : Mw w' R g m :=
 ⟨h.len, h.low, h.ne, Nat.lt_of_lt_of_le h.lt hk.size, fun j hj => (World.cell?_of_block (w := w) (a := ⟨g, j, none⟩) (hk.blk g h.lt h.ne)).trans (h.cell j hj)⟩
theorem Mw.at {w : World} {R g : Nat} {m : List Nat} (h : Mw w R g m) (j : Nat) (hj : j < 9) : w.cell? ⟨g, j, none⟩ = some (.int .i64 (Ag.ge m j : Int)) ∧ Ag.ge m j ≤ 2000 := by
 have hl : j < m.length := by rw [h.len]; exact hj
 have e : Ag.ge m j = m[j] := by unfold Ag.ge; rw [List.getD_eq_getElem?_getD, List.getElem?_eq_getElem hl]; rfl
 rw [e]
 exact ⟨h.cell j hl, h.low _ (List.getElem_mem hl)⟩
theorem col_next {α : Type} {R : Nat} {s : Ag.Bs} {cs : List Value} {w w' : World} {e : Ending} {k : Nat} {b : Bool} {O : Option α} {G : List Int → Ag.Bs → Option α}
  (hO : O = if b = true then none else match Ag.colS k s with | none => none | some (z, r) => G z r) (hP : TColP R s cs w (if b = true then none else Ag.colS k s) e w') :
  ∃ v z s' b', e = .returned v ∧ w'.ownsRow w.heap.size 3 1 v z.length (iv z) ∧ z.length ≤ 2000 ∧ (∀ x ∈ z, -1 ≤ x ∧ x ≤ 999999) ∧ RKeep R w w' ∧ s'.length ≤ s.length ∧ TK w' R s' b' cs ∧ O = if b' = true then none else G z s' := by
 obtain ⟨v, z, h1, h2, h3, h4, h5, h6⟩ := hP
 cases b with
 | true =>
  rw [if_pos rfl] at hO h6
  obtain ⟨s', h7, h8⟩ := h6
  exact ⟨v, z, s', true, h1, h2, h3, h4, h5, h7, h8, hO⟩
 | false =>
  rw [if_neg (by simp)] at hO h6
  cases hc : Ag.colS k s with
  | none =>
   rw [hc] at hO h6
   obtain ⟨s', h7, h8⟩ := h6
   exact ⟨v, z, s', true, h1, h2, h3, h4, h5, h7, h8, hO⟩
  | some q =>
   obtain ⟨z', r⟩ := q
   rw [hc] at hO h6
   obtain ⟨h7, h8, h9⟩ := h6
   subst h7
   exact ⟨v, z, r, false, h1, h2, h3, h4, h5, h8, h9, hO⟩
abbrev Sg := (List Int × List Int × List Int × List Int) × Ag.Bs
def sg3 (m : List Nat) (zo zb zc : List Int) (r3 : Ag.Bs) : Option Sg := match Ag.colS (Ag.ge m 8) r3 with | none => none | some (zf, r4) => some ((zo, zb, zc, zf), r4)
def sg2 (m : List Nat) (zo zb : List Int) (r2 : Ag.Bs) : Option Sg := match Ag.colS (Ag.ge m 6) r2 with | none => none | some (zc, r3) => sg3 m zo zb zc r3
def sg1 (m : List Nat) (zo : List Int) (r1 : Ag.Bs) : Option Sg := match Ag.colS (Ag.ge m 5) r1 with | none => none | some (zb, r2) => sg2 m zo zb r2
/-- A row of the taker's own. -/
structure IRow (w : World) (base : Nat) (v : Value) (z : List Int) : Prop where
 row : w.ownsRow base 3 1 v z.length (iv z)
 len : z.length ≤ 2000
 low : ∀ x ∈ z, -1 ≤ x ∧ x ≤ 999999
theorem IRow.keep {w w' : World} {base R : Nat} {v : Value} {z : List Int} (h : IRow w base v z) (hk : RKeep R w w') (hR : R < base) : IRow w' base v z := ⟨row_kept h.row hk hR, h.len, h.low⟩
theorem IRow.more {w : World} {base b2 : Nat} {v : Value} {z : List Int} (h : IRow w base v z) (hb : b2 ≤ base) : IRow w b2 v z := ⟨row_more h.row hb, h.len, h.low⟩
/-- Four columns are taken, or the mark is set. -/
def TColsP (R : Nat) (s : Ag.Bs) (M N L G X : Value) (w : World) (o : Option Sg) (e : Ending) (w' : World) : Prop :=
 ∃ vo vb vc vf zo zb zc zf s' b', e = .returned (.tuple #[]) ∧ IRow w' w.heap.size vo zo ∧ IRow w' w.heap.size vb zb ∧ IRow w' w.heap.size vc zc ∧ IRow w' w.heap.size vf zf ∧ RKeep R w w' ∧
  s'.length ≤ s.length ∧ TK w' R s' b' [M, N, L, G, vo, vb, vc, vf, X] ∧ o = if b' = true then none else some ((zo, zb, zc, zf), s')
set_option maxRecDepth 10000 in
set_option maxHeartbeats 4000000 in
theorem tcols_any (R gm cm : Nat) (s : Ag.Bs) (bad : Bool) (m : List Nat) (N L G X x4 x5 x6 x7 : Value) (w : World) (h : TK w R s bad [.slice (some ⟨gm, 0, none⟩) 9 cm, N, L, G, x4, x5, x6, x7, X]) (hMw : Mw w R gm m) (hs : s.length ≤ 40000) :
  Calls Tryz.prog 45 #[.pointer (some ⟨R, 0, none⟩)] w (TColsP R s (.slice (some ⟨gm, 0, none⟩) 9 cm) N L G X w (if bad = true then none else Ag.sigsS m s)) := by
 have HRZ : Hid (R < w.heap.size) := h.lt
 have HO0 : Hid ((if bad = true then none else Ag.sigsS m s) = if bad = true then none else match Ag.colS (Ag.ge m 3) s with | none => none | some (zo, r1) => sg1 m zo r1) := rfl
 generalize (if bad = true then none else Ag.sigsS m s) = O at *
 have hk0 := RKeep.refl R w
 have HS0 : Hid (s.length ≤ s.length) := Nat.le_refl _
 have HSL := Lib.hid hs
 clear hs
 go_enter Tryz.func45, Tryz.ntmps45
 have c2 : w.cell? ⟨R, 2, none⟩ = some (.slice (some ⟨gm, 0, none⟩) 9 cm) := h.cell 0
 obtain ⟨cm0, hm0⟩ := hMw.at 3 (by omega)
 have hC := tcol_any R s bad _ (Ag.ge m 3) w h (by have := HSL.out; have := HS0.out; omega) hm0
 obtain ⟨oc, hoc⟩ : ∃ oc, oc = (if bad = true then none else Ag.colS (Ag.ge m 3) s) := ⟨_, rfl⟩
 rw [← hoc] at hC
 have HC := Lib.hid hC
 have HOC := Lib.hid hoc
 clear hoc hC
 go_wp2_with fail
 refine HC.out.mono ?_
 intro e w1 hP
 rw [HOC.out] at hP
 obtain ⟨vo, zo, s1, b1, rfl, rowo, leno, lowo, ko, hs1, hT1, hq1⟩ := col_next HO0.out hP
 have HO1 := Lib.hid hq1
 clear hq1
 have HS1 : Hid (s1.length ≤ s.length) := Nat.le_trans hs1 HS0.out
 have io : IRow w1 w.heap.size vo zo := (⟨rowo, leno, lowo⟩ : IRow w1 w.heap.size vo zo).more hk0.size
 have qo := hk0.trans ko
 have c6 : w1.cell? ⟨R, 6, none⟩ = some x4 := hT1.cell 4
 have f6 := hT1.fz 6
 have hMw1 := hMw.keep ko
 clear c2 cm0 hm0 HC HOC hP rowo leno lowo h hMw HO0 hk0 hs1
 obtain ⟨Ao, cco, hsl⟩ := row_slice io.row
 subst hsl
 have hU := hT1.put 4 (.slice Ao zo.length cco)
 simp only [List.set_cons_succ, List.set_cons_zero] at hU
 have hK := (RKeep.refl R w1).set (p := ⟨R, 6, none⟩) rfl (.slice Ao zo.length cco)
 have hk1 := qo.set (p := ⟨R, 6, none⟩) rfl (.slice Ao zo.length cco)
 have hMx := hMw1.keep hK
 replace io := io.keep hK HRZ.out
 go_upto_region 1 with fail
 clear c6 f6 hT1 qo ko hK hMw1
 generalize w1.setCell ⟨R, 6, none⟩ (.slice Ao zo.length cco) = V1 at *
 have hT_0 := hU
 have hM_0 := hMx
 clear hU hMx
 have c2 : V1.cell? ⟨R, 2, none⟩ = some (.slice (some ⟨gm, 0, none⟩) 9 cm) := hT_0.cell 0
 obtain ⟨cm1, hm1⟩ := hM_0.at 5 (by omega)
 have hC := tcol_any R s1 b1 _ (Ag.ge m 5) V1 hT_0 (by have := HSL.out; have := HS1.out; omega) hm1
 obtain ⟨oc, hoc⟩ : ∃ oc, oc = (if b1 = true then none else Ag.colS (Ag.ge m 5) s1) := ⟨_, rfl⟩
 rw [← hoc] at hC
 have HC := Lib.hid hC
 have HOC := Lib.hid hoc
 clear hoc hC
 go_wp2_with fail
 refine HC.out.mono ?_
 intro e w2 hP
 rw [HOC.out] at hP
 obtain ⟨vb, zb, s2, b2, rfl, rowb, lenb, lowb, kb, hs2, hT2, hq2⟩ := col_next HO1.out hP
 have HO2 := Lib.hid hq2
 clear hq2
 have HS2 : Hid (s2.length ≤ s.length) := Nat.le_trans hs2 HS1.out
 have ib : IRow w2 w.heap.size vb zb := (⟨rowb, lenb, lowb⟩ : IRow w2 V1.heap.size vb zb).more hk1.size
 have qb := hk1.trans kb
 have c6 : w2.cell? ⟨R, 7, none⟩ = some x5 := hT2.cell 5
 have f6 := hT2.fz 7
 have hMw2 := hM_0.keep kb
 replace io := io.keep kb HRZ.out
 clear c2 cm1 hm1 HC HOC hP rowb lenb lowb hT_0 hM_0 HO1 hk1 hs2
 obtain ⟨Ab, ccb, hsl⟩ := row_slice ib.row
 subst hsl
 have hU := hT2.put 5 (.slice Ab zb.length ccb)
 simp only [List.set_cons_succ, List.set_cons_zero] at hU
 have hK := (RKeep.refl R w2).set (p := ⟨R, 7, none⟩) rfl (.slice Ab zb.length ccb)
 have hk2 := qb.set (p := ⟨R, 7, none⟩) rfl (.slice Ab zb.length ccb)
 have hMx := hMw2.keep hK
 replace io := io.keep hK HRZ.out
 replace ib := ib.keep hK HRZ.out
 go_upto_region 2 with fail
 clear c6 f6 hT2 qb kb hK hMw2
 generalize w2.setCell ⟨R, 7, none⟩ (.slice Ab zb.length ccb) = V2 at *
 have hT_1 := hU
 have hM_1 := hMx
 clear hU hMx
 have c2 : V2.cell? ⟨R, 2, none⟩ = some (.slice (some ⟨gm, 0, none⟩) 9 cm) := hT_1.cell 0
 obtain ⟨cm2, hm2⟩ := hM_1.at 6 (by omega)
 have hC := tcol_any R s2 b2 _ (Ag.ge m 6) V2 hT_1 (by have := HSL.out; have := HS2.out; omega) hm2
 obtain ⟨oc, hoc⟩ : ∃ oc, oc = (if b2 = true then none else Ag.colS (Ag.ge m 6) s2) := ⟨_, rfl⟩
 rw [← hoc] at hC
 have HC := Lib.hid hC
 have HOC := Lib.hid hoc
 clear hoc hC
 go_wp2_with fail
 refine HC.out.mono ?_
 intro e w3 hP
 rw [HOC.out] at hP
 obtain ⟨vc, zc, s3, b3, rfl, rowc, lenc, lowc, kc, hs3, hT3, hq3⟩ := col_next HO2.out hP
 have HO3 := Lib.hid hq3
 clear hq3
 have HS3 : Hid (s3.length ≤ s.length) := Nat.le_trans hs3 HS2.out
 have ic : IRow w3 w.heap.size vc zc := (⟨rowc, lenc, lowc⟩ : IRow w3 V2.heap.size vc zc).more hk2.size
 have qc := hk2.trans kc
 have c6 : w3.cell? ⟨R, 8, none⟩ = some x6 := hT3.cell 6
 have f6 := hT3.fz 8
 have hMw3 := hM_1.keep kc
 replace io := io.keep kc HRZ.out
 replace ib := ib.keep kc HRZ.out
 clear c2 cm2 hm2 HC HOC hP rowc lenc lowc hT_1 hM_1 HO2 hk2 hs3
 obtain ⟨Ac, ccc, hsl⟩ := row_slice ic.row
 subst hsl
 have hU := hT3.put 6 (.slice Ac zc.length ccc)
 simp only [List.set_cons_succ, List.set_cons_zero] at hU
 have hK := (RKeep.refl R w3).set (p := ⟨R, 8, none⟩) rfl (.slice Ac zc.length ccc)
 have hk3 := qc.set (p := ⟨R, 8, none⟩) rfl (.slice Ac zc.length ccc)
 have hMx := hMw3.keep hK
 replace io := io.keep hK HRZ.out
 replace ib := ib.keep hK HRZ.out
 replace ic := ic.keep hK HRZ.out
 go_upto_region 3 with fail
 clear c6 f6 hT3 qc kc hK hMw3
 generalize w3.setCell ⟨R, 8, none⟩ (.slice Ac zc.length ccc) = V3 at *
 have hT_2 := hU
 have hM_2 := hMx
 clear hU hMx
 have c2 : V3.cell? ⟨R, 2, none⟩ = some (.slice (some ⟨gm, 0, none⟩) 9 cm) := hT_2.cell 0
 obtain ⟨cm3, hm3⟩ := hM_2.at 8 (by omega)
 have hC := tcol_any R s3 b3 _ (Ag.ge m 8) V3 hT_2 (by have := HSL.out; have := HS3.out; omega) hm3
 obtain ⟨oc, hoc⟩ : ∃ oc, oc = (if b3 = true then none else Ag.colS (Ag.ge m 8) s3) := ⟨_, rfl⟩
 rw [← hoc] at hC
 have HC := Lib.hid hC
 have HOC := Lib.hid hoc
 clear hoc hC
 go_wp2_with fail
 refine HC.out.mono ?_
 intro e w4 hP
 rw [HOC.out] at hP
 obtain ⟨vf, zf, s4, b4, rfl, rowf, lenf, lowf, kf, hs4, hT4, hq4⟩ := col_next HO3.out hP
 have HO4 := Lib.hid hq4
 clear hq4
 have HS4 : Hid (s4.length ≤ s.length) := Nat.le_trans hs4 HS3.out
 have if_ : IRow w4 w.heap.size vf zf := (⟨rowf, lenf, lowf⟩ : IRow w4 V3.heap.size vf zf).more hk3.size
 have qf := hk3.trans kf
 have c6 : w4.cell? ⟨R, 9, none⟩ = some x7 := hT4.cell 7
 have f6 := hT4.fz 9
 have hMw4 := hM_2.keep kf
 replace io := io.keep kf HRZ.out
 replace ib := ib.keep kf HRZ.out
 replace ic := ic.keep kf HRZ.out
 clear c2 cm3 hm3 HC HOC hP rowf lenf lowf hT_2 hM_2 HO3 hk3 hs4
 obtain ⟨Af, ccf, hsl⟩ := row_slice if_.row
 subst hsl
 have hU := hT4.put 7 (.slice Af zf.length ccf)
 simp only [List.set_cons_succ, List.set_cons_zero] at hU
 have hK := (RKeep.refl R w4).set (p := ⟨R, 9, none⟩) rfl (.slice Af zf.length ccf)
 have hk4 := qf.set (p := ⟨R, 9, none⟩) rfl (.slice Af zf.length ccf)
 have hMx := hMw4.keep hK
 replace io := io.keep hK HRZ.out
 replace ib := ib.keep hK HRZ.out
 replace ic := ic.keep hK HRZ.out
 replace if_   := if_.keep hK HRZ.out
 go_wp2
 go_end0
 exact ⟨_, _, _, _, zo, zb, zc, zf, s4, b4, rfl, io, ib, ic, if_, hk4, HS4.out, hU, HO4.out⟩
end Go.Proofs.YtpejilhdhkmcjaaGreatDoor
