/- The reader of texts: so many literals. -/
import Derived.Test.YtpejilhdhkmcjaaGreatDoorJaAl
import Derived.Test.YtpejilhdhkmcjaaGreatDoorJaav
namespace Go.Proofs.YtpejilhdhkmcjaaGreatDoor
open Go.RowKit

theorem app_at (w : World) (base : Nat) (ty : TypeId) (v : Value) (n : Nat) (xs : List Value) (hown : w.ownsRow base 3 1 v n xs) (g off c : Nat) (x : Int) (hc : w.cell? ⟨g, off, none⟩ = some (.int .i64 x)) (hn : n ≤ 100000) (hbase : base ≤ w.heap.size) :
  ∃ v' w', (Builtin.append_ #[26, 26] ty #[v, .slice (some ⟨g, off, none⟩) 1 c]).run Tryz.prog w = .ok v' w' ∧ w'.ownsRow base 3 1 v' (n + 1) (xs ++ [.int .i64 x]) ∧ w.grownBy w' v.ownBlock ∧ (v'.ownBlock = v.ownBlock ∨ v'.ownBlock = some w.heap.size) := by
 have hcell : ∀ j u, ([.int .i64 x] : List Value)[j]? = some u → w.cell? ((⟨g, off, none⟩ : Addr).add j) = some u := by
  intro j u hj
  have hj0 : j = 0 := by
   have := (List.getElem?_eq_some_iff.1 hj).1
   simpa using this
  subst hj0
  simp at hj
  subst hj
  simpa [Addr.add] using hc
 have hbb : (n + 1) * 8 ≤ 140737488355328 := by omega
 obtain ⟨v', w', r1, r2, r3, _, r5⟩ := run_append_own_at (P := Tryz.prog) w base 26 ty 3 Tryz.t3 (.int .i64 0) 1 8 Tryz.underlying26 (by kernel_rfl) (by kernel_rfl) (by kernel_rfl) (by kernel_rfl) (by kernel_rfl) (by omega) v n xs hown ⟨g, off, none⟩ 1 c [.int .i64 x] rfl hcell (fun u hu => by simp at hu; subst hu; rfl) (by unfold maxLen; omega) hbb hbase
 exact ⟨v', w', r1, r2, r3, r5⟩
def colM (zs : List Int) (o : Option (List Int × Ag.Bs)) : Option (List Int × Ag.Bs) := match o with | none => none | some (ys, r) => some (zs ++ ys, r)
theorem open_nil (l : Ag.Bs) : Ag.openS [] l = Ag.numsS l := by
 unfold Ag.openS
 cases Ag.numsS l <;> simp
theorem col_step (zs : List Int) (m : Nat) (s : Ag.Bs) : colM zs (Ag.colS (m + 1) s) = match Ag.lineS s with | none => none | some (l, r) => match Ag.numsS l with | some [x] => colM (zs ++ [(x : Int)]) (Ag.colS m r) | _ => none := by
 rw [Ag.colS]
 cases Ag.lineS s with
 | none => rfl
 | some q =>
  obtain ⟨l, r⟩ := q
  simp only
  cases Ag.numsS l with
  | none => rfl
  | some ns =>
   match ns with
   | [] => rfl
   | [x] =>
    simp only
    cases Ag.colS m r with
    | none => rfl
    | some q => simp [colM]
   | a :: b :: t => rfl
/-- Literals are read, or the reading ends. -/
def ColP (R : Nat) (k : Int) (w : World) (o : Option (List Int × Ag.Bs)) (e : Ending) (w' : World) : Prop :=
 match o with
 | none => e = faultE k ∧ RKeep R w w'
 | some (zs, r) => ∃ v, e = .returned v ∧ w'.ownsRow w.heap.size 3 1 v zs.length (iv zs) ∧ RB w' R ⟨r.toArray⟩ k ∧ RKeep R w w'
set_option maxRecDepth 10000 in
set_option maxHeartbeats 4000000 in
theorem literals_any (R : Nat) (s : Ag.Bs) (k : Int) (B n : Nat) (w : World) (h : RB w R ⟨s.toArray⟩ k) (hs : s.length ≤ 100000) (hA : Amb B w) (hR : B ≤ R) (hn : n ≤ 2000) :
  Calls Tryz.prog 92 #[.pointer (some ⟨R, 0, none⟩), .int .i64 (n : Int)] w (ColP R k w (Ag.colS n s)) := by
 have HC0 : Hid (Ag.colS n s = colM [] (Ag.colS n s)) := by
  unfold Hid colM
  cases Ag.colS n s with
  | none => rfl
  | some q => rfl
 have HRZ : Hid (R < w.heap.size) := Blk.lt h
 obtain ⟨o, ho⟩ : ∃ o, o = Ag.colS n s := ⟨_, rfl⟩
 rw [← ho]
 have HO := Lib.hid (ho.trans HC0.out)
 clear ho HC0
 go_enter Tryz.func92, Tryz.ntmps92
 go_wp2
 go_loopw [5, 7] (fun v i wr => ∃ (j : Nat) (zs : List Int) (s' : Ag.Bs), j ≤ n ∧ zs.length = j ∧ i = .int .i64 (j : Int) ∧ o = colM zs (Ag.colS (n - j) s') ∧ s'.length ≤ 100000 ∧ wr.ownsRow w.heap.size 3 1 v zs.length (iv zs) ∧ RB wr R ⟨s'.toArray⟩ k ∧ RKeep R w wr) (fun _ i _ => n - (intOf i).toNat)
 case atStart => exact ⟨0, [], s, Nat.zero_le _, rfl, rfl, HO.out, hs, World.ownsRow_nil w _ _ _, h, RKeep.refl _ _⟩
 clear h
 obtain ⟨j, zs, s', hj, hzl, rfl, hco, hs', hrow, hrb, hk⟩ := hrel
 have HZL := Lib.hid hzl
 have HCO := Lib.hid hco
 clear hzl hco
 by_cases hlt : j < n
 ·
  have hjz : (j : Int) < (n : Int) := by omega
  obtain ⟨m, hm⟩ : ∃ m, n - j = m + 1 := ⟨n - j - 1, by omega⟩
  have HM := Lib.hid hm
  have HL := Lib.hid (rline_any R s' k B [] none 0 1 wr hrb hs' (hA.keep hk hR) hR (Or.inl ⟨rfl, rfl, rfl⟩))
  have HST := Lib.hid (col_step zs m s')
  clear hm
  go_wp2_with fail
  refine HL.out.mono ?_
  intro e w2 hP
  unfold LinesP at hP
  have HON : Hid (o = match Ag.lineS s' with | none => none | some (l, r) => match Ag.numsS l with | some [x] => colM (zs ++ [(x : Int)]) (Ag.colS m r) | _ => none) := by
   unfold Hid
   rw [HCO.out, HM.out, HST.out]
  cases hli : Ag.lineS s' with
  | none =>
   rw [hli] at hP HON
   obtain ⟨rfl, hk2⟩ := hP
   have HE : o = none := HON.out
   exact ⟨rfl, by rw [HE]; exact ⟨rfl, hk.trans hk2⟩⟩
  | some q =>
   obtain ⟨l, r⟩ := q
   have hll := congrArg List.length (Ag.line_some hli).1
   simp at hll
   rw [hli] at hP HON
   simp only at hP HON
   rw [open_nil] at hP
   cases hnu : Ag.numsS l with
   | none =>
    rw [hnu] at hP HON
    obtain ⟨rfl, hk2⟩ := hP
    have HE : o = none := HON.out
    exact ⟨rfl, by rw [HE]; exact ⟨rfl, hk.trans hk2⟩⟩
   | some ns =>
    rw [hnu] at hP HON
    simp only at hP
    match ns, hP, HON with
    | [], hP, HON =>
     rw [if_neg (by simp)] at hP
     obtain ⟨rfl, hk2⟩ := hP
     have HE : o = none := HON.out
     exact ⟨rfl, by rw [HE]; exact ⟨rfl, hk.trans hk2⟩⟩
    | a :: b :: t, hP, HON =>
     rw [if_neg (by simp)] at hP
     obtain ⟨rfl, hk2⟩ := hP
     have HE : o = none := HON.out
     exact ⟨rfl, by rw [HE]; exact ⟨rfl, hk.trans hk2⟩⟩
    | [x], hP, HON =>
     rw [if_pos (by simp)] at hP
     obtain ⟨g, off, c1, rfl, hg, hV, hrb2, hk2⟩ := hP
     have hc := (vs_at hV 0 (by simp)).1
     simp only [Nat.add_zero, List.getElem_cons_zero] at hc
     have hrow2 : w2.ownsRow w.heap.size 3 1 u5 zs.length (iv zs) := by
      refine ⟨hrow.1, ?_⟩
      rcases hrow.2 with h2 | ⟨g', cap, cur, he, hbs, hh, rr⟩
      ·
       exact Or.inl h2
      exact Or.inr ⟨g', cap, cur, he, hbs, (hk2.blk g' (Blk.lt (t := 3) hh) (by have := HRZ.out; omega)).trans hh, rr⟩
     have hkt := hk.trans hk2
     have HRUN : Hid (∀ ty, ∃ v' w', (Builtin.append_ #[26, 26] ty #[u5, .slice (some ⟨g, off, none⟩) 1 c1]).run Tryz.prog w2 = .ok v' w' ∧ (w'.ownsRow w.heap.size 3 1 v' (zs.length + 1) (iv zs ++ [.int .i64 (x : Int)]) ∧ w2.grownBy w' u5.ownBlock)) := by
      intro ty
      obtain ⟨v', w', r1, r2, r3, _⟩ := app_at w2 w.heap.size ty u5 zs.length _ hrow2 g off c1 (x : Int) hc (by have := HZL.out; omega) hkt.size
      exact ⟨v', w', r1, r2, r3⟩
     have HRB := Lib.hid (row_base hrow2)
     clear hrow hrow2 hk hk2 hV hc hrb HL HST HCO
     go_wp2_with (at_builtin; go_loud (refine wpList_app rfl (.tmp 9) (.tmp 11) 26 rfl _ _ rfl rfl _ HRUN.out ?_); intro v' W4 hR4)
     have hrb4 := hrb2.grown hR4.2 (fun e => by have := HRB.out R e.symm; have := HRZ.out; omega)
     have hk4 := hkt.grown hR4.2 (fun g e => HRB.out g e)
     have hrow4 : W4.ownsRow w.heap.size 3 1 v' (zs ++ [(x : Int)]).length (iv (zs ++ [(x : Int)])) := by
      have e : iv (zs ++ [(x : Int)]) = iv zs ++ [.int .i64 (x : Int)] := by simp [iv]
      rw [e, List.length_append]
      exact hR4.1
     refine ⟨⟨j + 1, zs ++ [(x : Int)], r, by omega, by simp [HZL.out], by simp, ?_, by omega, hrow4, hrb4, hk4⟩, by simp [intOf]; omega⟩
     rw [HON.out]
     have := HM.out
     rw [show n - (j + 1) = m by omega]
 obtain rfl : j = n := by omega
 have HE : Hid (o = some (zs, s')) := by
  unfold Hid
  rw [HCO.out, Nat.sub_self, Ag.colS]
  simp [colM]
 go_wp2
 go_ret
 rw [HE.out]
 exact ⟨_, rfl, hrow, hrb, hk⟩
end Go.Proofs.YtpejilhdhkmcjaaGreatDoor
/- The reader of texts: a name. -/
namespace Go.Proofs.YtpejilhdhkmcjaaGreatDoor
open Go.RowKit

/-- A name is told, or the reading ends. -/
def NameP (R : Nat) (s : ByteArray) (k : Int) (w : World) (o : Option Nm) (e : Ending) (w' : World) : Prop :=
 match o with
 | none => e = faultE k ∧ RKeep R w w'
 | some x => e = .returned (.agg #[.int .u8 x.1, .int .i64 x.2.1, .string x.2.2]) ∧ RB w' R s k ∧ RKeep R w w'
theorem index_two (r : Ag.Bs) : (Ag.wordsS r = [r] ∧ decide (0 ≤ Lib.indexByte r 32) = false) ∨ ((∀ tx, Ag.wordsS r ≠ [tx]) ∧ decide (0 ≤ Lib.indexByte r 32) = true) := by
 rcases Ag.first_blank r with hp | ⟨p, q, rfl, hp⟩
 ·
  refine Or.inl ⟨Ag.words_one hp, ?_⟩
  have := Ag.index_plain hp
  rw [Lib.index_one] at this
  rw [this]
  rfl
 refine Or.inr ⟨?_, ?_⟩
 ·
  intro tx e
  rw [Ag.words_cons hp] at e
  injection e with _ e
  exact Ag.words_ne q e
 have := Ag.index_at hp q
 rw [Lib.index_one] at this
 rw [this]
 exact decide_eq_true (by omega)
theorem name_more {l p : Ag.Bs} {ws : List Ag.Bs} (h : Ag.wordsS l = p :: ws) (hw : p = [] ∨ ∀ tx, ws ≠ [tx]) : Ag.nameS l = none := by
 unfold Ag.nameS
 rw [h]
 split
 ·
  rename_i k ds tx e
  injection e with e1 e2
  rcases hw with rfl | hw
  ·
   cases e1
  exact absurd e2 (hw tx)
 rfl
theorem name_two {l ds tx : Ag.Bs} {b : UInt8} (h : Ag.wordsS l = [b :: ds, tx]) : Ag.nameS l = match Ag.digL ds with | some a => some ((b.toNat : Int), (a : Int), ⟨tx.toArray⟩) | none => none := by
 unfold Ag.nameS
 rw [h]
 rfl
set_option maxRecDepth 10000 in
set_option maxHeartbeats 8000000 in
theorem rname_any (R : Nat) (s : ByteArray) (l : Ag.Bs) (k : Int) (B : Nat) (w : World) (h : RB w R s k) (hl : l.length ≤ 100000) (hA : Amb B w) (hR : B ≤ R) :
  Calls Tryz.prog 94 #[.pointer (some ⟨R, 0, none⟩), .string ⟨l.toArray⟩] w (NameP R s k w (Ag.nameS l)) := by
 have hnot : ∀ (x : Bool) (w : World), (Op.unary .not (.bool x)).run Tryz.prog w = .ok (.bool (!x)) w := fun _ _ => rfl
 have hsz : (⟨l.toArray⟩ : ByteArray).size = l.length := by simp [ByteArray.size]
 have lo := lowAlloc w (Obj.cells #[.int .u8 0, .int .i64 0, .string ⟨#[]⟩] 69)
 have hbx := Blk.new w 69 #[.int .u8 0, .int .i64 0, .string ⟨#[]⟩]
 have hk0 := (RKeep.refl R w).below lo
 have hrb0 : RB (w.alloc (Obj.cells #[.int .u8 0, .int .i64 0, .string ⟨#[]⟩] 69)) R s k := Blk.alloc h _
 have hA0 := hA.on (lo.mono hA.le)
 have hR0 : R < w.heap.size := Blk.lt h
 obtain ⟨m, hm⟩ := hA0.ml
 have HCU := Lib.hid (Tryz.strings_Cut ⟨l.toArray⟩ ⟨#[32]⟩ m _ (by omega) hm)
 rw [show ((⟨l.toArray⟩ : ByteArray).data.toList) = l from rfl, show ((⟨#[32]⟩ : ByteArray).data.toList) = [32] from rfl] at HCU
 have HN1 : Hid (∀ (p : Ag.Bs) (ws : List Ag.Bs), Ag.wordsS l = p :: ws → (p = [] ∨ ∀ tx, ws ≠ [tx]) → Ag.nameS l = none) := fun p ws h hw => name_more h hw
 have HN2 : Hid (∀ (b : UInt8) (ds tx : Ag.Bs), Ag.wordsS l = [b :: ds, tx] → Ag.nameS l = (match Ag.digL ds with | some a => some ((b.toNat : Int), (a : Int), ⟨tx.toArray⟩) | none => none)) := fun b ds tx h => name_two h
 generalize Ag.nameS l = o at *
 clear hm h
 go_enter Tryz.func94, Tryz.ntmps94
 go_wp2_with fail
 generalize w.alloc (Obj.cells #[.int .u8 0, .int .i64 0, .string ⟨#[]⟩] 69) = W at *
 refine HCU.out.mono ?_
 rintro e w1 ⟨rfl, q1, hw1⟩
 have hrb1 : RB w1 R s k := by rw [hw1]; exact hrb0
 have hbx1 : Blk w1 w.heap.size 69 #[.int .u8 0, .int .i64 0, .string ⟨#[]⟩] := by rw [hw1]; exact hbx
 have hk1 : RKeep R w w1 := by rw [hw1]; exact ⟨hk0.os, hk0.tape, hk0.output, hk0.size, hk0.blk⟩
 have hA1 : Amb B w1 := hA.keep hk1 hR
 clear hw1 HCU hrb0 hbx hk0 hA0 lo
 rcases Ag.cut_words (l := l) with ⟨e1, e2⟩ | ⟨p, r, e1, e2, e3⟩
 ·
  rw [e1]
  have HE : Hid (o = none) := HN1.out l [] e2 (Or.inr (fun tx e => by cases e))
  simp only
  go_wp2_with fail
  refine (Need_bad R _ k w1 hrb1).mono ?_
  rintro e w2 ⟨rfl, rfl⟩
  exact ⟨rfl, by rw [HE.out]; exact ⟨rfl, hk1⟩⟩
 rw [e1]
 simp only
 have hpl : p.length + r.length + 1 = l.length := by rw [e3]; simp; omega
 clear e1 e3
 cases p with
 | nil =>
  have HE : Hid (o = none) := HN1.out _ _ e2 (Or.inl rfl)
  go_wp2_with fail
  refine (Need_bad R _ k w1 hrb1).mono ?_
  rintro e w2 ⟨rfl, rfl⟩
  exact ⟨rfl, by rw [HE.out]; exact ⟨rfl, hk1⟩⟩
 | cons b ds =>
  have HCO := Lib.hid (Tryz.strings_Contains_one ⟨r.toArray⟩ 32 w1)
  rw [show ((⟨r.toArray⟩ : ByteArray).data.toList) = r from rfl] at HCO
  have hps : (0 : Int) < ((⟨(b :: ds).toArray⟩ : ByteArray).size : Int) := by simp [ByteArray.size]
  have hpd : decide ((0 : Int) < ((⟨(b :: ds).toArray⟩ : ByteArray).size : Int)) = true := decide_eq_true hps
  rcases index_two r with ⟨i1, i2⟩ | ⟨i1, i2⟩
  ·
   rw [i2] at HCO
   go_wp2_with fail
   refine HCO.out.mono ?_
   rintro e w2 ⟨rfl, rfl⟩
   go_wp2_with fail
   refine (Need_ok R _ k w2 hrb1).mono ?_
   rintro e w3 ⟨rfl, rfl⟩
   have HNX := Lib.hid (fun (V : World) (hb : RB V R s k) (ha : Amb B V) => rnumber_any R s ds k B V hb (by simp at hpl; omega) ha)
   rw [← extract_tail b ds] at HNX
   have HE2 := Lib.hid (HN2.out b ds r (by rw [e2, i1]))
   have HTS : Hid (0 < (⟨(b :: ds).toArray⟩ : ByteArray).size ∧ (⟨(b :: ds).toArray⟩ : ByteArray).size ≤ 100001) := by
    refine ⟨by simp [ByteArray.size], ?_⟩
    simp at hpl
    simp [ByteArray.size]
    omega
   have HT0 : Hid (∀ h, ((⟨(b :: ds).toArray⟩ : ByteArray)[0]'h).toNat = b.toNat) := fun _ => rfl
   clear hps hpd
   generalize (⟨(b :: ds).toArray⟩ : ByteArray) = t at *
   have hts := HTS.out.1
   have hts2 := HTS.out.2
   have hrbd : RB w2.drew R s k := hrb1
   have hAd : Amb B w2.drew := hA1.on ((Below.refl B w2).drew)
   have h1z : (1 : Int) ≤ (t.size : Int) := by omega
   go_upto_region 3 with fail
   refine wp_region_held_drew (S := fun _ => True) (by kernel_rfl) trivial (fun hHeld => ?_)
   refine wpAnyH_take (i := 0) (oi := ⟨some 27, _, _, _, _, _⟩) (v := ?_) rfl (by kernel_rfl) (by kernel_rfl) (by kernel_rfl) (fun _ _ _ h => h) (Or.inl ⟨by rfl, ?_⟩) hHeld ?_
   rotate_left
   ·
    intro w hSw
    (try dsimp only at hSw)
    first | (go_simp; done) | (go_simp; with_reducible rfl) | with_reducible rfl
   try simp only [Act.put, zA, zB, zC]
   refine wpAnyH_take (i := 1) (oi := ⟨some 28, _, _, _, _, _⟩) (v := ?_) rfl (by kernel_rfl) (by kernel_rfl) (by kernel_rfl) (fun _ _ _ h => h) (Or.inl ⟨by rfl, ?_⟩) hHeld ?_
   rotate_left
   ·
    intro w hSw
    (try dsimp only at hSw)
    first | (go_simp; done) | (go_simp; with_reducible rfl) | with_reducible rfl
   try simp only [Act.put, zA, zB, zC]
   refine wpAnyH_take (i := 2) (oi := ⟨some 29, _, _, _, _, _⟩) (v := ?_) rfl (by kernel_rfl) (by kernel_rfl) (by kernel_rfl) (fun _ _ _ h => h) (Or.inl ⟨by rfl, ?_⟩) hHeld ?_
   rotate_left
   ·
    intro w hSw
    (try dsimp only at hSw)
    first | (go_simp; done) | (go_simp; with_reducible rfl) | with_reducible rfl
   try simp only [Act.put, zA, zB, zC]
   refine wpAnyH_take (i := 3) (oi := ⟨some 30, _, _, _, _, _⟩) (v := ?_) rfl (by kernel_rfl) (by kernel_rfl) (by kernel_rfl) (fun _ _ _ h => h) (Or.inl ⟨by rfl, ?_⟩) hHeld ?_
   rotate_left
   ·
    intro w hSw
    (try dsimp only at hSw)
    first | (go_simp; done) | (go_simp; with_reducible rfl) | with_reducible rfl
   try simp only [Act.put, zA, zB, zC]
   refine wpAnyH_take (i := 4) (oi := ⟨some 31, _, _, _, _, _⟩) (v := ?_) rfl (by kernel_rfl) (by kernel_rfl) (by kernel_rfl) (fun _ _ _ h => h) (Or.inl ⟨by rfl, ?_⟩) hHeld ?_
   rotate_left
   ·
    intro w hSw
    (try dsimp only at hSw)
    first | (go_simp; done) | (go_simp; with_reducible rfl) | with_reducible rfl
   try simp only [Act.put, zA, zB, zC]
   refine wpAnyH_take (i := 6) (oi := ⟨some 33, _, _, _, _, _⟩) (v := ?_) rfl (by kernel_rfl) (by kernel_rfl) (by kernel_rfl) (fun _ _ _ h => h) (Or.inl ⟨by rfl, ?_⟩) hHeld ?_
   rotate_left
   ·
    intro w hSw
    (try dsimp only at hSw)
    first | (go_simp; done) | (go_simp; with_reducible rfl) | with_reducible rfl
   try simp only [Act.put, zA, zB, zC]
   refine wpAnyH_ready (rs := [5]) (by kernel_rfl) (by simp) ?_
   refine AllReadyH.cons (o := ⟨some 32, _, _, _, _, _⟩) rfl (fun K hK => ?_) AllReadyH.nil
   go_simp
   refine (HNX.out w2.drew hrbd hAd).mono ?_
   intro e w3 hP
   unfold NumP at hP
   cases hdg : Ag.digL ds with
   | none =>
    rw [hdg] at hP HE2
    obtain ⟨rfl, hb3⟩ := hP
    have hk3 : RKeep R w w3 := hk1.below (show Below w2.heap.size w2 w3 from ⟨hb3.os, hb3.tape, hb3.output, hb3.size, hb3.block⟩)
    exact ⟨rfl, by rw [HE2.out]; exact ⟨rfl, hk3⟩⟩
   | some n =>
    rw [hdg] at hP HE2
    obtain ⟨rfl, hb3⟩ := hP
    have hb3' : Below w2.heap.size w2 w3 := ⟨hb3.os, hb3.tape, hb3.output, hb3.size, hb3.block⟩
    have hk3 := hk1.below hb3'
    have hrb3 : RB w3 R s k := Blk.below hrb1 hb3' (Blk.lt hrb1)
    have hbx3 := hbx1.below hb3' hbx1.lt
    have x0 := hbx3.cell 0
    have x1 := hbx3.cell 1
    have x2 := hbx3.cell 2
    have f0 := hbx3.frozen 0
    have f1 := hbx3.frozen 1
    have f2 := hbx3.frozen 2
    simp only [zD, zE, zF] at x0 x1 x2
    have ht0 := HT0.out hts
    refine hK.out _ _ trivial (fun hHeld => ?_)
    clear hK K
    try simp only [Act.put, zA, zB, zC]
    refine wpAnyH_take (i := 7) (oi := ⟨some 34, _, _, _, _, _⟩) (v := ?_) rfl (by kernel_rfl) (by kernel_rfl) (by kernel_rfl) (fun _ _ _ h => h) (Or.inl ⟨by rfl, ?_⟩) hHeld ?_
    rotate_left
    ·
     intro w hSw
     (try dsimp only at hSw)
     first | (go_simp; done) | (go_simp; with_reducible rfl) | with_reducible rfl
    try simp only [Act.put, zA, zB, zC]
    refine wpAnyH_ready (rs := [8]) (by kernel_rfl) (by simp) ?_
    refine AllReadyH.cons (o := ⟨none, _, _, _, _, _⟩) rfl (fun K hK => ?_) AllReadyH.nil
    go_simp
    refine hK.out _ _ trivial (fun hHeld => ?_)
    clear hK K
    try simp only [Act.put, zA, zB, zC]
    refine wpAnyH_done (by kernel_rfl) ?_ _
    have hbx5 : Blk (((w3.setCell ⟨w.heap.size, 0, none⟩ (.int .u8 (b.toNat : Int))).setCell ⟨w.heap.size, 1, none⟩ (.int .i64 (n : Int))).setCell ⟨w.heap.size, 2, none⟩ (.string ⟨r.toArray⟩)) w.heap.size 69 #[.int .u8 (b.toNat : Int), .int .i64 (n : Int), .string ⟨r.toArray⟩] := ((hbx3.put 0 (.int .u8 (b.toNat : Int))).put 1 (.int .i64 (n : Int))).put 2 (.string ⟨r.toArray⟩)
    have hk5 : RKeep R w (((w3.setCell ⟨w.heap.size, 0, none⟩ (.int .u8 (b.toNat : Int))).setCell ⟨w.heap.size, 1, none⟩ (.int .i64 (n : Int))).setCell ⟨w.heap.size, 2, none⟩ (.string ⟨r.toArray⟩)) := ((hk3.far (p := ⟨w.heap.size, 0, none⟩) (Nat.le_refl _) _).far (p := ⟨w.heap.size, 1, none⟩) (Nat.le_refl _) _).far (p := ⟨w.heap.size, 2, none⟩) (Nat.le_refl _) _
    have hrb5 : RB (((w3.setCell ⟨w.heap.size, 0, none⟩ (.int .u8 (b.toNat : Int))).setCell ⟨w.heap.size, 1, none⟩ (.int .i64 (n : Int))).setCell ⟨w.heap.size, 2, none⟩ (.string ⟨r.toArray⟩)) R s k := ((hrb3.far (p := ⟨w.heap.size, 0, none⟩) (by simp only; omega) _).far (p := ⟨w.heap.size, 1, none⟩) (by simp only; omega) _).far (p := ⟨w.heap.size, 2, none⟩) (by simp only; omega) _
    clear x0 x1 x2 f0 f1 f2
    generalize (((w3.setCell ⟨w.heap.size, 0, none⟩ (.int .u8 (b.toNat : Int))).setCell ⟨w.heap.size, 1, none⟩ (.int .i64 (n : Int))).setCell ⟨w.heap.size, 2, none⟩ (.string ⟨r.toArray⟩)) = W5 at *
    have r0 := hbx5.cell 0
    have r1 := hbx5.cell 1
    have r2 := hbx5.cell 2
    simp only [zD, zE, zF] at r0 r1 r2
    go_wp2
    exact bodyPost_ret (v := .agg #[.int .u8 (b.toNat : Int), .int .i64 (n : Int), .string ⟨r.toArray⟩]) (by simp [results, Tryz.results94, go_sem, r0, r1, r2]) rfl (by rw [HE2.out]; exact ⟨rfl, hrb5, hk5⟩)
  rw [i2] at HCO
  have HE : Hid (o = none) := HN1.out _ _ e2 (Or.inr i1)
  go_wp2_with fail
  refine HCO.out.mono ?_
  rintro e w2 ⟨rfl, rfl⟩
  go_wp2_with fail
  refine (Need_bad R _ k w2 hrb1).mono ?_
  rintro e w3 ⟨rfl, rfl⟩
  exact ⟨rfl, by rw [HE.out]; exact ⟨rfl, hk1⟩⟩
end Go.Proofs.YtpejilhdhkmcjaaGreatDoor
