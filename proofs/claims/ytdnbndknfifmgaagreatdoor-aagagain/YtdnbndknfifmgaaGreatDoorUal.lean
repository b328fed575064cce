/- The reader of texts: a name. -/
import Derived.Test.YtdnbndknfifmgaaGreatDoorUak
import Derived.Test.YtdnbndknfifmgaaGreatDoorUaj
namespace Go.Proofs.YtdnbndknfifmgaaGreatDoor
open Go.RowKit

/-- A name is told, or the reading ends. -/
def NameP (R : Nat) (s : ByteArray) (k : Int) (w : World) (o : Option Nm) (e : Ending) (w' : World) : Prop :=
  match o with
  | none => e = faultE k ∧ RKeep R w w'
  | some x => e = .returned (.agg #[.int .u8 x.1, .int .i64 x.2.1, .string x.2.2]) ∧ RB w' R s k ∧ RKeep R w w'
theorem index_two (r : Ag.Bs) : (Ag.wordsS r = [r] ∧ decide (0 ≤ Lib.indexByte r 32) = false) ∨ ((∀ tx, Ag.wordsS r ≠ [tx]) ∧ decide (0 ≤ Lib.indexByte r 32) = true) := by
  rcases Ag.first_blank r with hp | ⟨p, q, rfl, hp⟩
  · refine Or.inl ⟨Ag.words_one hp, ?_⟩
    have := Ag.index_plain hp
    rw [Lib.index_one] at this
    rw [this]
    rfl
  · refine Or.inr ⟨?_, ?_⟩
    · intro tx e
      rw [Ag.words_cons hp] at e
      injection e with _ e
      exact Ag.words_ne q e
    · have := Ag.index_at hp q
      rw [Lib.index_one] at this
      rw [this]
      exact decide_eq_true (by omega)
theorem name_more {l p : Ag.Bs} {ws : List Ag.Bs} (h : Ag.wordsS l = p :: ws) (hw : p = [] ∨ ∀ tx, ws ≠ [tx]) : Ag.nameS l = none := by
  unfold Ag.nameS
  rw [h]
  split
  · rename_i k ds tx e
    injection e with e1 e2
    rcases hw with rfl | hw
    · cases e1
    · exact absurd e2 (hw tx)
  · rfl
theorem name_two {l ds tx : Ag.Bs} {b : UInt8} (h : Ag.wordsS l = [b :: ds, tx]) : Ag.nameS l = match Ag.digL ds with | some a => some ((b.toNat : Int), (a : Int), ⟨tx.toArray⟩) | none => none := by
  unfold Ag.nameS
  rw [h]
  rfl
set_option maxRecDepth 10000 in
set_option maxHeartbeats 8000000 in
theorem rname_any (R : Nat) (s : ByteArray) (l : Ag.Bs) (k : Int) (B : Nat) (w : World) (h : RB w R s k) (hl : l.length ≤ 100000) (hA : Amb B w) (hR : B ≤ R) :
    Calls Tryz.prog 94 #[.pointer (some ⟨R, 0, none⟩), .string ⟨l.toArray⟩] w (NameP R s k w (Ag.nameS l)) := by
  have hnot : ∀ (x : Bool) (w : World), (Op.unary .not (.bool x)).run Tryz.prog w = .ok (.bool (!x)) w := fun _ _ => rfl
  have hsz : (⟨l.toArray⟩ : ByteArray).size = l.length := by simp [ByteArray.size]
  have lo := lowAlloc w (Obj.cells #[.int .u8 0, .int .i64 0, .string ⟨#[]⟩] 69)
  have hbx := Blk.new w 69 #[.int .u8 0, .int .i64 0, .string ⟨#[]⟩]
  have hk0 := (RKeep.refl R w).below lo
  have hrb0 : RB (w.alloc (Obj.cells #[.int .u8 0, .int .i64 0, .string ⟨#[]⟩] 69)) R s k := Blk.alloc h _
  have hA0 := hA.on (lo.mono hA.le)
  have hR0 : R < w.heap.size := Blk.lt h
  obtain ⟨m, hm⟩ := hA0.ml
  have HCU := Lib.hid (Tryz.strings_Cut ⟨l.toArray⟩ ⟨#[32]⟩ m _ (by omega) hm)
  rw [show ((⟨l.toArray⟩ : ByteArray).data.toList) = l from rfl, show ((⟨#[32]⟩ : ByteArray).data.toList) = [32] from rfl] at HCU
  have HN1 : Hid (∀ (p : Ag.Bs) (ws : List Ag.Bs), Ag.wordsS l = p :: ws → (p = [] ∨ ∀ tx, ws ≠ [tx]) → Ag.nameS l = none) := fun p ws h hw => name_more h hw
  have HN2 : Hid (∀ (b : UInt8) (ds tx : Ag.Bs), Ag.wordsS l = [b :: ds, tx] → Ag.nameS l = (match Ag.digL ds with | some a => some ((b.toNat : Int), (a : Int), ⟨tx.toArray⟩) | none => none)) := fun b ds tx h => name_two h
  generalize Ag.nameS l = o at *
  clear hm h
  go_enter Tryz.func94, Tryz.ntmps94
  go_wp2_with fail
  generalize w.alloc (Obj.cells #[.int .u8 0, .int .i64 0, .string ⟨#[]⟩] 69) = W at *
  refine HCU.out.mono ?_
  rintro e w1 ⟨rfl, q1, hw1⟩
  have hrb1 : RB w1 R s k := by rw [hw1]; exact hrb0
  have hbx1 : Blk w1 w.heap.size 69 #[.int .u8 0, .int .i64 0, .string ⟨#[]⟩] := by rw [hw1]; exact hbx
  have hk1 : RKeep R w w1 := by rw [hw1]; exact ⟨hk0.os, hk0.tape, hk0.output, hk0.size, hk0.blk⟩
  have hA1 : Amb B w1 := hA.keep hk1 hR
  clear hw1 HCU hrb0 hbx hk0 hA0 lo
  rcases Ag.cut_words (l := l) with ⟨e1, e2⟩ | ⟨p, r, e1, e2, e3⟩
  · rw [e1]
    have HE : Hid (o = none) := HN1.out l [] e2 (Or.inr (fun tx e => by cases e))
    simp only
    go_wp2_with fail
    refine (Need_bad R _ k w1 hrb1).mono ?_
    rintro e w2 ⟨rfl, rfl⟩
    exact ⟨rfl, by rw [HE.out]; exact ⟨rfl, hk1⟩⟩
  · rw [e1]
    simp only
    have hpl : p.length + r.length + 1 = l.length := by rw [e3]; simp; omega
    clear e1 e3
    cases p with
    | nil =>
      have HE : Hid (o = none) := HN1.out _ _ e2 (Or.inl rfl)
      go_wp2_with fail
      refine (Need_bad R _ k w1 hrb1).mono ?_
      rintro e w2 ⟨rfl, rfl⟩
      exact ⟨rfl, by rw [HE.out]; exact ⟨rfl, hk1⟩⟩
    | cons b ds =>
      have HCO := Lib.hid (Tryz.strings_Contains_one ⟨r.toArray⟩ 32 w1)
      rw [show ((⟨r.toArray⟩ : ByteArray).data.toList) = r from rfl] at HCO
      have hps : (0 : Int) < ((⟨(b :: ds).toArray⟩ : ByteArray).size : Int) := by simp [ByteArray.size]
      have hpd : decide ((0 : Int) < ((⟨(b :: ds).toArray⟩ : ByteArray).size : Int)) = true := decide_eq_true hps
      rcases index_two r with ⟨i1, i2⟩ | ⟨i1, i2⟩
      · rw [i2] at HCO
        go_wp2_with fail
        refine HCO.out.mono ?_
        rintro e w2 ⟨rfl, rfl⟩
        go_wp2_with fail
        refine (Need_ok R _ k w2 hrb1).mono ?_
        rintro e w3 ⟨rfl, rfl⟩
        have HNX := Lib.hid (fun (V : World) (hb : RB V R s k) (ha : Amb B V) => rnumber_any R s ds k B V hb (by simp at hpl; omega) ha)
        rw [← extract_tail b ds] at HNX
        have HE2 := Lib.hid (HN2.out b ds r (by rw [e2, i1]))
        have HTS : Hid (0 < (⟨(b :: ds).toArray⟩ : ByteArray).size ∧ (⟨(b :: ds).toArray⟩ : ByteArray).size ≤ 100001) := by
          refine ⟨by simp [ByteArray.size], ?_⟩
          simp at hpl
          simp [ByteArray.size]
          omega
        have HT0 : Hid (∀ h, ((⟨(b :: ds).toArray⟩ : ByteArray)[0]'h).toNat = b.toNat) := fun _ => rfl
        clear hps hpd
        generalize (⟨(b :: ds).toArray⟩ : ByteArray) = t at *
        have hts := HTS.out.1
        have hts2 := HTS.out.2
        have hrbd : RB w2.drew R s k := hrb1
        have hAd : Amb B w2.drew := hA1.on ((Below.refl B w2).drew)
        have h1z : (1 : Int) ≤ (t.size : Int) := by omega
        go_upto_region 3 with fail
        refine wp_region_held_drew (S := fun _ => True) (by kernel_rfl) trivial (fun hHeld => ?_)
        refine wpAnyH_take (i := 0) (oi := ⟨some 27, _, _, _, _, _⟩) (v := ?_) rfl (by kernel_rfl) (by kernel_rfl) (by kernel_rfl) (fun _ _ _ h => h) (Or.inl ⟨by rfl, ?_⟩) hHeld ?_
        rotate_left
        · intro w hSw
          (try dsimp only at hSw)
          first | (go_simp; done) | (go_simp; with_reducible rfl) | with_reducible rfl
        try simp only [Act.put, List.setIfInBounds_toArray, List.set_cons_zero, List.set_cons_succ]
        refine wpAnyH_take (i := 1) (oi := ⟨some 28, _, _, _, _, _⟩) (v := ?_) rfl (by kernel_rfl) (by kernel_rfl) (by kernel_rfl) (fun _ _ _ h => h) (Or.inl ⟨by rfl, ?_⟩) hHeld ?_
        rotate_left
        · intro w hSw
          (try dsimp only at hSw)
          first | (go_simp; done) | (go_simp; with_reducible rfl) | with_reducible rfl
        try simp only [Act.put, List.setIfInBounds_toArray, List.set_cons_zero, List.set_cons_succ]
        refine wpAnyH_take (i := 2) (oi := ⟨some 29, _, _, _, _, _⟩) (v := ?_) rfl (by kernel_rfl) (by kernel_rfl) (by kernel_rfl) (fun _ _ _ h => h) (Or.inl ⟨by rfl, ?_⟩) hHeld ?_
        rotate_left
        · intro w hSw
          (try dsimp only at hSw)
          first | (go_simp; done) | (go_simp; with_reducible rfl) | with_reducible rfl
        try simp only [Act.put, List.setIfInBounds_toArray, List.set_cons_zero, List.set_cons_succ]
        refine wpAnyH_take (i := 3) (oi := ⟨some 30, _, _, _, _, _⟩) (v := ?_) rfl (by kernel_rfl) (by kernel_rfl) (by kernel_rfl) (fun _ _ _ h => h) (Or.inl ⟨by rfl, ?_⟩) hHeld ?_
        rotate_left
        · intro w hSw
          (try dsimp only at hSw)
          first | (go_simp; done) | (go_simp; with_reducible rfl) | with_reducible rfl
        try simp only [Act.put, List.setIfInBounds_toArray, List.set_cons_zero, List.set_cons_succ]
        refine wpAnyH_take (i := 4) (oi := ⟨some 31, _, _, _, _, _⟩) (v := ?_) rfl (by kernel_rfl) (by kernel_rfl) (by kernel_rfl) (fun _ _ _ h => h) (Or.inl ⟨by rfl, ?_⟩) hHeld ?_
        rotate_left
        · intro w hSw
          (try dsimp only at hSw)
          first | (go_simp; done) | (go_simp; with_reducible rfl) | with_reducible rfl
        try simp only [Act.put, List.setIfInBounds_toArray, List.set_cons_zero, List.set_cons_succ]
        refine wpAnyH_take (i := 6) (oi := ⟨some 33, _, _, _, _, _⟩) (v := ?_) rfl (by kernel_rfl) (by kernel_rfl) (by kernel_rfl) (fun _ _ _ h => h) (Or.inl ⟨by rfl, ?_⟩) hHeld ?_
        rotate_left
        · intro w hSw
          (try dsimp only at hSw)
          first | (go_simp; done) | (go_simp; with_reducible rfl) | with_reducible rfl
        try simp only [Act.put, List.setIfInBounds_toArray, List.set_cons_zero, List.set_cons_succ]
        refine wpAnyH_ready (rs := [5]) (by kernel_rfl) (by simp) ?_
        refine AllReadyH.cons (o := ⟨some 32, _, _, _, _, _⟩) rfl (fun K hK => ?_) AllReadyH.nil
        go_simp
        refine (HNX.out w2.drew hrbd hAd).mono ?_
        intro e w3 hP
        unfold NumP at hP
        cases hdg : Ag.digL ds with
        | none =>
          rw [hdg] at hP HE2
          obtain ⟨rfl, hb3⟩ := hP
          have hk3 : RKeep R w w3 := hk1.below (show Below w2.heap.size w2 w3 from ⟨hb3.os, hb3.tape, hb3.output, hb3.size, hb3.block⟩)
          exact ⟨rfl, by rw [HE2.out]; exact ⟨rfl, hk3⟩⟩
        | some n =>
          rw [hdg] at hP HE2
          obtain ⟨rfl, hb3⟩ := hP
          have hb3' : Below w2.heap.size w2 w3 := ⟨hb3.os, hb3.tape, hb3.output, hb3.size, hb3.block⟩
          have hk3 := hk1.below hb3'
          have hrb3 : RB w3 R s k := Blk.below hrb1 hb3' (Blk.lt hrb1)
          have hbx3 := hbx1.below hb3' hbx1.lt
          have x0 := hbx3.cell 0
          have x1 := hbx3.cell 1
          have x2 := hbx3.cell 2
          have f0 := hbx3.frozen 0
          have f1 := hbx3.frozen 1
          have f2 := hbx3.frozen 2
          simp only [List.getElem?_toArray, List.getElem?_cons_zero, List.getElem?_cons_succ] at x0 x1 x2
          have ht0 := HT0.out hts
          refine hK.out _ _ trivial (fun hHeld => ?_)
          clear hK K
          try simp only [Act.put, List.setIfInBounds_toArray, List.set_cons_zero, List.set_cons_succ]
          refine wpAnyH_take (i := 7) (oi := ⟨some 34, _, _, _, _, _⟩) (v := ?_) rfl (by kernel_rfl) (by kernel_rfl) (by kernel_rfl) (fun _ _ _ h => h) (Or.inl ⟨by rfl, ?_⟩) hHeld ?_
          rotate_left
          · intro w hSw
            (try dsimp only at hSw)
            first | (go_simp; done) | (go_simp; with_reducible rfl) | with_reducible rfl
          try simp only [Act.put, List.setIfInBounds_toArray, List.set_cons_zero, List.set_cons_succ]
          refine wpAnyH_ready (rs := [8]) (by kernel_rfl) (by simp) ?_
          refine AllReadyH.cons (o := ⟨none, _, _, _, _, _⟩) rfl (fun K hK => ?_) AllReadyH.nil
          go_simp
          refine hK.out _ _ trivial (fun hHeld => ?_)
          clear hK K
          try simp only [Act.put, List.setIfInBounds_toArray, List.set_cons_zero, List.set_cons_succ]
          refine wpAnyH_done (by kernel_rfl) ?_ _
          have hbx5 : Blk (((w3.setCell ⟨w.heap.size, 0, none⟩ (.int .u8 (b.toNat : Int))).setCell ⟨w.heap.size, 1, none⟩ (.int .i64 (n : Int))).setCell ⟨w.heap.size, 2, none⟩ (.string ⟨r.toArray⟩)) w.heap.size 69 #[.int .u8 (b.toNat : Int), .int .i64 (n : Int), .string ⟨r.toArray⟩] := ((hbx3.put 0 (.int .u8 (b.toNat : Int))).put 1 (.int .i64 (n : Int))).put 2 (.string ⟨r.toArray⟩)
          have hk5 : RKeep R w (((w3.setCell ⟨w.heap.size, 0, none⟩ (.int .u8 (b.toNat : Int))).setCell ⟨w.heap.size, 1, none⟩ (.int .i64 (n : Int))).setCell ⟨w.heap.size, 2, none⟩ (.string ⟨r.toArray⟩)) := ((hk3.far (p := ⟨w.heap.size, 0, none⟩) (Nat.le_refl _) _).far (p := ⟨w.heap.size, 1, none⟩) (Nat.le_refl _) _).far (p := ⟨w.heap.size, 2, none⟩) (Nat.le_refl _) _
          have hrb5 : RB (((w3.setCell ⟨w.heap.size, 0, none⟩ (.int .u8 (b.toNat : Int))).setCell ⟨w.heap.size, 1, none⟩ (.int .i64 (n : Int))).setCell ⟨w.heap.size, 2, none⟩ (.string ⟨r.toArray⟩)) R s k := ((hrb3.far (p := ⟨w.heap.size, 0, none⟩) (by simp only; omega) _).far (p := ⟨w.heap.size, 1, none⟩) (by simp only; omega) _).far (p := ⟨w.heap.size, 2, none⟩) (by simp only; omega) _
          clear x0 x1 x2 f0 f1 f2
          generalize (((w3.setCell ⟨w.heap.size, 0, none⟩ (.int .u8 (b.toNat : Int))).setCell ⟨w.heap.size, 1, none⟩ (.int .i64 (n : Int))).setCell ⟨w.heap.size, 2, none⟩ (.string ⟨r.toArray⟩)) = W5 at *
          have r0 := hbx5.cell 0
          have r1 := hbx5.cell 1
          have r2 := hbx5.cell 2
          simp only [List.getElem?_toArray, List.getElem?_cons_zero, List.getElem?_cons_succ] at r0 r1 r2
          go_wp2
          exact bodyPost_ret (v := .agg #[.int .u8 (b.toNat : Int), .int .i64 (n : Int), .string ⟨r.toArray⟩]) (by simp [results, Tryz.results94, go_sem, r0, r1, r2]) rfl (by rw [HE2.out]; exact ⟨rfl, hrb5, hk5⟩)
      · rw [i2] at HCO
        have HE : Hid (o = none) := HN1.out _ _ e2 (Or.inr i1)
        go_wp2_with fail
        refine HCO.out.mono ?_
        rintro e w2 ⟨rfl, rfl⟩
        go_wp2_with fail
        refine (Need_bad R _ k w2 hrb1).mono ?_
        rintro e w3 ⟨rfl, rfl⟩
        exact ⟨rfl, by rw [HE.out]; exact ⟨rfl, hk1⟩⟩
end Go.Proofs.YtdnbndknfifmgaaGreatDoor
/- The reader of texts: the names. -/
namespace Go.Proofs.YtdnbndknfifmgaaGreatDoor
open Go.RowKit

def nmM (xs : List Nm) (o : Option (List Nm)) : Option (List Nm) := match o with | none => none | some ys => some (xs ++ ys)
theorem names_end (f : Nat) : Ag.namesF f [] = some [] := by
  cases f <;> simp [Ag.namesF]
theorem names_step (xs : List Nm) (f : Nat) (s : Ag.Bs) (h : s ≠ []) : nmM xs (Ag.namesF (f + 1) s) = match Ag.lineS s with | none => none | some (l, r) => if l = [99] then some xs else match Ag.nameS l with | none => none | some x => nmM (xs ++ [x]) (Ag.namesF f r) := by
  rw [Ag.namesF, if_neg h]
  cases Ag.lineS s with
  | none => rfl
  | some q =>
    obtain ⟨l, r⟩ := q
    simp only
    by_cases hl : l = [99]
    · rw [if_pos hl, if_pos hl]
      simp [nmM]
    · rw [if_neg hl, if_neg hl]
      cases Ag.nameS l with
      | none => rfl
      | some x =>
        simp only
        cases Ag.namesF f r with
        | none => rfl
        | some ys => simp [nmM]
/-- Names are read, or the reading ends. -/
def NamesP (R : Nat) (k : Int) (w : World) (o : Option (List Nm)) (e : Ending) (w' : World) : Prop :=
  match o with
  | none => e = faultE k ∧ RKeep R w w'
  | some xs => ∃ v s', e = .returned v ∧ w'.ownsRow w.heap.size 69 3 v xs.length (flatN xs) ∧ RB w' R s' k ∧ RKeep R w w'
set_option maxRecDepth 10000 in
set_option maxHeartbeats 4000000 in
theorem rnames_any (R : Nat) (s : Ag.Bs) (k : Int) (B : Nat) (w : World) (h : RB w R ⟨s.toArray⟩ k) (hs : s.length ≤ 90000) (hA : Amb B w) (hR : B ≤ R) :
    Calls Tryz.prog 67 #[.pointer (some ⟨R, 0, none⟩)] w (NamesP R k w (Ag.namesF s.length s)) := by
  have HC0 : Hid (Ag.namesF s.length s = nmM [] (Ag.namesF s.length s)) := by
    unfold Hid nmM
    cases Ag.namesF s.length s with
    | none => rfl
    | some q => rfl
  have HRZ : Hid (R < w.heap.size) := Blk.lt h
  obtain ⟨o, ho⟩ : ∃ o, o = Ag.namesF s.length s := ⟨_, rfl⟩
  rw [← ho]
  have HO := Lib.hid (ho.trans HC0.out)
  clear ho HC0
  go_enter Tryz.func67, Tryz.ntmps67
  go_wp2
  go_loopw [3, 4] (fun v _ wr => ∃ (xs : List Nm) (s' : Ag.Bs) (f : Nat), o = nmM xs (Ag.namesF f s') ∧ s'.length ≤ f ∧ xs.length + s'.length ≤ 90000 ∧ wr.ownsRow w.heap.size 69 3 v xs.length (flatN xs) ∧ RB wr R ⟨s'.toArray⟩ k ∧ RKeep R w wr) (fun _ _ wr => leftLen R wr)
  case atStart => exact ⟨[], s, s.length, HO.out, Nat.le_refl _, by simpa using hs, World.ownsRow_nil w _ _ _, h, RKeep.refl _ _⟩
  case round =>
    clear h
    obtain ⟨xs, s', f, hco, hsf, hxs, hrow, hrb, hk⟩ := hrel
    have HCO := Lib.hid hco
    have HLW := Lib.hid (left_len hrb)
    clear hco
    have c0 := Blk.cell hrb 0
    simp only [List.getElem?_toArray, List.getElem?_cons_zero] at c0
    have hsz : (⟨s'.toArray⟩ : ByteArray).size = s'.length := by simp [ByteArray.size]
    by_cases he : s' = []
    · subst he
      have HE : Hid (o = some xs) := by
        unfold Hid
        rw [HCO.out, names_end]
        simp [nmM]
      go_wp2
      go_ret
      rw [HE.out]
      exact ⟨_, _, rfl, hrow, hrb, hk⟩
    · have hpos : 0 < s'.length := List.length_pos_iff.2 he
      obtain ⟨f', rfl⟩ : ∃ f', f = f' + 1 := ⟨f - 1, by omega⟩
      have HST := Lib.hid (names_step xs f' s' he)
      have HL := Lib.hid (line_any R s' k wr hrb (by omega))
      have hd : decide ((0 : Int) < ((⟨s'.toArray⟩ : ByteArray).size : Int)) = true := decide_eq_true (by omega)
      have hd2 : decide ((0 : Int) < (s'.length : Int)) = true := decide_eq_true (by omega)
      have hd3 : (0 : Int) < (s'.length : Int) := by omega
      clear he
      go_wp2_with fail
      refine HL.out.mono ?_
      intro e w2 hP
      unfold LineP at hP
      have HON : Hid (o = match Ag.lineS s' with | none => none | some (l, r) => if l = [99] then some xs else match Ag.nameS l with | none => none | some x => nmM (xs ++ [x]) (Ag.namesF f' r)) := by
        unfold Hid
        rw [HCO.out, HST.out]
      cases hli : Ag.lineS s' with
      | none =>
        rw [hli] at hP HON
        obtain ⟨rfl, hk2⟩ := hP
        have HE : Hid (o = none) := HON.out
        exact ⟨rfl, by rw [HE.out]; exact ⟨rfl, hk.trans hk2⟩⟩
      | some q =>
        obtain ⟨l, r⟩ := q
        have hll := congrArg List.length (Ag.line_some hli).1
        simp only [List.length_append, List.length_cons] at hll
        rw [hli] at hP HON
        simp only at hP HON
        obtain ⟨rfl, hrb2, hk2⟩ := hP
        have hkt := hk.trans hk2
        have hrow2 : w2.ownsRow w.heap.size 69 3 u3 xs.length (flatN xs) := by
          refine ⟨hrow.1, ?_⟩
          rcases hrow.2 with h2 | ⟨g', cap, cur, he, hbs, hh, rr⟩
          · exact Or.inl h2
          · exact Or.inr ⟨g', cap, cur, he, hbs, (hk2.blk g' (Blk.lt (t := 69) hh) (by have := HRZ.out; omega)).trans hh, rr⟩
        have HLL := Lib.hid hll
        clear hrow hrb hk hk2 c0 hll HL HST HCO hli
        by_cases hc : l = [99]
        · have HE : Hid (o = some xs) := by
            unfold Hid
            rw [HON.out, if_pos hc]
          have dc : (l == [99]) = true := by rw [hc]; rfl
          clear hc
          go_wp2
          go_ret
          rw [HE.out]
          exact ⟨_, _, rfl, hrow2, hrb2, hkt⟩
        · have dc : (l == [99]) = false := beq_eq_false_iff_ne.2 hc
          have HN := Lib.hid (rname_any R ⟨r.toArray⟩ l k B w2 hrb2 (by have := HLL.out; omega) (hA.keep hkt hR) hR)
          rw [if_neg hc] at HON
          clear hc
          go_wp2_with fail
          refine HN.out.mono ?_
          intro e w3 hP
          unfold NameP at hP
          cases hnm : Ag.nameS l with
          | none =>
            rw [hnm] at hP HON
            obtain ⟨rfl, hk3⟩ := hP
            have HE : Hid (o = none) := HON.out
            exact ⟨rfl, by rw [HE.out]; exact ⟨rfl, hkt.trans hk3⟩⟩
          | some x =>
            rw [hnm] at hP HON
            simp only at hP HON
            obtain ⟨rfl, hrb3, hk3⟩ := hP
            have hrow3 : w3.ownsRow w.heap.size 69 3 u3 xs.length (flatN xs) := by
              refine ⟨hrow2.1, ?_⟩
              rcases hrow2.2 with h2 | ⟨g', cap, cur, he, hbs, hh, rr⟩
              · exact Or.inl h2
              · exact Or.inr ⟨g', cap, cur, he, hbs, (hk3.blk g' (Blk.lt (t := 69) hh) (by have := HRZ.out; omega)).trans hh, rr⟩
            have hkt3 := hkt.trans hk3
            obtain ⟨x1, x2, x3⟩ := x
            simp only
            have hx3 : w.heap.size ≤ w3.heap.size := hkt3.size
            have hbk := Blk.new w3 69 #[.int .u8 x1, .int .i64 x2, .string x3]
            have hlow := lowAlloc w3 (Obj.cells #[.int .u8 x1, .int .i64 x2, .string x3] 69)
            have hrow4 := World.ownsRow.alloc hrow3 (Obj.cells #[.int .u8 x1, .int .i64 x2, .string x3] 69)
            have hrb4 : RB (w3.alloc (Obj.cells #[.int .u8 x1, .int .i64 x2, .string x3] 69)) R ⟨r.toArray⟩ k := Blk.alloc hrb3 _
            have hk4 := hkt3.below hlow
            have HRUN : Hid (∀ ty, ∃ v' w', (Builtin.append_ #[27, 27] ty #[u3, .slice (some ⟨w3.heap.size, 0, none⟩) 1 1]).run Tryz.prog (w3.alloc (Obj.cells #[.int .u8 x1, .int .i64 x2, .string x3] 69)) = .ok v' w' ∧ (w'.ownsRow w.heap.size 69 3 v' (xs.length + 1) (flatN xs ++ [.int .u8 x1, .int .i64 x2, .string x3]) ∧ (w3.alloc (Obj.cells #[.int .u8 x1, .int .i64 x2, .string x3] 69)).grownBy w' u3.ownBlock)) := by
              intro ty
              obtain ⟨v', w', r1, r2, r3, _⟩ := app_name (w3.alloc (Obj.cells #[.int .u8 x1, .int .i64 x2, .string x3] 69)) w.heap.size ty u3 xs.length _ hrow4 w3.heap.size 1 x1 x2 x3 hbk (by omega) (by simp; omega)
              exact ⟨v', w', r1, r2, r3⟩
            have HRB := Lib.hid (row_base hrow4)
            have HHX := Lib.hid hxs
            clear hbk hrow4 hrow3 hrow2 hrb3 hrb2 hkt hkt3 hk3 hlow HN hxs
            go_wp2_with (at_builtin; go_loud (refine wpList_app rfl (.tmp 15) (.tmp 19) 27 rfl _ _ rfl rfl _ HRUN.out ?_); intro v' W4 hR4)
            have hrb5 := hrb4.grown hR4.2 (fun e => by have := HRB.out R e.symm; have := HRZ.out; omega)
            have hk5 := hk4.grown hR4.2 (fun g e => HRB.out g e)
            have hrow5 : W4.ownsRow w.heap.size 69 3 v' (xs ++ [(x1, x2, x3)]).length (flatN (xs ++ [(x1, x2, x3)])) := by
              rw [flatN_append, List.length_append]
              exact hR4.1
            have hl1 := HLL.out
            have hl2 := HHX.out
            refine ⟨⟨xs ++ [(x1, x2, x3)], r, f', HON.out, by omega, by simp; omega, hrow5, hrb5, hk5⟩, ?_⟩
            rw [left_len hrb5, HLW.out]
            omega
end Go.Proofs.YtdnbndknfifmgaaGreatDoor
/- The reader of texts: the signals that are literals and no more. -/
namespace Go.Proofs.YtdnbndknfifmgaaGreatDoor
open Go.RowKit

/-- A slice of numbers in memory behind a bound. -/
def NRow (w : World) (lo : Nat) (v : Value) (zs : List Int) : Prop := ∃ A c, v = .slice A zs.length c ∧ Vs w w.heap.size A (iv zs) ∧ ∀ ad, A = some ad → lo ≤ ad.block
theorem row_of {w : World} {lo : Nat} {v : Value} {zs : List Int} (h : w.ownsRow lo 3 1 v zs.length (iv zs)) : NRow w lo v zs := by
  obtain ⟨A, c, e, hV⟩ := int_vs h
  exact ⟨A, c, e, hV, fun ad ha => row_base h ad.block (by rw [e, ha]; rfl)⟩
theorem NRow.kept {w w' : World} {lo : Nat} {v : Value} {zs : List Int} (h : NRow w lo v zs) (hs : w.heap.size ≤ w'.heap.size) (hk : ∀ b, lo ≤ b → b < w.heap.size → w'.heap[b]? = w.heap[b]?) : NRow w' lo v zs := by
  obtain ⟨A, c, e, hV, ha⟩ := h
  refine ⟨A, c, e, fun j hj => ?_, ha⟩
  obtain ⟨b, off, rfl, hb, hc⟩ := hV j hj
  exact ⟨b, off, rfl, by omega, (World.cell?_of_block (w := w) (a := ⟨b, _, none⟩) (hk b (ha _ rfl) hb)).trans hc⟩
theorem NRow.keep {w w' : World} {lo R : Nat} {v : Value} {zs : List Int} (h : NRow w lo v zs) (hk : RKeep R w w') (hR : R < lo) : NRow w' lo v zs := h.kept hk.size (fun b hb hl => hk.blk b hl (by omega))
theorem NRow.set {w : World} {lo : Nat} {v : Value} {zs : List Int} (h : NRow w lo v zs) {p : Addr} (hp : p.block < lo) (u : Value) : NRow (w.setCell p u) lo v zs := h.kept (by simp) (fun b hb _ => Below.heap_setCell w p u b (by omega))
theorem NRow.more {w : World} {lo lo' : Nat} {v : Value} {zs : List Int} (h : NRow w lo v zs) (hl : lo' ≤ lo) : NRow w lo' v zs := by
  obtain ⟨A, c, e, hV, ha⟩ := h
  exact ⟨A, c, e, hV, fun ad he => Nat.le_trans hl (ha ad he)⟩
/-- Every block but the reader's and the circuit's stays as it was. -/
structure RCKeep (R C : Nat) (w w' : World) : Prop where
  os : w'.os = w.os
  tape : w'.tape = w.tape
  output : w'.output = w.output
  size : w.heap.size ≤ w'.heap.size
  blk : ∀ b, b < w.heap.size → b ≠ R → b ≠ C → w'.heap[b]? = w.heap[b]?
theorem RCKeep.refl (R C : Nat) (w : World) : RCKeep R C w w := ⟨rfl, rfl, rfl, Nat.le_refl _, fun _ _ _ _ => rfl⟩
theorem RCKeep.keep {R C : Nat} {a b c : World} (h : RCKeep R C a b) (k : RKeep R b c) : RCKeep R C a c :=
  ⟨k.os.trans h.os, k.tape.trans h.tape, k.output.trans h.output, Nat.le_trans h.size k.size, fun i hi hn hm => (k.blk i (Nat.lt_of_lt_of_le hi h.size) hn).trans (h.blk i hi hn hm)⟩
theorem RCKeep.set {R C : Nat} {a b : World} (h : RCKeep R C a b) {p : Addr} (hp : p.block = C) (u : Value) : RCKeep R C a (b.setCell p u) :=
  ⟨h.os, h.tape, h.output, by simpa using h.size, fun i hi hn hm => (Below.heap_setCell b p u i (fun e => hm (by omega))).trans (h.blk i hi hn hm)⟩
theorem RCKeep.low {R C B : Nat} {w w' : World} (h : RCKeep R C w w') (hB : B ≤ w.heap.size) (hR : B ≤ R) (hC : B ≤ C) : Below B w w' := ⟨h.os, h.tape, h.output, h.size, fun i hi => h.blk i (by omega) (by omega) (by omega)⟩
/-- The signals are read, or the reading ends. -/
def SigsP (R C : Nat) (k : Int) (w : World) (x0 x1 x2 x7 : Value) (o : Option ((List Int × List Int × List Int × List Int) × Ag.Bs)) (e : Ending) (w' : World) : Prop :=
  match o with
  | none => e = faultE k ∧ RCKeep R C w w'
  | some ((os, bs, cs, fs), r) => ∃ vO vB vC vF, e = .returned (.tuple #[]) ∧ Blk w' C 29 #[x0, x1, x2, vO, vB, vC, vF, x7] ∧ NRow w' w.heap.size vO os ∧ NRow w' w.heap.size vB bs ∧ NRow w' w.heap.size vC cs ∧ NRow w' w.heap.size vF fs ∧ RB w' R ⟨r.toArray⟩ k ∧ RCKeep R C w w'
theorem col_short {n : Nat} {s r : Ag.Bs} {zs : List Int} (h : Ag.colS n s = some (zs, r)) : r.length ≤ s.length := by
  have := congrArg List.length (Ag.col_eq n s r zs h).2
  simp at this
  omega
set_option maxRecDepth 10000 in
set_option maxHeartbeats 4000000 in
theorem rsignals_any (R C : Nat) (s : Ag.Bs) (k : Int) (B : Nat) (m0 m1 m2 m3 m4 m5 m6 m7 m8 : Nat) (x0 x1 x2 x3 x4 x5 x6 x7 : Value) (w : World) (h : RB w R ⟨s.toArray⟩ k) (hs : s.length ≤ 100000) (hA : Amb B w) (hR : B ≤ R) (hC : B ≤ C) (hRC : R ≠ C)
    (hbx : Blk w C 29 #[x0, x1, x2, x3, x4, x5, x6, x7]) (h3 : m3 ≤ 2000) (h5 : m5 ≤ 2000) (h6 : m6 ≤ 2000) (h8 : m8 ≤ 2000) :
    Calls Tryz.prog 66 #[.pointer (some ⟨R, 0, none⟩), .agg #[.int .i64 (m0 : Int), .int .i64 (m1 : Int), .int .i64 (m2 : Int), .int .i64 (m3 : Int), .int .i64 (m4 : Int), .int .i64 (m5 : Int), .int .i64 (m6 : Int), .int .i64 (m7 : Int), .int .i64 (m8 : Int)], .pointer (some ⟨C, 0, none⟩)] w (SigsP R C k w x0 x1 x2 x7 (Ag.sigsS [m0, m1, m2, m3, m4, m5, m6, m7, m8] s)) := by
  have HSG : Hid (Ag.sigsS [m0, m1, m2, m3, m4, m5, m6, m7, m8] s = match Ag.colS m3 s with
    | none => none
    | some (os, r1) => match Ag.colS m5 r1 with
      | none => none
      | some (bs, r2) => match Ag.colS m6 r2 with
        | none => none
        | some (cs, r3) => match Ag.colS m8 r3 with
          | none => none
          | some (fs, r4) => some ((os, bs, cs, fs), r4)) := rfl
  generalize Ag.sigsS [m0, m1, m2, m3, m4, m5, m6, m7, m8] s = o at *
  have hR0 : R < w.heap.size := Blk.lt h
  have hC0 : C < w.heap.size := hbx.lt
  go_enter Tryz.func66, Tryz.ntmps66
  have lo := lowAlloc w (Obj.cells #[.int .i64 (m0 : Int), .int .i64 (m1 : Int), .int .i64 (m2 : Int), .int .i64 (m3 : Int), .int .i64 (m4 : Int), .int .i64 (m5 : Int), .int .i64 (m6 : Int), .int .i64 (m7 : Int), .int .i64 (m8 : Int)] 87)
  have hsz := Blk.new w 87 #[.int .i64 (m0 : Int), .int .i64 (m1 : Int), .int .i64 (m2 : Int), .int .i64 (m3 : Int), .int .i64 (m4 : Int), .int .i64 (m5 : Int), .int .i64 (m6 : Int), .int .i64 (m7 : Int), .int .i64 (m8 : Int)]
  have hk0 : RCKeep R C w (w.alloc (Obj.cells #[.int .i64 (m0 : Int), .int .i64 (m1 : Int), .int .i64 (m2 : Int), .int .i64 (m3 : Int), .int .i64 (m4 : Int), .int .i64 (m5 : Int), .int .i64 (m6 : Int), .int .i64 (m7 : Int), .int .i64 (m8 : Int)] 87)) := (RCKeep.refl R C w).keep ((RKeep.refl R w).below lo)
  have hrb0 : RB (w.alloc (Obj.cells #[.int .i64 (m0 : Int), .int .i64 (m1 : Int), .int .i64 (m2 : Int), .int .i64 (m3 : Int), .int .i64 (m4 : Int), .int .i64 (m5 : Int), .int .i64 (m6 : Int), .int .i64 (m7 : Int), .int .i64 (m8 : Int)] 87)) R ⟨s.toArray⟩ k := Blk.alloc h _
  have hbx0 := hbx.alloc (Obj.cells #[.int .i64 (m0 : Int), .int .i64 (m1 : Int), .int .i64 (m2 : Int), .int .i64 (m3 : Int), .int .i64 (m4 : Int), .int .i64 (m5 : Int), .int .i64 (m6 : Int), .int .i64 (m7 : Int), .int .i64 (m8 : Int)] 87)
  have hl0 := hs
  clear h hbx lo hs
  go_wp2_with fail
  generalize w.alloc (Obj.cells #[.int .i64 (m0 : Int), .int .i64 (m1 : Int), .int .i64 (m2 : Int), .int .i64 (m3 : Int), .int .i64 (m4 : Int), .int .i64 (m5 : Int), .int .i64 (m6 : Int), .int .i64 (m7 : Int), .int .i64 (m8 : Int)] 87) = V0 at *
  refine (literals_any R s k B m3 V0 hrb0 hl0 (hA.on (hk0.low hA.le hR hC)) hR h3).mono ?_
  intro e W0 hP
  cases hc0 : Ag.colS m3 s with
  | none =>
    rw [hc0] at hP
    obtain ⟨rfl, hkk⟩ := hP
    have HE : Hid (o = none) := by
      unfold Hid
      rw [HSG.out]
      simp only [hc0]
    exact ⟨rfl, by rw [HE.out]; exact ⟨rfl, hk0.keep hkk⟩⟩
  | some p0 =>
    obtain ⟨os, r1⟩ := p0
    rw [hc0] at hP
    obtain ⟨v0, rfl, hrow0, hrbw0, hkw0⟩ := hP
    obtain ⟨A0, q0, rfl⟩ := row_slice hrow0
    have hl1 : r1.length ≤ 100000 := Nat.le_trans (col_short hc0) hl0
    have hbw0 := hkw0.blkOf hbx0 (Ne.symm hRC)
    have hszw0 := hkw0.blkOf hsz (by omega)
    have hsv0 : w.heap.size ≤ V0.heap.size := hk0.size
    have hn0 : NRow W0 w.heap.size (.slice A0 os.length q0) os := (row_of hrow0).more hsv0
    have cf := hbw0.cell 3
    have ff := hbw0.frozen 3
    simp only [List.getElem?_toArray, List.getElem?_cons_zero, List.getElem?_cons_succ] at cf
    have hbx1 : Blk (W0.setCell ⟨C, 3, none⟩ (.slice A0 os.length q0)) C 29 #[x0, x1, x2, (.slice A0 os.length q0), x4, x5, x6, x7] := hbw0.put 3 (.slice A0 os.length q0)
    have hrb1 : RB (W0.setCell ⟨C, 3, none⟩ (.slice A0 os.length q0)) R ⟨r1.toArray⟩ k := hrbw0.far (p := ⟨C, 3, none⟩) hRC (.slice A0 os.length q0)
    have hk1 : RCKeep R C w (W0.setCell ⟨C, 3, none⟩ (.slice A0 os.length q0)) := (hk0.keep hkw0).set (p := ⟨C, 3, none⟩) rfl (.slice A0 os.length q0)
    replace hsz := hszw0.far (p := ⟨C, 3, none⟩) (by simp only; omega) (.slice A0 os.length q0)
    replace hn0 := hn0.set (p := ⟨C, 3, none⟩) hC0 (.slice A0 os.length q0)
    have cz := hsz.cell 5
    simp only [List.getElem?_toArray, List.getElem?_cons_zero, List.getElem?_cons_succ] at cz
    clear hrow0 hbw0 hszw0
    go_wp2_with fail
    (try clear cf); (try clear ff); (try clear cz)
    generalize W0.setCell ⟨C, 3, none⟩ (.slice A0 os.length q0) = V1 at *
    refine (literals_any R r1 k B m5 V1 hrb1 hl1 (hA.on (hk1.low hA.le hR hC)) hR h5).mono ?_
    intro e W1 hP
    cases hc1 : Ag.colS m5 r1 with
    | none =>
      rw [hc1] at hP
      obtain ⟨rfl, hkk⟩ := hP
      have HE : Hid (o = none) := by
        unfold Hid
        rw [HSG.out]
        simp only [hc0, hc1]
      exact ⟨rfl, by rw [HE.out]; exact ⟨rfl, hk1.keep hkk⟩⟩
    | some p1 =>
      obtain ⟨bs, r2⟩ := p1
      rw [hc1] at hP
      obtain ⟨v1, rfl, hrow1, hrbw1, hkw1⟩ := hP
      obtain ⟨A1, q1, rfl⟩ := row_slice hrow1
      have hl2 : r2.length ≤ 100000 := Nat.le_trans (col_short hc1) hl1
      have hbw1 := hkw1.blkOf hbx1 (Ne.symm hRC)
      have hszw1 := hkw1.blkOf hsz (by omega)
      have hsv1 : w.heap.size ≤ V1.heap.size := hk1.size
      have hn1 : NRow W1 w.heap.size (.slice A1 bs.length q1) bs := (row_of hrow1).more hsv1
      replace hn0 := hn0.keep hkw1 hR0
      have cf := hbw1.cell 4
      have ff := hbw1.frozen 4
      simp only [List.getElem?_toArray, List.getElem?_cons_zero, List.getElem?_cons_succ] at cf
      have hbx2 : Blk (W1.setCell ⟨C, 4, none⟩ (.slice A1 bs.length q1)) C 29 #[x0, x1, x2, (.slice A0 os.length q0), (.slice A1 bs.length q1), x5, x6, x7] := hbw1.put 4 (.slice A1 bs.length q1)
      have hrb2 : RB (W1.setCell ⟨C, 4, none⟩ (.slice A1 bs.length q1)) R ⟨r2.toArray⟩ k := hrbw1.far (p := ⟨C, 4, none⟩) hRC (.slice A1 bs.length q1)
      have hk2 : RCKeep R C w (W1.setCell ⟨C, 4, none⟩ (.slice A1 bs.length q1)) := (hk1.keep hkw1).set (p := ⟨C, 4, none⟩) rfl (.slice A1 bs.length q1)
      replace hsz := hszw1.far (p := ⟨C, 4, none⟩) (by simp only; omega) (.slice A1 bs.length q1)
      replace hn0 := hn0.set (p := ⟨C, 4, none⟩) hC0 (.slice A1 bs.length q1)
      replace hn1 := hn1.set (p := ⟨C, 4, none⟩) hC0 (.slice A1 bs.length q1)
      have cz := hsz.cell 6
      simp only [List.getElem?_toArray, List.getElem?_cons_zero, List.getElem?_cons_succ] at cz
      clear hrow1 hbw1 hszw1
      go_wp2_with fail
      (try clear cf); (try clear ff); (try clear cz)
      generalize W1.setCell ⟨C, 4, none⟩ (.slice A1 bs.length q1) = V2 at *
      refine (literals_any R r2 k B m6 V2 hrb2 hl2 (hA.on (hk2.low hA.le hR hC)) hR h6).mono ?_
      intro e W2 hP
      cases hc2 : Ag.colS m6 r2 with
      | none =>
        rw [hc2] at hP
        obtain ⟨rfl, hkk⟩ := hP
        have HE : Hid (o = none) := by
          unfold Hid
          rw [HSG.out]
          simp only [hc0, hc1, hc2]
        exact ⟨rfl, by rw [HE.out]; exact ⟨rfl, hk2.keep hkk⟩⟩
      | some p2 =>
        obtain ⟨cs, r3⟩ := p2
        rw [hc2] at hP
        obtain ⟨v2, rfl, hrow2, hrbw2, hkw2⟩ := hP
        obtain ⟨A2, q2, rfl⟩ := row_slice hrow2
        have hl3 : r3.length ≤ 100000 := Nat.le_trans (col_short hc2) hl2
        have hbw2 := hkw2.blkOf hbx2 (Ne.symm hRC)
        have hszw2 := hkw2.blkOf hsz (by omega)
        have hsv2 : w.heap.size ≤ V2.heap.size := hk2.size
        have hn2 : NRow W2 w.heap.size (.slice A2 cs.length q2) cs := (row_of hrow2).more hsv2
        replace hn0 := hn0.keep hkw2 hR0
        replace hn1 := hn1.keep hkw2 hR0
        have cf := hbw2.cell 5
        have ff := hbw2.frozen 5
        simp only [List.getElem?_toArray, List.getElem?_cons_zero, List.getElem?_cons_succ] at cf
        have hbx3 : Blk (W2.setCell ⟨C, 5, none⟩ (.slice A2 cs.length q2)) C 29 #[x0, x1, x2, (.slice A0 os.length q0), (.slice A1 bs.length q1), (.slice A2 cs.length q2), x6, x7] := hbw2.put 5 (.slice A2 cs.length q2)
        have hrb3 : RB (W2.setCell ⟨C, 5, none⟩ (.slice A2 cs.length q2)) R ⟨r3.toArray⟩ k := hrbw2.far (p := ⟨C, 5, none⟩) hRC (.slice A2 cs.length q2)
        have hk3 : RCKeep R C w (W2.setCell ⟨C, 5, none⟩ (.slice A2 cs.length q2)) := (hk2.keep hkw2).set (p := ⟨C, 5, none⟩) rfl (.slice A2 cs.length q2)
        replace hsz := hszw2.far (p := ⟨C, 5, none⟩) (by simp only; omega) (.slice A2 cs.length q2)
        replace hn0 := hn0.set (p := ⟨C, 5, none⟩) hC0 (.slice A2 cs.length q2)
        replace hn1 := hn1.set (p := ⟨C, 5, none⟩) hC0 (.slice A2 cs.length q2)
        replace hn2 := hn2.set (p := ⟨C, 5, none⟩) hC0 (.slice A2 cs.length q2)
        have cz := hsz.cell 8
        simp only [List.getElem?_toArray, List.getElem?_cons_zero, List.getElem?_cons_succ] at cz
        clear hrow2 hbw2 hszw2
        go_wp2_with fail
        (try clear cf); (try clear ff); (try clear cz)
        generalize W2.setCell ⟨C, 5, none⟩ (.slice A2 cs.length q2) = V3 at *
        refine (literals_any R r3 k B m8 V3 hrb3 hl3 (hA.on (hk3.low hA.le hR hC)) hR h8).mono ?_
        intro e W3 hP
        cases hc3 : Ag.colS m8 r3 with
        | none =>
          rw [hc3] at hP
          obtain ⟨rfl, hkk⟩ := hP
          have HE : Hid (o = none) := by
            unfold Hid
            rw [HSG.out]
            simp only [hc0, hc1, hc2, hc3]
          exact ⟨rfl, by rw [HE.out]; exact ⟨rfl, hk3.keep hkk⟩⟩
        | some p3 =>
          obtain ⟨fs, r4⟩ := p3
          rw [hc3] at hP
          obtain ⟨v3, rfl, hrow3, hrbw3, hkw3⟩ := hP
          obtain ⟨A3, q3, rfl⟩ := row_slice hrow3
          have hl4 : r4.length ≤ 100000 := Nat.le_trans (col_short hc3) hl3
          have hbw3 := hkw3.blkOf hbx3 (Ne.symm hRC)
          have hszw3 := hkw3.blkOf hsz (by omega)
          have hsv3 : w.heap.size ≤ V3.heap.size := hk3.size
          have hn3 : NRow W3 w.heap.size (.slice A3 fs.length q3) fs := (row_of hrow3).more hsv3
          replace hn0 := hn0.keep hkw3 hR0
          replace hn1 := hn1.keep hkw3 hR0
          replace hn2 := hn2.keep hkw3 hR0
          have cf := hbw3.cell 6
          have ff := hbw3.frozen 6
          simp only [List.getElem?_toArray, List.getElem?_cons_zero, List.getElem?_cons_succ] at cf
          have hbx4 : Blk (W3.setCell ⟨C, 6, none⟩ (.slice A3 fs.length q3)) C 29 #[x0, x1, x2, (.slice A0 os.length q0), (.slice A1 bs.length q1), (.slice A2 cs.length q2), (.slice A3 fs.length q3), x7] := hbw3.put 6 (.slice A3 fs.length q3)
          have hrb4 : RB (W3.setCell ⟨C, 6, none⟩ (.slice A3 fs.length q3)) R ⟨r4.toArray⟩ k := hrbw3.far (p := ⟨C, 6, none⟩) hRC (.slice A3 fs.length q3)
          have hk4 : RCKeep R C w (W3.setCell ⟨C, 6, none⟩ (.slice A3 fs.length q3)) := (hk3.keep hkw3).set (p := ⟨C, 6, none⟩) rfl (.slice A3 fs.length q3)
          replace hsz := hszw3.far (p := ⟨C, 6, none⟩) (by simp only; omega) (.slice A3 fs.length q3)
          replace hn0 := hn0.set (p := ⟨C, 6, none⟩) hC0 (.slice A3 fs.length q3)
          replace hn1 := hn1.set (p := ⟨C, 6, none⟩) hC0 (.slice A3 fs.length q3)
          replace hn2 := hn2.set (p := ⟨C, 6, none⟩) hC0 (.slice A3 fs.length q3)
          replace hn3 := hn3.set (p := ⟨C, 6, none⟩) hC0 (.slice A3 fs.length q3)
          have HE : Hid (o = some ((os, bs, cs, fs), r4)) := by
            unfold Hid
            rw [HSG.out]
            simp only [hc0, hc1, hc2, hc3]
          go_wp2
          go_end0
          rw [HE.out]
          exact ⟨_, _, _, _, rfl, hbx4, hn0, hn1, hn2, hn3, hrb4, hk4⟩
end Go.Proofs.YtdnbndknfifmgaaGreatDoor
/- Texts of circuits: what is read is small. -/
namespace Go.Proofs.YtdnbndknfifmgaaGreatDoor
open Go.RowKit

namespace Ag
theorem col_le (k : Nat) (r r' : Bs) (zs : List Int) (h : colS k r = some (zs, r')) : ∀ z ∈ zs, 0 ≤ z ∧ z ≤ 999999 := by
  induction k generalizing r zs with
  | zero =>
    cases h
    simp
  | succ k ih =>
    rw [colS] at h
    split at h
    · cases h
    · rename_i l r1 hl
      split at h
      · rename_i x hx
        split at h
        · cases h
        · rename_i xs r2 hxs
          cases h
          have hxm := (nums_some hx).2 x (by simp)
          intro z hz
          rcases List.mem_cons.1 hz with rfl | hz
          · omega
          · exact ih _ _ hxs z hz
      · cases h
theorem open_small {bg m : List Nat} {l : Bs} (h : openS bg l = some m) : ∀ n ∈ m, n ≤ 999999 := by
  unfold openS at h
  split at h
  · cases h
  · rename_i ns hn
    split at h
    · injection h with h
      subst h
      intro n hm
      exact (nums_some hn).2 n (List.mem_of_mem_drop hm)
    · cases h
theorem latN_le {own : Nat} {m : List Nat} {q : Int × Int} (hm : ∀ n ∈ m, n ≤ 999999) (h : latN own m = some q) : (0 ≤ q.1 ∧ q.1 ≤ 999999) ∧ 0 ≤ q.2 ∧ q.2 ≤ 2 := by
  match m, hm, h with
  | [], _, h => cases h
  | [a], hm, h =>
    have := hm a (by simp)
    simp [latN] at h
    subst h
    simp
    omega
  | [a, x], hm, h =>
    have := hm a (by simp)
    simp only [latN, resetS] at h
    split at h
    · rename_i k hk
      cases h
      split at hk
      · cases hk
        simp
        omega
      · split at hk
        · cases hk
          simp
          omega
        · split at hk
          · cases hk
            simp
            omega
          · cases hk
    · cases h
  | a :: b :: d :: t, _, h => cases h
theorem nameS_le {l : Bs} {x : Nm} (h : nameS l = some x) : (0 ≤ x.1 ∧ x.1 ≤ 255) ∧ (0 ≤ x.2.1 ∧ x.2.1 ≤ 999999) ∧ x.2.2.size ≤ l.length := by
  have he := congrArg List.length (name_eq h)
  unfold nameS at h
  split at h
  · rename_i k ds tx hw
    split at h
    · rename_i a ha
      cases h
      have h1 := (num_dig ha).2
      have h2 := k.toNat_lt
      simp [nameP, ByteArray.size] at he ⊢
      omega
    · cases h
  · cases h
theorem names_le (f : Nat) (r : Bs) (ns : List Nm) (h : namesF f r = some ns) : ns.length ≤ r.length ∧ ∀ x ∈ ns, (0 ≤ x.1 ∧ x.1 ≤ 255) ∧ (0 ≤ x.2.1 ∧ x.2.1 ≤ 999999) ∧ x.2.2.size ≤ r.length := by
  induction f generalizing r ns with
  | zero =>
    cases h
    simp
  | succ f ih =>
    rw [namesF] at h
    split at h
    · cases h
      simp
    · split at h
      · cases h
      · rename_i l r1 hl
        have hll := congrArg List.length (line_some hl).1
        simp at hll
        split at h
        · cases h
          simp
        · split at h
          · cases h
          · rename_i x hx
            split at h
            · cases h
            · rename_i xs hxs
              cases h
              obtain ⟨h1, h2⟩ := ih _ _ hxs
              have h3 := nameS_le hx
              refine ⟨by simp; omega, fun y hy => ?_⟩
              rcases List.mem_cons.1 hy with rfl | hy
              · exact ⟨h3.1, h3.2.1, by omega⟩
              · have := h2 y hy
                exact ⟨this.1, this.2.1, by omega⟩
end Ag
/-- A circuit that was read: its numbers are small. -/
structure Small (c : Cir) : Prop where
  n0 : 0 ≤ c.n ∧ c.n ≤ 2000
  ls : ∀ q ∈ c.ls, (0 ≤ q.1 ∧ q.1 ≤ 999999) ∧ 0 ≤ q.2 ∧ q.2 ≤ 2
  gs : ∀ q ∈ c.gs, (0 ≤ q.1 ∧ q.1 ≤ 999999) ∧ 0 ≤ q.2 ∧ q.2 ≤ 999999
  os : ∀ z ∈ c.os, 0 ≤ z ∧ z ≤ 999999
  bs : ∀ z ∈ c.bs, 0 ≤ z ∧ z ≤ 999999
  cs : ∀ z ∈ c.cs, 0 ≤ z ∧ z ≤ 999999
  fs : ∀ z ∈ c.fs, 0 ≤ z ∧ z ≤ 999999
  ns : ∀ x ∈ c.ns, (0 ≤ x.1 ∧ x.1 ≤ 255) ∧ (0 ≤ x.2.1 ∧ x.2.1 ≤ 999999) ∧ x.2.2.size ≤ 20000
  ll : c.ls.length ≤ 2000
  lg : c.gs.length ≤ 2000
  lo : c.os.length ≤ 2000
  lb : c.bs.length ≤ 2000
  lc : c.cs.length ≤ 2000
  lf : c.fs.length ≤ 2000
  ln : c.ns.length ≤ 20000
theorem Small.wf {c : Cir} (h : Small c) : CirW c := by
  have i1 : ∀ x : Int, 0 ≤ x ∧ x ≤ 999999 → I64 x := fun x hx => ⟨by omega, by omega⟩
  have hm : (2000 : Nat) ≤ maxLen := by decide
  have h0 := h.n0
  refine ⟨⟨by omega, by omega⟩, fun g hg => ?_, fun g hg => ?_, fun z hz => i1 z (h.os z hz), fun z hz => i1 z (h.bs z hz), fun z hz => i1 z (h.cs z hz), fun z hz => i1 z (h.fs z hz), fun x hx => ?_, ?_, ?_, ?_, ?_, ?_, ?_, ?_⟩
  · have := h.ls g hg
    simp only [I64] at *
    omega
  · have := h.gs g hg
    simp only [I64] at *
    omega
  · obtain ⟨a, b, d⟩ := h.ns x hx
    exact ⟨a, i1 _ b, Nat.le_trans d (by decide)⟩
  · have := h.ll; omega
  · have := h.lg; omega
  · exact Nat.le_trans h.lo hm
  · exact Nat.le_trans h.lb hm
  · exact Nat.le_trans h.lc hm
  · exact Nat.le_trans h.lf hm
  · have := h.ln; omega
end Go.Proofs.YtdnbndknfifmgaaGreatDoor
