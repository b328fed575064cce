/- The reader of texts: the first line. -/
import Derived.Test.YtpejilhdhkmcjaaGreatDoorJaAl
import Derived.Test.YtpejilhdhkmcjaaGreatDoorJabf
import Derived.Test.YtpejilhdhkmcjaaGreatDoorJaat
namespace Go.Proofs.YtpejilhdhkmcjaaGreatDoor
open Go.RowKit

/-- Numbers, and noughts up to nine. -/
def padV (ns : List Nat) : List Value := (ns ++ List.replicate (9 - ns.length) 0).map (fun n : Nat => Value.int .i64 (n : Int))
theorem pad_len (ns : List Nat) (h : ns.length ≤ 9) : (padV ns).length = 9 := by
 simp [padV]
 omega
theorem pad_put (ns : List Nat) (n : Nat) (h : ns.length < 9) : (padV ns).toArray.setIfInBounds ns.length (.int .i64 (n : Int)) = (padV (ns ++ [n])).toArray := by
 obtain ⟨d, hd⟩ : ∃ d, 9 - ns.length = d + 1 := ⟨9 - ns.length - 1, by omega⟩
 have hd2 : 9 - (ns ++ [n]).length = d := by simp; omega
 unfold padV
 rw [hd, hd2, List.replicate_succ, List.setIfInBounds_toArray]
 congr 1
 rw [List.map_append, List.map_cons, List.map_append, List.map_append, List.map_cons, List.map_nil]
 have e : ns.length = (ns.map (fun n : Nat => Value.int .i64 (n : Int))).length := by simp
 rw [e, List.set_append_right _ _ (Nat.le_refl _), Nat.sub_self, List.set_cons_zero]
 simp
theorem pad_full (m : List Nat) (h5 : 5 ≤ m.length) (h9 : m.length ≤ 9) : padV m = [.int .i64 (Ag.ge m 0 : Nat), .int .i64 (Ag.ge m 1 : Nat), .int .i64 (Ag.ge m 2 : Nat), .int .i64 (Ag.ge m 3 : Nat), .int .i64 (Ag.ge m 4 : Nat), .int .i64 (Ag.ge m 5 : Nat), .int .i64 (Ag.ge m 6 : Nat), .int .i64 (Ag.ge m 7 : Nat), .int .i64 (Ag.ge m 8 : Nat)] := by
 unfold padV
 rw [Ag.ge_pad m h5 h9]
 rfl
theorem pad_at (ns : List Nat) (n : Nat) (_h : ns.length < 9) : (padV (ns ++ [n])).toArray[ns.length]? = some (.int .i64 (n : Int)) := by
 unfold padV
 rw [List.getElem?_toArray, List.getElem?_map, List.append_assoc, List.getElem?_append_right (Nat.le_refl _), Nat.sub_self]
 rfl
theorem mapM_pre (ws : List Ag.Bs) (i : Nat) (m : List Nat) (h : ws.mapM Ag.digL = some m) : (ws.take i).mapM Ag.digL = some (m.take i) := by
 cases ht : (ws.take i).mapM Ag.digL with
 | none =>
  rw [mapM_fail ws i ht] at h
  cases h
 | some ns =>
  have hl := mapM_len _ _ ht
  have := List.take_append_drop i ws
  rw [← this, List.mapM_append, ht] at h
  cases hd : (ws.drop i).mapM Ag.digL with
  | none =>
   simp [hd] at h
  | some ms =>
   simp [hd] at h
   subst h
   have hl2 := mapM_len _ _ hd
   rw [List.length_take] at hl
   rw [List.length_drop] at hl2
   by_cases hi : i ≤ ws.length
   ·
    rw [List.take_left' (by omega)]
   have : ms = [] := List.length_eq_zero_iff.1 (by omega)
   rw [this, List.append_nil, List.take_of_length_le (by omega)]
theorem head_is {word s l r x : Ag.Bs} {ws : List Ag.Bs} (h : Ag.lineS s = some (l, r)) (hw : Ag.wordsS l = x :: ws) : Ag.headS word s = if x = word ∧ 5 ≤ ws.length ∧ ws.length ≤ 9 then (match ws.mapM Ag.digL with | none => none | some m => if (∀ x ∈ m, x ≤ 2000) ∧ Ag.ge m 0 = Ag.ge m 1 + Ag.ge m 2 + Ag.ge m 4 ∧ Ag.ge m 7 = 0 then some (m, r) else none) else none := by
 unfold Ag.headS
 rw [h]
 simp only
 rw [hw]
 rfl
theorem head_far {word s l r x : Ag.Bs} {ws : List Ag.Bs} (h : Ag.lineS s = some (l, r)) (hw : Ag.wordsS l = x :: ws) (i : Nat) (ns : List Nat) (hn : (ws.take i).mapM Ag.digL = some ns) (hb : ∃ y ∈ ns, 2000 < y) : Ag.headS word s = none := by
 rw [head_is h hw]
 split
 ·
  split
  ·
   rfl
  rename_i m hm
  rw [if_neg]
  intro hc
  obtain ⟨y, hy, hy2⟩ := hb
  have := mapM_pre ws i m hm
  rw [hn] at this
  injection this with this
  subst this
  have := hc.1 y (List.mem_of_mem_take hy)
  omega
 rfl
theorem ge_of_all {m : List Nat} (h : ∀ x ∈ m, x ≤ 2000) (i : Nat) : Ag.ge m i ≤ 2000 := by
 unfold Ag.ge
 by_cases hi : i < m.length
 ·
  rw [List.getD_eq_getElem?_getD, List.getElem?_eq_getElem hi]
  exact h _ (List.getElem_mem hi)
 rw [List.getD_eq_getElem?_getD, List.getElem?_eq_none (by omega)]
 exact Nat.zero_le _
/-- The first line's numbers as the program hands them back. -/
def headV (m : List Nat) : Value := .agg #[.int .i64 (Ag.ge m 0 : Nat), .int .i64 (Ag.ge m 1 : Nat), .int .i64 (Ag.ge m 2 : Nat), .int .i64 (Ag.ge m 3 : Nat), .int .i64 (Ag.ge m 4 : Nat), .int .i64 (Ag.ge m 5 : Nat), .int .i64 (Ag.ge m 6 : Nat), .int .i64 (Ag.ge m 7 : Nat), .int .i64 (Ag.ge m 8 : Nat)]
/-- The first line is read, or the reading ends. -/
def HeadP (R : Nat) (k : Int) (w : World) (o : Option (List Nat × Ag.Bs)) (e : Ending) (w' : World) : Prop :=
 match o with
 | none => e = faultE k ∧ RKeep R w w'
 | some (m, r) => e = .returned (headV m) ∧ RB w' R ⟨r.toArray⟩ 21 ∧ RKeep R w w'
theorem ixHead (S j : Nat) (hj : j < 9) (w : World) : (Instr.indexAt 87 (.pointer (some ⟨S, 0, none⟩)) (.int .i64 (j : Int))).run Tryz.prog w = .ok (.pointer (some ⟨S, j, none⟩)) w := by
 have h1 : (j : Int) < 9 := by omega
 go_simp
theorem ixW (g off n c r : Nat) (_hn : n ≤ 1000000) (hr : r < n) (w : World) : (Instr.indexAt 70 (.slice (some ⟨g, off, none⟩) n c) (.int .i64 (r : Int))).run Tryz.prog w = .ok (.pointer (some ⟨g, off + r, none⟩)) w := by go_simp
theorem slW (g n : Nat) (hn : n ≤ 1000000) : ∃ of : Nat, (0 < n → of = 1) ∧ ∀ w, (Instr.slice 70 (.slice (some ⟨g, 0, none⟩) (n + 1) (n + 1)) (some (.int .i64 1)) none none).run Tryz.prog w = .ok (.slice (some ⟨g, of, none⟩) n n) w := by
 by_cases h0 : n = 0
 ·
  subst h0
  refine ⟨0, by omega, fun w => ?_⟩
  go_simp
 refine ⟨1, fun _ => rfl, fun w => ?_⟩
 have h1 : (1 : Int) ≤ (n : Int) + 1 := by omega
 go_simp

set_option maxRecDepth 10000 in
set_option maxHeartbeats 4000000 in
theorem rhead_any (R : Nat) (s word : Ag.Bs) (k : Int) (B : Nat) (w : World) (h : RB w R ⟨s.toArray⟩ k) (hs : s.length ≤ 100000) (hA : Amb B w) (hR : B ≤ R) :
  Calls Tryz.prog 63 #[.pointer (some ⟨R, 0, none⟩), .string ⟨word.toArray⟩] w (HeadP R k w (Ag.headS word s)) := by
 have hR0 : R < w.heap.size := Blk.lt h
 have lo := lowAlloc w (Obj.cells #[.int .i64 0, .int .i64 0, .int .i64 0, .int .i64 0, .int .i64 0, .int .i64 0, .int .i64 0, .int .i64 0, .int .i64 0] 87)
 have hres := Blk.new w 87 #[.int .i64 0, .int .i64 0, .int .i64 0, .int .i64 0, .int .i64 0, .int .i64 0, .int .i64 0, .int .i64 0, .int .i64 0]
 have hk0 := (RKeep.refl R w).below lo
 have h0 : RB (w.alloc (Obj.cells #[.int .i64 0, .int .i64 0, .int .i64 0, .int .i64 0, .int .i64 0, .int .i64 0, .int .i64 0, .int .i64 0, .int .i64 0] 87)) R ⟨s.toArray⟩ k := Blk.alloc h _
 have hA0 := hA.on (lo.mono hA.le)
 have HW := Lib.hid (words_any R s k B _ h0 hs hA0 hR)
 have HLL : Hid (∀ l r, Ag.lineS s = some (l, r) → l.length ≤ 100000) := by
  intro l r e
  have := congrArg List.length (Ag.line_some e).1
  simp at this
  omega
 have HN0 : Hid (Ag.lineS s = none → Ag.headS word s = none) := fun e => by unfold Ag.headS; rw [e]
 have HIS : Hid (∀ l r x ws, Ag.lineS s = some (l, r) → Ag.wordsS l = x :: ws → Ag.headS word s = if x = word ∧ 5 ≤ ws.length ∧ ws.length ≤ 9 then (match ws.mapM Ag.digL with | none => none | some m => if (∀ x ∈ m, x ≤ 2000) ∧ Ag.ge m 0 = Ag.ge m 1 + Ag.ge m 2 + Ag.ge m 4 ∧ Ag.ge m 7 = 0 then some (m, r) else none) else none) := fun l r x ws e1 e2 => head_is e1 e2
 have HFAR : Hid (∀ l r x ws i ns, Ag.lineS s = some (l, r) → Ag.wordsS l = x :: ws → (ws.take i).mapM Ag.digL = some ns → (∃ y ∈ ns, 2000 < y) → Ag.headS word s = none) := fun l r x ws i ns e1 e2 e3 e4 => head_far e1 e2 i ns e3 e4
 generalize Ag.headS word s = o at *
 generalize hli : Ag.lineS s = li at *
 clear hli
 go_enter Tryz.func63, Tryz.ntmps63
 go_wp2_with fail
 refine HW.out.mono ?_
 intro e w1 hP
 cases li with
 | none =>
  obtain ⟨rfl, hk⟩ := hP
  exact ⟨rfl, by rw [HN0.out rfl]; exact ⟨rfl, hk0.trans hk⟩⟩
 | some q =>
  obtain ⟨l, r⟩ := q
  obtain ⟨g, rfl, hwd, hg, hrb, hk⟩ := hP
  have hres1 := hk.blkOf hres (by omega)
  have HKW := Lib.hid (hk0.trans hk)
  have HA1 := Lib.hid (hA0.keep hk hR)
  have hwl : (Ag.wordsS l).length ≤ 100001 := by
   rw [words_count]
   have := HLL.out l r rfl
   have := List.count_le_length (a := (32 : UInt8)) (l := l)
   omega
  have HWP : Hid (∀ x ∈ Ag.wordsS l, x.length ≤ 100000) := fun x hx => Nat.le_trans (words_short l x hx) (HLL.out l r rfl)
  have HIS2 := Lib.hid (fun x ws => HIS.out l r x ws rfl)
  have HFA2 := Lib.hid (fun x ws i ns => HFAR.out l r x ws i ns rfl)
  have hne := Ag.words_ne l
  have hgs : w.heap.size < g := by simp at hg; omega
  generalize Ag.wordsS l = wl at *
  cases wl with
  | nil => exact absurd rfl hne
  | cons x ws =>
   have HI := Lib.hid (HIS2.out x ws rfl)
   have HF := Lib.hid (fun i ns => HFA2.out x ws i ns rfl)
   have hwn : ws.length ≤ 100000 := by simp at hwl; omega
   have c0 := hwd.cell 0
   simp only [List.map_cons, List.getElem?_toArray, List.getElem?_cons_zero] at c0
   have HWD : Hid (∀ j (hj : j < ws.length), ((((x :: ws).map (fun x => Value.string ⟨x.toArray⟩)).toArray)[1 + j]? = some (.string ⟨(ws[j]).toArray⟩))) := by
    intro j hj
    rw [Nat.add_comm, List.getElem?_toArray, List.getElem?_map, List.getElem?_cons_succ, List.getElem?_eq_getElem hj]
    rfl
   have HBD := Lib.hid hwd
   simp only [List.length_cons]
   have hi0 := ixW g 0 (ws.length + 1) (ws.length + 1) 0 (by omega) (by omega)
   obtain ⟨of, hof, hsl⟩ := slW g ws.length (by omega)
   clear HIS HFAR HIS2 HFA2 hwl hne HW HLL HN0 h lo hres h0 hA0 hk hwd hA hk0
   have hgR : g ≠ R := by omega
   by_cases hx : x = word
   ·
    subst hx
    go_wp2_with fail
    refine (Need_ok R _ k w1 hrb).mono ?_
    rintro e w2 ⟨rfl, rfl⟩
    by_cases h59 : 5 ≤ ws.length ∧ ws.length ≤ 9
    ·
     obtain ⟨h5, h9⟩ := h59
     obtain rfl := hof (by omega)
     have HI2 : Hid (o = (match ws.mapM Ag.digL with | none => none | some m => if (∀ x ∈ m, x ≤ 2000) ∧ Ag.ge m 0 = Ag.ge m 1 + Ag.ge m 2 + Ag.ge m 4 ∧ Ag.ge m 7 = 0 then some (m, r) else none)) := by
      unfold Hid
      rw [HI.out, if_pos ⟨trivial, h5, h9⟩]
     have d5 : decide ((5 : Int) ≤ (ws.length : Int)) = true := decide_eq_true (by omega)
     have d9 : decide ((ws.length : Int) ≤ 9) = true := decide_eq_true (by omega)
     clear HI c0 hi0
     go_wp2_with fail
     refine (Need_ok R _ k w1 hrb).mono ?_
     rintro e w2 ⟨rfl, rfl⟩
     have lo2 := lowAlloc w1 (Obj.cells #[.int .i64 0, .int .i64 0, .int .i64 0, .int .i64 0, .int .i64 0, .int .i64 0, .int .i64 0, .int .i64 0, .int .i64 0] 87)
     have hS0 := Blk.new w1 87 #[.int .i64 0, .int .i64 0, .int .i64 0, .int .i64 0, .int .i64 0, .int .i64 0, .int .i64 0, .int .i64 0, .int .i64 0]
     have hrb2 : RB (w1.alloc (Obj.cells #[.int .i64 0, .int .i64 0, .int .i64 0, .int .i64 0, .int .i64 0, .int .i64 0, .int .i64 0, .int .i64 0, .int .i64 0] 87)) R ⟨r.toArray⟩ k := Blk.alloc hrb _
     have hk2 := (RKeep.refl R w1).below lo2
     have hwg := HBD.out.lt
     clear d5 d9 hsl
     go_wp2
     generalize w1.alloc (Obj.cells #[.int .i64 0, .int .i64 0, .int .i64 0, .int .i64 0, .int .i64 0, .int .i64 0, .int .i64 0, .int .i64 0, .int .i64 0] 87) = W2 at *
     go_loopw [7, 8, 32] (fun _ _ i wr => ∃ (j : Nat) (ns : List Nat), j ≤ ws.length ∧ i = .int .i64 (j : Int) ∧ (ws.take j).mapM Ag.digL = some ns ∧ (∀ y ∈ ns, y ≤ 2000) ∧ Blk wr w1.heap.size 87 (padV ns).toArray ∧ RB wr R ⟨r.toArray⟩ k ∧ RKeep R w1 wr) (fun _ _ i _ => ws.length - (intOf i).toNat)
     case atStart => exact ⟨0, [], Nat.zero_le _, rfl, rfl, by simp, hS0, hrb2, hk2⟩
     clear hS0 hrb2 hk2 hrb
     obtain ⟨j, ns, hj, rfl, hns, hall, hS, hrb, hk⟩ := hrel
     have HNS := Lib.hid hns
     have hnl : ns.length = j := by
      rw [mapM_len _ _ hns, List.length_take]
      omega
     have HNL := Lib.hid hnl
     have HAL := Lib.hid hall
     clear hns hnl hall
     by_cases hlt : j < ws.length
     ·
      have hjz : (j : Int) < (ws.length : Int) := by omega
      have cj := ((hk.blkOf HBD.out hgR).cell (1 + j)).trans (HWD.out j hlt)
      have hix := ixW g 1 ws.length ws.length j (by omega) hlt
      have hih := ixHead w1.heap.size j (by omega)
      have HNX := Lib.hid (rnumber_any R ⟨r.toArray⟩ ws[j] k B wr hrb (HWP.out _ (by simp)) (HA1.out.keep hk hR))
      have HSN := Lib.hid (mapM_snoc ws j hlt)
      generalize ws[j] = y at *
      go_wp2_with fail
      refine HNX.out.mono ?_
      intro e w2 hP
      cases hd : Ag.digL y with
      | none =>
       rw [hd] at hP
       obtain ⟨rfl, hb2⟩ := hP
       have HE : Hid (o = none) := by
        unfold Hid
        rw [HI2.out, mapM_fail ws (j + 1) (by rw [HSN.out, HNS.out, hd])]
       exact ⟨rfl, by rw [HE.out]; exact ⟨rfl, HKW.out.trans (hk.below hb2)⟩⟩
      | some n =>
       rw [hd] at hP
       obtain ⟨rfl, hb2⟩ := hP
       have HN1 : Hid ((ws.take (j + 1)).mapM Ag.digL = some (ns ++ [n])) := by
        unfold Hid
        rw [HSN.out, HNS.out, hd]
       have hS2 := hS.below hb2 hS.lt
       have hrb2 : RB w2 R ⟨r.toArray⟩ k := Blk.below hrb hb2 (Blk.lt hrb)
       have hk2 := hk.below hb2
       have hf := hS2.frozen j
       have HPU : Hid (Blk (w2.setCell ⟨w1.heap.size, j, none⟩ (.int .i64 (n : Int))) w1.heap.size 87 (padV (ns ++ [n])).toArray) := by
        have h1 := hS2.put j (.int .i64 (n : Int))
        have h2 := pad_put ns n (by rw [HNL.out]; omega)
        rw [HNL.out] at h2
        rw [h2] at h1
        exact h1
       have hrb3 := hrb2.far (p := ⟨w1.heap.size, j, none⟩) (by simp only; have := hk.size; omega) (.int .i64 (n : Int))
       have hk3 := hk2.far (p := ⟨w1.heap.size, j, none⟩) (Nat.le_refl _) (.int .i64 (n : Int))
       have HPA : Hid ((padV (ns ++ [n])).toArray[j]? = some (.int .i64 (n : Int))) := by
        have := pad_at ns n (by rw [HNL.out]; omega)
        rwa [HNL.out] at this
       obtain ⟨old, hold⟩ : ∃ u, w2.cell? ⟨w1.heap.size, j, none⟩ = some u := by
        have h1 := hS2.cell j
        rw [List.getElem?_toArray, List.getElem?_eq_getElem (by rw [pad_len ns (by rw [HNL.out]; omega)]; omega)] at h1
        exact ⟨_, h1⟩
       clear hS hrb hk hb2 hd hS2 HNX HSN cj
       go_upto_region 10 with fail
       generalize w2.setCell ⟨w1.heap.size, j, none⟩ (.int .i64 (n : Int)) = W3 at *
       have cn := (HPU.out.cell j).trans HPA.out
       by_cases hn2 : n ≤ 2000
       ·
        have dn : decide ((n : Int) ≤ 2000) = true := decide_eq_true (by omega)
        go_wp2_with fail
        refine (Need_ok R _ k W3 hrb3).mono ?_
        rintro e w3 ⟨rfl, rfl⟩
        go_wp2
        go_roundw
        case rel =>
         refine ⟨j + 1, ns ++ [n], by omega, by go_num, HN1.out, fun z hz => ?_, HPU.out, hrb3, hk3⟩
         rcases List.mem_append.1 hz with hz | hz
         ·
          exact HAL.out z hz
         simp at hz
         omega
        case measure => simp [intOf]; omega
       have dn : decide ((n : Int) ≤ 2000) = false := decide_eq_false (by omega)
       have HE := Lib.hid (HF.out (j + 1) (ns ++ [n]) HN1.out ⟨n, by simp, by omega⟩)
       go_wp2_with fail
       refine (Need_bad R _ k W3 hrb3).mono ?_
       rintro e w3 ⟨rfl, rfl⟩
       exact ⟨rfl, by rw [HE.out]; exact ⟨rfl, HKW.out.trans hk3⟩⟩
     obtain rfl : j = ws.length := by omega
     have hm : ws.mapM Ag.digL = some ns := by
      have := HNS.out
      rwa [List.take_length] at this
     have hpf := pad_full ns (by have := HNL.out; omega) (by have := HNL.out; omega)
     rw [hpf] at hS
     have HI3 : Hid (o = if Ag.ge ns 0 = Ag.ge ns 1 + Ag.ge ns 2 + Ag.ge ns 4 ∧ Ag.ge ns 7 = 0 then some (ns, r) else none) := by
      unfold Hid
      rw [HI2.out, hm]
      have e : ((∀ x ∈ ns, x ≤ 2000) ∧ Ag.ge ns 0 = Ag.ge ns 1 + Ag.ge ns 2 + Ag.ge ns 4 ∧ Ag.ge ns 7 = 0) ↔ (Ag.ge ns 0 = Ag.ge ns 1 + Ag.ge ns 2 + Ag.ge ns 4 ∧ Ag.ge ns 7 = 0) := ⟨And.right, fun h => ⟨HAL.out, h⟩⟩
      simp only [e]
     have HV : Hid (headV ns = .agg #[.int .i64 (Ag.ge ns 0 : Nat), .int .i64 (Ag.ge ns 1 : Nat), .int .i64 (Ag.ge ns 2 : Nat), .int .i64 (Ag.ge ns 3 : Nat), .int .i64 (Ag.ge ns 4 : Nat), .int .i64 (Ag.ge ns 5 : Nat), .int .i64 (Ag.ge ns 6 : Nat), .int .i64 (Ag.ge ns 7 : Nat), .int .i64 (Ag.ge ns 8 : Nat)]) := rfl
     have b0 := ge_of_all HAL.out 0
     have b1 := ge_of_all HAL.out 1
     have b2 := ge_of_all HAL.out 2
     have b4 := ge_of_all HAL.out 4
     have b7 := ge_of_all HAL.out 7
     have c0 := hS.cell 0
     have c1 := hS.cell 1
     have c2 := hS.cell 2
     have c3 := hS.cell 3
     have c4 := hS.cell 4
     have c5 := hS.cell 5
     have c6 := hS.cell 6
     have c7 := hS.cell 7
     have c8 := hS.cell 8
     simp only [zD, zE, zF] at c0 c1 c2 c3 c4 c5 c6 c7 c8
     clear hm hpf HI2 HF HNS
     generalize Ag.ge ns 0 = a0 at *
     generalize Ag.ge ns 1 = a1 at *
     generalize Ag.ge ns 2 = a2 at *
     generalize Ag.ge ns 3 = a3 at *
     generalize Ag.ge ns 4 = a4 at *
     generalize Ag.ge ns 5 = a5 at *
     generalize Ag.ge ns 6 = a6 at *
     generalize Ag.ge ns 7 = a7 at *
     generalize Ag.ge ns 8 = a8 at *
     by_cases hs0 : a0 = a1 + a2 + a4
     ·
      have ds : ((a0 : Int) == (a1 : Int) + (a2 : Int) + (a4 : Int)) = true := by rw [hs0]; simp
      by_cases h7 : a7 = 0
      ·
       have d7 : ((a7 : Int) == 0) = true := by rw [h7]; simp
       have HE : Hid (o = some (ns, r)) := by unfold Hid; rw [HI3.out, if_pos ⟨hs0, h7⟩]
       clear HI3 hs0 h7
       go_wp2_with fail
       refine (Need_ok R _ k wr hrb).mono ?_
       rintro e w3 ⟨rfl, rfl⟩
       clear ds d7
       have hrN : RB (wr.setCell ⟨R, 1, none⟩ (.int .i64 21)) R ⟨r.toArray⟩ 21 := Blk.put hrb 1 (.int .i64 21)
       have hSN := hS.far (p := ⟨R, 1, none⟩) (by simp only; have := hk.size; omega) (.int .i64 21)
       have hkN := HKW.out.trans (hk.set (p := ⟨R, 1, none⟩) rfl (.int .i64 21))
       have hRS := (hk.blkOf hres1 (by omega)).far (p := ⟨R, 1, none⟩) (by simp only; omega) (.int .i64 21)
       have fR := Blk.frozen hrb 1
       obtain ⟨oR, hoR⟩ : ∃ u, wr.cell? ⟨R, 1, none⟩ = some u := ⟨_, Blk.cell hrb 1⟩
       go_upto_region 14 with fail
       clear c0 c1 c2 c3 c4 c5 c6 c7 c8 hrb hS hk
       generalize wr.setCell ⟨R, 1, none⟩ (.int .i64 21) = W5 at *
       have c0 := hSN.cell 0
       have c1 := hSN.cell 1
       have c2 := hSN.cell 2
       have c3 := hSN.cell 3
       have c4 := hSN.cell 4
       have c5 := hSN.cell 5
       have c6 := hSN.cell 6
       have c7 := hSN.cell 7
       have c8 := hSN.cell 8
       have f0 := hRS.frozen 0
       have f1 := hRS.frozen 1
       have f2 := hRS.frozen 2
       have f3 := hRS.frozen 3
       have f4 := hRS.frozen 4
       have f5 := hRS.frozen 5
       have f6 := hRS.frozen 6
       have f7 := hRS.frozen 7
       have f8 := hRS.frozen 8
       have x0 := hRS.cell 0
       have x1 := hRS.cell 1
       have x2 := hRS.cell 2
       have x3 := hRS.cell 3
       have x4 := hRS.cell 4
       have x5 := hRS.cell 5
       have x6 := hRS.cell 6
       have x7 := hRS.cell 7
       have x8 := hRS.cell 8
       simp only [zD, zE, zF] at c0 c1 c2 c3 c4 c5 c6 c7 c8 x0 x1 x2 x3 x4 x5 x6 x7 x8
       have hR9 : Blk (((((((((W5.setCell ⟨w.heap.size, 0, none⟩ (.int .i64 (a0 : Int))).setCell ⟨w.heap.size, 1, none⟩ (.int .i64 (a1 : Int))).setCell ⟨w.heap.size, 2, none⟩ (.int .i64 (a2 : Int))).setCell ⟨w.heap.size, 3, none⟩ (.int .i64 (a3 : Int))).setCell ⟨w.heap.size, 4, none⟩ (.int .i64 (a4 : Int))).setCell ⟨w.heap.size, 5, none⟩ (.int .i64 (a5 : Int))).setCell ⟨w.heap.size, 6, none⟩ (.int .i64 (a6 : Int))).setCell ⟨w.heap.size, 7, none⟩ (.int .i64 (a7 : Int))).setCell ⟨w.heap.size, 8, none⟩ (.int .i64 (a8 : Int))) w.heap.size 87 #[.int .i64 (a0 : Int), .int .i64 (a1 : Int), .int .i64 (a2 : Int), .int .i64 (a3 : Int), .int .i64 (a4 : Int), .int .i64 (a5 : Int), .int .i64 (a6 : Int), .int .i64 (a7 : Int), .int .i64 (a8 : Int)] := (((((((((hRS.put 0 (.int .i64 (a0 : Int))).put 1 (.int .i64 (a1 : Int))).put 2 (.int .i64 (a2 : Int))).put 3 (.int .i64 (a3 : Int))).put 4 (.int .i64 (a4 : Int))).put 5 (.int .i64 (a5 : Int))).put 6 (.int .i64 (a6 : Int))).put 7 (.int .i64 (a7 : Int))).put 8 (.int .i64 (a8 : Int)))
       have hr9 := (((((((((hrN.far (p := ⟨w.heap.size, 0, none⟩) (by simp only; omega) (.int .i64 (a0 : Int))).far (p := ⟨w.heap.size, 1, none⟩) (by simp only; omega) (.int .i64 (a1 : Int))).far (p := ⟨w.heap.size, 2, none⟩) (by simp only; omega) (.int .i64 (a2 : Int))).far (p := ⟨w.heap.size, 3, none⟩) (by simp only; omega) (.int .i64 (a3 : Int))).far (p := ⟨w.heap.size, 4, none⟩) (by simp only; omega) (.int .i64 (a4 : Int))).far (p := ⟨w.heap.size, 5, none⟩) (by simp only; omega) (.int .i64 (a5 : Int))).far (p := ⟨w.heap.size, 6, none⟩) (by simp only; omega) (.int .i64 (a6 : Int))).far (p := ⟨w.heap.size, 7, none⟩) (by simp only; omega) (.int .i64 (a7 : Int))).far (p := ⟨w.heap.size, 8, none⟩) (by simp only; omega) (.int .i64 (a8 : Int)))
       have hk9 := (((((((((hkN.far (p := ⟨w.heap.size, 0, none⟩) (Nat.le_refl _) (.int .i64 (a0 : Int))).far (p := ⟨w.heap.size, 1, none⟩) (Nat.le_refl _) (.int .i64 (a1 : Int))).far (p := ⟨w.heap.size, 2, none⟩) (Nat.le_refl _) (.int .i64 (a2 : Int))).far (p := ⟨w.heap.size, 3, none⟩) (Nat.le_refl _) (.int .i64 (a3 : Int))).far (p := ⟨w.heap.size, 4, none⟩) (Nat.le_refl _) (.int .i64 (a4 : Int))).far (p := ⟨w.heap.size, 5, none⟩) (Nat.le_refl _) (.int .i64 (a5 : Int))).far (p := ⟨w.heap.size, 6, none⟩) (Nat.le_refl _) (.int .i64 (a6 : Int))).far (p := ⟨w.heap.size, 7, none⟩) (Nat.le_refl _) (.int .i64 (a7 : Int))).far (p := ⟨w.heap.size, 8, none⟩) (Nat.le_refl _) (.int .i64 (a8 : Int)))
       go_wp2
       generalize (((((((((W5.setCell ⟨w.heap.size, 0, none⟩ (.int .i64 (a0 : Int))).setCell ⟨w.heap.size, 1, none⟩ (.int .i64 (a1 : Int))).setCell ⟨w.heap.size, 2, none⟩ (.int .i64 (a2 : Int))).setCell ⟨w.heap.size, 3, none⟩ (.int .i64 (a3 : Int))).setCell ⟨w.heap.size, 4, none⟩ (.int .i64 (a4 : Int))).setCell ⟨w.heap.size, 5, none⟩ (.int .i64 (a5 : Int))).setCell ⟨w.heap.size, 6, none⟩ (.int .i64 (a6 : Int))).setCell ⟨w.heap.size, 7, none⟩ (.int .i64 (a7 : Int))).setCell ⟨w.heap.size, 8, none⟩ (.int .i64 (a8 : Int))) = W9 at *
       have r0 := hR9.cell 0
       have r1 := hR9.cell 1
       have r2 := hR9.cell 2
       have r3 := hR9.cell 3
       have r4 := hR9.cell 4
       have r5 := hR9.cell 5
       have r6 := hR9.cell 6
       have r7 := hR9.cell 7
       have r8 := hR9.cell 8
       simp only [zD, zE, zF] at r0 r1 r2 r3 r4 r5 r6 r7 r8
       refine bodyPost_ret (v := .agg #[.int .i64 (a0 : Int), .int .i64 (a1 : Int), .int .i64 (a2 : Int), .int .i64 (a3 : Int), .int .i64 (a4 : Int), .int .i64 (a5 : Int), .int .i64 (a6 : Int), .int .i64 (a7 : Int), .int .i64 (a8 : Int)]) (by simp [results, Tryz.results63, go_sem, r0, r1, r2, r3, r4, r5, r6, r7, r8]) rfl ?_
       rw [HE.out]
       exact ⟨by rw [HV.out], hr9, hk9⟩
      have d7 : ((a7 : Int) == 0) = false := beq_eq_false_iff_ne.2 (by omega)
      have HE : Hid (o = none) := by unfold Hid; rw [HI3.out, if_neg (fun h => h7 h.2)]
      go_wp2_with fail
      refine (Need_bad R _ k wr hrb).mono ?_
      rintro e w3 ⟨rfl, rfl⟩
      exact ⟨rfl, by rw [HE.out]; exact ⟨rfl, HKW.out.trans hk⟩⟩
     have ds : ((a0 : Int) == (a1 : Int) + (a2 : Int) + (a4 : Int)) = false := beq_eq_false_iff_ne.2 (by omega)
     have HE : Hid (o = none) := by unfold Hid; rw [HI3.out, if_neg (fun h => hs0 h.1)]
     go_wp2_with fail
     refine (Need_bad R _ k wr hrb).mono ?_
     rintro e w3 ⟨rfl, rfl⟩
     exact ⟨rfl, by rw [HE.out]; exact ⟨rfl, HKW.out.trans hk⟩⟩
    have HE : Hid (o = none) := by unfold Hid; rw [HI.out, if_neg (fun h => h59 h.2)]
    by_cases h5 : 5 ≤ ws.length
    ·
     have d5 : decide ((5 : Int) ≤ (ws.length : Int)) = true := decide_eq_true (by omega)
     have d9 : decide ((ws.length : Int) ≤ 9) = false := decide_eq_false (by omega)
     go_wp2_with fail
     refine (Need_bad R _ k w1 hrb).mono ?_
     rintro e w2 ⟨rfl, rfl⟩
     exact ⟨rfl, by rw [HE.out]; exact ⟨rfl, HKW.out⟩⟩
    have d5 : decide ((5 : Int) ≤ (ws.length : Int)) = false := decide_eq_false (by omega)
    go_wp2_with fail
    refine (Need_bad R _ k w1 hrb).mono ?_
    rintro e w2 ⟨rfl, rfl⟩
    exact ⟨rfl, by rw [HE.out]; exact ⟨rfl, HKW.out⟩⟩
   have HE : Hid (o = none) := by unfold Hid; rw [HI.out, if_neg (fun h => hx h.1)]
   have dx : (x == word) = false := beq_eq_false_iff_ne.2 hx
   go_wp2_with fail
   refine (Need_bad R _ k w1 hrb).mono ?_
   rintro e w2 ⟨rfl, rfl⟩
   exact ⟨rfl, by rw [HE.out]; exact ⟨rfl, HKW.out⟩⟩
end Go.Proofs.YtpejilhdhkmcjaaGreatDoor
