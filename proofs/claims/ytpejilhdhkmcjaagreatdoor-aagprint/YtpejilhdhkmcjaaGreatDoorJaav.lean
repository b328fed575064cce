/- The reader of texts: a line of so many numbers; a latch's reset. -/
import Derived.Test.YtpejilhdhkmcjaaGreatDoorJaAl
import Derived.Test.YtpejilhdhkmcjaaGreatDoorJaau
namespace Go.Proofs.YtpejilhdhkmcjaaGreatDoor
open Go.RowKit

/-- So many numbers are read, or the reading ends. -/
def LinesP (R : Nat) (k : Int) (w : World) (bg : List Nat) (more : Nat) (o : Option (Ag.Bs × Ag.Bs)) (e : Ending) (w' : World) : Prop :=
 match o with
 | none => e = faultE k ∧ RKeep R w w'
 | some (l, r) => match Ag.openS bg l with
  | none => e = faultE k ∧ RKeep R w w'
  | some m => if m.length = more then ∃ g off c, e = .returned (.slice (some ⟨g, off, none⟩) m.length c) ∧ w.heap.size ≤ g ∧ Vs w' w'.heap.size (some ⟨g, off, none⟩) (iv (natV m)) ∧ RB w' R ⟨r.toArray⟩ k ∧ RKeep R w w' else e = faultE k ∧ RKeep R w w'
set_option maxRecDepth 10000 in
set_option maxHeartbeats 4000000 in
theorem rline_any (R : Nat) (s : Ag.Bs) (k : Int) (B : Nat) (bg : List Nat) (A : Option Addr) (c more : Nat) (w : World) (h : RB w R ⟨s.toArray⟩ k) (hs : s.length ≤ 100000) (hA : Amb B w) (hR : B ≤ R) (hbg : (bg = [] ∧ A = none ∧ c = 0) ∨ ∃ x b off, bg = [x] ∧ A = some ⟨b, off, none⟩ ∧ b ≠ R ∧ w.cell? ⟨b, off, none⟩ = some (.int .i64 (x : Int))) :
  Calls Tryz.prog 64 #[.pointer (some ⟨R, 0, none⟩), .int .i64 (more : Int), .slice A bg.length c] w (LinesP R k w bg more (Ag.lineS s)) := by
 have HO := Lib.hid (ropen_any R s k B bg A c w h hs hA hR hbg)
 have HLL : Hid (∀ l r m, Ag.lineS s = some (l, r) → Ag.openS bg l = some m → m.length ≤ 100001) := by
  intro l r m e e2
  have h1 := congrArg List.length (Ag.line_some e).1
  simp at h1
  unfold Ag.openS at e2
  split at e2
  ·
   cases e2
  rename_i ns hn
  split at e2
  ·
   injection e2 with e2
   subst e2
   have := mapM_len _ _ hn
   rw [words_count] at this
   have := List.count_le_length (a := (32 : UInt8)) (l := l)
   simp
   omega
  cases e2
 clear hbg
 generalize Ag.lineS s = o at *
 go_enter Tryz.func64, Tryz.ntmps64
 go_wp2_with fail
 refine HO.out.mono ?_
 intro e w1 hP
 cases o with
 | none =>
  obtain ⟨rfl, hk⟩ := hP
  exact ⟨rfl, rfl, hk⟩
 | some q =>
  obtain ⟨l, r⟩ := q
  have HQ : Hid (∀ e w', (match Ag.openS bg l with | none => e = faultE k ∧ RKeep R w w' | some m => if m.length = more then ∃ g off c, e = .returned (.slice (some ⟨g, off, none⟩) m.length c) ∧ w.heap.size ≤ g ∧ Vs w' w'.heap.size (some ⟨g, off, none⟩) (iv (natV m)) ∧ RB w' R ⟨r.toArray⟩ k ∧ RKeep R w w' else e = faultE k ∧ RKeep R w w') → LinesP R k w bg more (some (l, r)) e w') := fun _ _ h => h
  unfold OpenP at hP
  simp only at hP
  cases hop : Ag.openS bg l with
  | none =>
   rw [hop] at hP HQ
   obtain ⟨rfl, hk⟩ := hP
   exact ⟨rfl, HQ.out _ _ ⟨rfl, hk⟩⟩
  | some m =>
   have hml := HLL.out l r m rfl hop
   rw [hop] at hP HQ
   obtain ⟨g, off, c1, rfl, hg, hV, hrb, hk⟩ := hP
   clear HO HLL hop h
   by_cases hm : m.length = more
   ·
    have HQ2 : Hid (∀ e w', (∃ g off c, e = .returned (.slice (some ⟨g, off, none⟩) m.length c) ∧ w.heap.size ≤ g ∧ Vs w' w'.heap.size (some ⟨g, off, none⟩) (iv (natV m)) ∧ RB w' R ⟨r.toArray⟩ k ∧ RKeep R w w') → LinesP R k w bg more (some (l, r)) e w') := fun e w' h => HQ.out e w' (by simp only; rw [if_pos hm]; exact h)
    have hd : ((m.length : Int) == (more : Int)) = true := by rw [hm]; simp
    have hd2 : decide ((m.length : Int) = (more : Int)) = true := decide_eq_true (by omega)
    clear HQ hm
    go_wp2_with fail
    refine (Need_ok R _ k w1 hrb).mono ?_
    rintro e w2 ⟨rfl, rfl⟩
    go_wp2
    go_ret
    exact HQ2.out _ _ ⟨g, off, c1, rfl, hg, hV, hrb, hk⟩
   have HQ2 : Hid (∀ e w', (e = faultE k ∧ RKeep R w w') → LinesP R k w bg more (some (l, r)) e w') := fun e w' h => HQ.out e w' (by simp only; rw [if_neg hm]; exact h)
   have hd : ((m.length : Int) == (more : Int)) = false := beq_eq_false_iff_ne.2 (by omega)
   have hd2 : decide ((m.length : Int) = (more : Int)) = false := decide_eq_false (by omega)
   clear HQ
   go_wp2_with fail
   refine (Need_bad R _ k w1 hrb).mono ?_
   rintro e w2 ⟨rfl, rfl⟩
   exact ⟨rfl, HQ2.out _ _ ⟨rfl, hk⟩⟩
/-- A reset is told, or the reading ends. -/
def ResP (k : Int) (w : World) (o : Option Int) (e : Ending) (w' : World) : Prop :=
 match o with
 | some z => e = .returned (.int .i64 z) ∧ w = w'
 | none => e = faultE k ∧ w = w'
set_option maxHeartbeats 4000000 in
theorem rreset_any (R : Nat) (s : ByteArray) (k : Int) (own x : Nat) (w : World) (h : RB w R s k) (ho : 2 ≤ own) (ho2 : own ≤ 100000) (hx : x ≤ 999999) :
  Calls Tryz.prog 91 #[.pointer (some ⟨R, 0, none⟩), .int .i64 (x : Int), .int .i64 (own : Int)] w (ResP k w (Ag.resetS own x)) := by
 unfold Ag.resetS
 by_cases h1 : x = own
 ·
  rw [if_pos h1]
  have d1 : decide ((x : Int) = (own : Int)) = true := decide_eq_true (by omega)
  have e1 : ((x : Int) == (own : Int)) = true := by rw [h1]; simp
  clear h1
  go_enter Tryz.func91, Tryz.ntmps91
  go_wp2
  go_ret
  exact ⟨rfl, rfl⟩
 rw [if_neg h1]
 have d1 : decide ((x : Int) = (own : Int)) = false := decide_eq_false (by omega)
 have e1 : ((x : Int) == (own : Int)) = false := beq_eq_false_iff_ne.2 (by omega)
 by_cases h2 : x = 0
 ·
  subst h2
  rw [if_pos rfl]
  go_enter Tryz.func91, Tryz.ntmps91
  go_wp2_with fail
  refine (Need_ok R s k w h).mono ?_
  rintro e w2 ⟨rfl, rfl⟩
  go_wp2
  go_ret
  exact ⟨rfl, rfl⟩
 rw [if_neg h2]
 by_cases h3 : x = 1
 ·
  subst h3
  rw [if_pos rfl]
  go_enter Tryz.func91, Tryz.ntmps91
  go_wp2_with fail
  refine (Need_ok R s k w h).mono ?_
  rintro e w2 ⟨rfl, rfl⟩
  go_wp2
  go_ret
  exact ⟨rfl, rfl⟩
 rw [if_neg h3]
 have d2 : decide ((x : Int) = 0) = false := decide_eq_false (by omega)
 have e2 : ((x : Int) == 0) = false := beq_eq_false_iff_ne.2 (by omega)
 have d3 : decide ((x : Int) = 1) = false := decide_eq_false (by omega)
 have e3 : ((x : Int) == 1) = false := beq_eq_false_iff_ne.2 (by omega)
 go_enter Tryz.func91, Tryz.ntmps91
 go_wp2_with fail
 refine (Need_bad R s k w h).mono ?_
 rintro e w2 ⟨rfl, rfl⟩
 exact ⟨rfl, rfl, rfl⟩
end Go.Proofs.YtpejilhdhkmcjaaGreatDoor
/- The reader of texts: a latch. -/
namespace Go.Proofs.YtpejilhdhkmcjaaGreatDoor
open Go.RowKit

/-- A latch is read, or the reading ends. -/
def LatchP (R : Nat) (k : Int) (w : World) (bg : List Nat) (own : Nat) (o : Option (Ag.Bs × Ag.Bs)) (e : Ending) (w' : World) : Prop :=
 match o with
 | none => e = faultE k ∧ RKeep R w w'
 | some (l, r) => match Ag.latS bg own l with
  | none => e = faultE k ∧ RKeep R w w'
  | some q => e = .returned (.agg #[.int .i64 q.1, .int .i64 q.2]) ∧ RB w' R ⟨r.toArray⟩ k ∧ RKeep R w w'
theorem RKeep.far {R : Nat} {a b : World} (h : RKeep R a b) {p : Addr} (hp : a.heap.size ≤ p.block) (u : Value) : RKeep R a (b.setCell p u) :=
 ⟨h.os, h.tape, h.output, by simpa using h.size, fun i hi hn => (Below.heap_setCell b p u i (by omega)).trans (h.blk i hi hn)⟩
theorem RB.far {w : World} {R : Nat} {s : ByteArray} {k : Int} (h : RB w R s k) {p : Addr} (hp : R ≠ p.block) (u : Value) : RB (w.setCell p u) R s k := Blk.far h hp u
theorem open_le {bg m : List Nat} {l : Ag.Bs} (h : Ag.openS bg l = some m) : ∀ n ∈ m, n ≤ 999999 := by
 unfold Ag.openS at h
 split at h
 ·
  cases h
 rename_i ns hn
 split at h
 ·
  injection h with h
  subst h
  intro n hm
  exact (Ag.nums_some hn).2 n (List.mem_of_mem_drop hm)
 cases h
theorem vs_at {w : World} {C g off : Nat} {m : List Nat} (h : Vs w C (some ⟨g, off, none⟩) (iv (natV m))) (j : Nat) (hj : j < m.length) : w.cell? ⟨g, off + j, none⟩ = some (.int .i64 (m[j] : Int)) ∧ g < C := by
 obtain ⟨b', off', e', hl, hc⟩ := h j (by simpa [iv, natV] using hj)
 injection e' with e'
 injection e' with e1 e2
 subst e1 e2
 refine ⟨?_, hl⟩
 rw [hc]
 simp [iv, natV]
set_option maxRecDepth 10000 in
set_option maxHeartbeats 4000000 in
theorem rlatch_any (R : Nat) (s : Ag.Bs) (k : Int) (B : Nat) (bg : List Nat) (A : Option Addr) (c own : Nat) (w : World) (h : RB w R ⟨s.toArray⟩ k) (hs : s.length ≤ 100000) (hA : Amb B w) (hR : B ≤ R) (ho : 2 ≤ own) (ho2 : own ≤ 100000) (hbg : (bg = [] ∧ A = none ∧ c = 0) ∨ ∃ x b off, bg = [x] ∧ A = some ⟨b, off, none⟩ ∧ b ≠ R ∧ w.cell? ⟨b, off, none⟩ = some (.int .i64 (x : Int))) :
  Calls Tryz.prog 65 #[.pointer (some ⟨R, 0, none⟩), .int .i64 (own : Int), .slice A bg.length c] w (LatchP R k w bg own (Ag.lineS s)) := by
 have lo := lowAlloc w (Obj.cells #[.int .i64 0, .int .i64 0] 49)
 have hbx := Blk.new w 49 #[.int .i64 0, .int .i64 0]
 have hk0 := (RKeep.refl R w).below lo
 have hR0 : R < w.heap.size := Blk.lt h
 have hbg2 : (bg = [] ∧ A = none ∧ c = 0) ∨ ∃ x b off, bg = [x] ∧ A = some ⟨b, off, none⟩ ∧ b ≠ R ∧ (w.alloc (Obj.cells #[.int .i64 0, .int .i64 0] 49)).cell? ⟨b, off, none⟩ = some (.int .i64 (x : Int)) := by
  rcases hbg with hb | ⟨x, b, off, e1, e2, e3, e4⟩
  ·
   exact Or.inl hb
  exact Or.inr ⟨x, b, off, e1, e2, e3, (lo.cell (p := ⟨b, off, none⟩) (World.block_lt_of_cell? w _ e4)).trans e4⟩
 have HO := Lib.hid (ropen_any R s k B bg A c _ (Blk.alloc h _) hs (hA.on (lo.mono hA.le)) hR hbg2)
 have HRS := Lib.hid (fun (x : Nat) (r : Ag.Bs) (V : World) (hb : RB V R ⟨r.toArray⟩ k) (hx : x ≤ 999999) => rreset_any R ⟨r.toArray⟩ k own x V hb ho ho2 hx)
 clear hbg hbg2
 generalize Ag.lineS s = o at *
 go_enter Tryz.func65, Tryz.ntmps65
 go_wp2_with fail
 refine HO.out.mono ?_
 intro e w1 hP
 cases o with
 | none =>
  obtain ⟨rfl, hk⟩ := hP
  exact ⟨rfl, rfl, hk0.trans hk⟩
 | some q =>
  obtain ⟨l, r⟩ := q
  have HQ : Hid (∀ e w', (match Ag.latS bg own l with | none => e = faultE k ∧ RKeep R w w' | some q => e = .returned (.agg #[.int .i64 q.1, .int .i64 q.2]) ∧ RB w' R ⟨r.toArray⟩ k ∧ RKeep R w w') → LatchP R k w bg own (some (l, r)) e w') := fun _ _ h => h
  unfold OpenP at hP
  simp only at hP
  unfold Ag.latS at HQ
  cases hop : Ag.openS bg l with
  | none =>
   rw [hop] at hP HQ
   obtain ⟨rfl, hk⟩ := hP
   exact ⟨rfl, HQ.out _ _ ⟨rfl, hk0.trans hk⟩⟩
  | some m =>
   have hle := open_le hop
   rw [hop] at hP HQ
   obtain ⟨g, off, c1, rfl, hg, hV, hrb, hk⟩ := hP
   have HKT := Lib.hid (hk0.trans hk)
   have hbx1 := hk.blkOf hbx (by omega)
   have HGN : Hid (g ≠ w.heap.size) := by unfold Hid; simp at hg; omega
   clear HO hop h hbx lo hk0
   match m, hle, hV with
   | [], _, _ =>
    go_wp2_with fail
    refine (Need_bad R _ k w1 hrb).mono ?_
    rintro e w2 ⟨rfl, rfl⟩
    exact ⟨rfl, HQ.out _ _ ⟨rfl, HKT.out⟩⟩
   | [a], hle, hV =>
    have c0 := (vs_at hV 0 (by simp)).1
    simp only [Nat.add_zero, List.getElem_cons_zero] at c0
    go_wp2_with fail
    refine (Need_ok R _ k w1 hrb).mono ?_
    rintro e w2 ⟨rfl, rfl⟩
    have hbx2 := hbx1.alloc (Obj.cells #[.int .i64 (a : Int), .int .i64 0] 49)
    have hrb2 : RB (w1.alloc (Obj.cells #[.int .i64 (a : Int), .int .i64 0] 49)) R ⟨r.toArray⟩ k := Blk.alloc hrb _
    have hk2 := HKT.out.below (lowAlloc w1 (Obj.cells #[.int .i64 (a : Int), .int .i64 0] 49))
    have f0 := hbx2.frozen 0
    have f1 := hbx2.frozen 1
    have x0 := hbx2.cell 0
    have x1 := hbx2.cell 1
    simp only [zD, zE, zF] at x0 x1
    have hbx5 : Blk (((w1.alloc (Obj.cells #[.int .i64 (a : Int), .int .i64 0] 49)).setCell ⟨w.heap.size, 0, none⟩ (.int .i64 (a : Int))).setCell ⟨w.heap.size, 1, none⟩ (.int .i64 0)) w.heap.size 49 #[.int .i64 (a : Int), .int .i64 0] := (hbx2.put 0 (.int .i64 (a : Int))).put 1 (.int .i64 0)
    have hk5 := (hk2.far (p := ⟨w.heap.size, 0, none⟩) (Nat.le_refl _) (.int .i64 (a : Int))).far (p := ⟨w.heap.size, 1, none⟩) (Nat.le_refl _) (.int .i64 0)
    have hrb5 := (hrb2.far (p := ⟨w.heap.size, 0, none⟩) (by simp only; omega) (.int .i64 (a : Int))).far (p := ⟨w.heap.size, 1, none⟩) (by simp only; omega) (.int .i64 0)
    go_wp2
    generalize ((w1.alloc (Obj.cells #[.int .i64 (a : Int), .int .i64 0] 49)).setCell ⟨w.heap.size, 0, none⟩ (.int .i64 (a : Int))).setCell ⟨w.heap.size, 1, none⟩ (.int .i64 0) = W5 at *
    have r0 := hbx5.cell 0
    have r1 := hbx5.cell 1
    simp only [zD, zE, zF] at r0 r1
    exact bodyPost_ret (v := .agg #[.int .i64 (a : Int), .int .i64 0]) (by simp [results, Tryz.results65, go_sem, r0, r1]) rfl (HQ.out _ _ ⟨rfl, hrb5, hk5⟩)
   | [a, x], hle, hV =>
    have c0 := (vs_at hV 0 (by simp)).1
    have c1' := (vs_at hV 1 (by simp)).1
    have hgl := (vs_at hV 0 (by simp)).2
    simp only [Nat.add_zero, List.getElem_cons_zero, List.getElem_cons_succ] at c0 c1'
    have hx : x ≤ 999999 := hle x (by simp)
    go_wp2_with fail
    refine (Need_ok R _ k w1 hrb).mono ?_
    rintro e w2 ⟨rfl, rfl⟩
    have lo1 := lowAlloc w1 (Obj.cells #[.int .i64 (a : Int), .int .i64 0] 49)
    have c2 := (lo1.cell (p := ⟨g, off + 1, none⟩) hgl).trans c1'
    have hbx2 := hbx1.alloc (Obj.cells #[.int .i64 (a : Int), .int .i64 0] 49)
    have hrb2 : RB (w1.alloc (Obj.cells #[.int .i64 (a : Int), .int .i64 0] 49)) R ⟨r.toArray⟩ k := Blk.alloc hrb _
    have hk2 := HKT.out.below lo1
    have hnl := Blk.new w1 49 #[.int .i64 (a : Int), .int .i64 0]
    have hgt : w.heap.size < w1.heap.size := hbx1.lt
    clear c1' lo1 hk
    go_upto_region 4 with fail
    generalize w1.alloc (Obj.cells #[.int .i64 (a : Int), .int .i64 0] 49) = W3 at *
    generalize w1.heap.size = N3 at *
    go_wp2_with fail
    refine (HRS.out x r W3 hrb2 hx).mono ?_
    intro e w4 hP
    unfold ResP at hP
    unfold Ag.latN at HQ
    simp only at HQ
    cases hrs : Ag.resetS own x with
    | none =>
     rw [hrs] at hP HQ
     obtain ⟨rfl, rfl⟩ := hP
     exact ⟨rfl, HQ.out _ _ ⟨rfl, hk2⟩⟩
    | some z =>
     rw [hrs] at hP HQ
     obtain ⟨rfl, rfl⟩ := hP
     have n0 := hnl.cell 0
     have n1 := hnl.cell 1
     have m1 := hnl.frozen 1
     simp only [zD, zE, zF] at n0 n1
     go_upto_region 6 with fail
     have hnl2 : Blk (W3.setCell ⟨N3, 1, none⟩ (.int .i64 z)) N3 49 #[.int .i64 (a : Int), .int .i64 z] := hnl.put 1 (.int .i64 z)
     have hbx3 := hbx2.far (p := ⟨N3, 1, none⟩) (by simp only; omega) (.int .i64 z)
     have hrb3 := hrb2.far (p := ⟨N3, 1, none⟩) (by simp only; omega) (.int .i64 z)
     have hk3 := hk2.far (p := ⟨N3, 1, none⟩) (by simp only; omega) (.int .i64 z)
     clear n0 n1 m1 c0 c2
     generalize W3.setCell ⟨N3, 1, none⟩ (.int .i64 z) = W4 at *
     have n0 := hnl2.cell 0
     have n1 := hnl2.cell 1
     have f0 := hbx3.frozen 0
     have f1 := hbx3.frozen 1
     have x0 := hbx3.cell 0
     have x1 := hbx3.cell 1
     simp only [zD, zE, zF] at x0 x1 n0 n1
     have hbx5 : Blk ((W4.setCell ⟨w.heap.size, 0, none⟩ (.int .i64 (a : Int))).setCell ⟨w.heap.size, 1, none⟩ (.int .i64 z)) w.heap.size 49 #[.int .i64 (a : Int), .int .i64 z] := (hbx3.put 0 (.int .i64 (a : Int))).put 1 (.int .i64 z)
     have hk5 := (hk3.far (p := ⟨w.heap.size, 0, none⟩) (Nat.le_refl _) (.int .i64 (a : Int))).far (p := ⟨w.heap.size, 1, none⟩) (Nat.le_refl _) (.int .i64 z)
     have hrb5 := (hrb3.far (p := ⟨w.heap.size, 0, none⟩) (by simp only; omega) (.int .i64 (a : Int))).far (p := ⟨w.heap.size, 1, none⟩) (by simp only; omega) (.int .i64 z)
     go_wp2
     generalize (W4.setCell ⟨w.heap.size, 0, none⟩ (.int .i64 (a : Int))).setCell ⟨w.heap.size, 1, none⟩ (.int .i64 z) = W5 at *
     have r0 := hbx5.cell 0
     have r1 := hbx5.cell 1
     simp only [zD, zE, zF] at r0 r1
     exact bodyPost_ret (v := .agg #[.int .i64 (a : Int), .int .i64 z]) (by simp [results, Tryz.results65, go_sem, r0, r1]) rfl (HQ.out _ _ ⟨rfl, hrb5, hk5⟩)
   | a :: b :: d :: t, hle, hV =>
    have d1 : decide (((a :: b :: d :: t).length : Int) = 1) = false := decide_eq_false (by simp; omega)
    have d2 : decide (((a :: b :: d :: t).length : Int) = 2) = false := decide_eq_false (by simp; omega)
    have e1 : (((a :: b :: d :: t).length : Int) == 1) = false := beq_eq_false_iff_ne.2 (by simp; omega)
    have e2 : (((a :: b :: d :: t).length : Int) == 2) = false := beq_eq_false_iff_ne.2 (by simp; omega)
    clear hle hV
    generalize (a :: b :: d :: t).length = n at *
    go_wp2_with fail
    refine (Need_bad R _ k w1 hrb).mono ?_
    rintro e w2 ⟨rfl, rfl⟩
    exact ⟨rfl, HQ.out _ _ ⟨rfl, HKT.out⟩⟩
end Go.Proofs.YtpejilhdhkmcjaaGreatDoor
