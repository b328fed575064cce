/- The reference of layer 4: Of, rank, many, Word, Number, lits. -/
import Derived.Test.YtdnbndknfifmgaaGreatDoorQaf
namespace Go.Proofs.YtdnbndknfifmgaaGreatDoor
open Go.RowKit

set_option maxHeartbeats 2000000 in
theorem refOf_any (c : Cir) (w : World) : Calls Tryz.prog 40 #[.agg #[.int .i64 c.n, .slice c.aL c.ls.length c.cL, .slice c.aG c.gs.length c.cG, .slice c.aO c.os.length c.cO, .slice c.aB c.bs.length c.cB, .slice c.aC c.cs.length c.cC, .slice c.aF c.fs.length c.cF, .slice c.aN c.ns.length c.cN]] w fun e w' => e = .returned (.agg #[.int .i64 (wrap64 (c.n + c.ls.length)), .slice c.aG c.gs.length c.cG]) ∧ Below w.heap.size w w' := by
  have hbx := (boxed w c).alloc (Obj.cells #[.int .i64 0, .slice none 0 0] 64)
  have hgx : Blk ((w.alloc (Obj.cells #[.int .i64 c.n, .slice c.aL c.ls.length c.cL, .slice c.aG c.gs.length c.cG, .slice c.aO c.os.length c.cO, .slice c.aB c.bs.length c.cB, .slice c.aC c.cs.length c.cC, .slice c.aF c.fs.length c.cF, .slice c.aN c.ns.length c.cN] 29)).alloc (Obj.cells #[.int .i64 0, .slice none 0 0] 64)) (w.heap.size + 1) 64 #[.int .i64 0, .slice none 0 0] := by
    have := Blk.new (w.alloc (Obj.cells #[.int .i64 c.n, .slice c.aL c.ls.length c.cL, .slice c.aG c.gs.length c.cG, .slice c.aO c.os.length c.cO, .slice c.aB c.bs.length c.cB, .slice c.aC c.cs.length c.cC, .slice c.aF c.fs.length c.cF, .slice c.aN c.ns.length c.cN] 29)) 64 #[.int .i64 0, .slice none 0 0]
    simpa using this
  have lo := (lowAlloc w (Obj.cells #[.int .i64 c.n, .slice c.aL c.ls.length c.cL, .slice c.aG c.gs.length c.cG, .slice c.aO c.os.length c.cO, .slice c.aB c.bs.length c.cB, .slice c.aC c.cs.length c.cC, .slice c.aF c.fs.length c.cF, .slice c.aN c.ns.length c.cN] 29)).alloc (by simp) (Obj.cells #[.int .i64 0, .slice none 0 0] 64)
  go_enter Tryz.func40, Tryz.ntmps40
  go_upto_region 1 with fail
  generalize ((w.alloc (Obj.cells #[.int .i64 c.n, .slice c.aL c.ls.length c.cL, .slice c.aG c.gs.length c.cG, .slice c.aO c.os.length c.cO, .slice c.aB c.bs.length c.cB, .slice c.aC c.cs.length c.cC, .slice c.aF c.fs.length c.cF, .slice c.aN c.ns.length c.cN] 29)).alloc (Obj.cells #[.int .i64 0, .slice none 0 0] 64)) = W at *
  have x0 := hgx.cell 0
  have x1 := hgx.cell 1
  have y0 := hgx.frozen 0
  have y1 := hgx.frozen 1
  have c0 := hbx.cell 0
  have c1 := hbx.cell 1
  have c2 := hbx.cell 2
  simp only [List.getElem?_toArray, List.getElem?_cons_zero, List.getElem?_cons_succ] at x0 x1 c0 c1 c2
  go_wp2
  have hbf : Below w.heap.size w ((W.setCell ⟨w.heap.size + 1, 0, none⟩ (.int .i64 (wrap64 (c.n + c.ls.length)))).setCell ⟨w.heap.size + 1, 1, none⟩ (.slice c.aG c.gs.length c.cG)) :=
    (lo.setCell (by simp) _).setCell (by simp) _
  have r0 : ((W.setCell ⟨w.heap.size + 1, 0, none⟩ (.int .i64 (wrap64 (c.n + c.ls.length)))).setCell ⟨w.heap.size + 1, 1, none⟩ (.slice c.aG c.gs.length c.cG)).cell? ⟨w.heap.size + 1, 0, none⟩ = some (.int .i64 (wrap64 (c.n + c.ls.length))) :=
    (World.cell?_setCell_other _ _ _ _ (by simp)).trans (World.cell?_setCell_same _ _ _ x0)
  have r1 : ((W.setCell ⟨w.heap.size + 1, 0, none⟩ (.int .i64 (wrap64 (c.n + c.ls.length)))).setCell ⟨w.heap.size + 1, 1, none⟩ (.slice c.aG c.gs.length c.cG)).cell? ⟨w.heap.size + 1, 1, none⟩ = some (.slice c.aG c.gs.length c.cG) :=
    World.cell?_setCell_same _ _ _ ((World.cell?_setCell_other _ _ _ _ (by simp)).trans x1)
  exact bodyPost_ret (v := .agg #[.int .i64 (wrap64 (c.n + c.ls.length)), .slice c.aG c.gs.length c.cG]) (by simp [results, Tryz.results40, go_sem, r0, r1]) rfl ⟨rfl, hbf⟩

namespace Cm
/-- Which kind of signals a number is; below 0: none. -/
def rankS (k : Int) : Int := if k = 105 then 0 else if k = 108 then 1 else if k = 111 then 2 else if k = 98 then 3 else if k = 99 then 4 else if k = 102 then 5 else -1
theorem rank_at (j : Nat) (h : j < 6) : rankS (kindAt j) = j := by
  match j, h with
  | 0, _ => rfl
  | 1, _ => rfl
  | 2, _ => rfl
  | 3, _ => rfl
  | 4, _ => rfl
  | 5, _ => rfl
theorem rank_none (k : Int) (h : ∀ j, j < 6 → kindAt j ≠ k) : rankS k = -1 := by
  have h0 := h 0 (by omega)
  have h1 := h 1 (by omega)
  have h2 := h 2 (by omega)
  have h3 := h 3 (by omega)
  have h4 := h 4 (by omega)
  have h5 := h 5 (by omega)
  simp only [kindAt, List.getD_cons_zero, List.getD_cons_succ] at h0 h1 h2 h3 h4 h5
  unfold rankS
  rw [if_neg (Ne.symm h0), if_neg (Ne.symm h1), if_neg (Ne.symm h2), if_neg (Ne.symm h3), if_neg (Ne.symm h4), if_neg (Ne.symm h5)]
end Cm
theorem ixI2 (sb off N c r : Nat) (_hm : N ≤ 9223372036854775807) (hr : r < N) (w : World) : (Instr.indexAt 26 (.slice (some ⟨sb, off, none⟩) N c) (.int .i64 (r : Int))).run Tryz.prog w = .ok (.pointer (some ⟨sb, off + r, none⟩)) w := by go_simp
end Go.Proofs.YtdnbndknfifmgaaGreatDoor
/- The reference's names. -/
namespace Go.Proofs.YtdnbndknfifmgaaGreatDoor
open Go.RowKit

namespace Cm
def prevB (c : Cir) (i : Nat) (x : Nm) : Bool := match i with
  | 0 => true
  | j + 1 => match c.ns[j]? with
    | none => true
    | some y => !(decide (rankS x.1 < rankS y.1) || (decide (rankS y.1 = rankS x.1) && decide (x.2.1 ≤ y.2.1)))
def nmOk (c : Cir) (i : Nat) : Bool := match c.ns[i]? with
  | none => true
  | some x => wordB x.2.2 && decide (0 ≤ x.2.1) && decide (x.2.1 < numS c x.1) && decide (x.2.2 ∉ texts (c.ns.take i)) && prevB c i x
def namesB (c : Cir) : Bool := (List.range c.ns.length).all (nmOk c)
end Cm
end Go.Proofs.YtdnbndknfifmgaaGreatDoor
/- The names, as the program and as the reference look at them: the same. -/
namespace Go.Proofs.YtdnbndknfifmgaaGreatDoor
open Go.RowKit
namespace Cm

def OkAt (c : Cir) (x : Nm) : Prop := 0 ≤ x.2.1 ∧ x.2.1 < numS c x.1
def Lt2 (y x : Nm) : Prop := rankS y.1 ≤ rankS x.1 ∧ (rankS y.1 = rankS x.1 → y.2.1 < x.2.1)
def Ch (c : Cir) : List Nm → Prop
  | [] => True
  | [x] => OkAt c x
  | x :: y :: l => OkAt c x ∧ Lt2 x y ∧ Ch c (y :: l)
theorem rank_le (k : Int) : rankS k ≤ 5 := by
  unfold rankS
  repeat' split
  all_goals omega
theorem rank_eq (k : Int) (j : Nat) (hj : j < 6) (h : rankS k = j) : k = kindAt j := by
  by_cases hh : ∃ i, i < 6 ∧ kindAt i = k
  · obtain ⟨i, hi, rfl⟩ := hh
    rw [rank_at i hi] at h
    have : i = j := by omega
    rw [this]
  · have := rank_none k (fun i hi e => hh ⟨i, hi, e⟩)
    omega
theorem ok_rank {c : Cir} {x : Nm} (h : OkAt c x) : 0 ≤ rankS x.1 := by
  by_cases hh : ∃ i, i < 6 ∧ kindAt i = x.1
  · obtain ⟨i, hi, e⟩ := hh
    rw [← e, rank_at i hi]
    omega
  · have hn : ∀ j, j < 6 → kindAt j ≠ x.1 := fun i hi e => hh ⟨i, hi, e⟩
    have h0 := hn 0 (by omega)
    have h1 := hn 1 (by omega)
    have h2 := hn 2 (by omega)
    have h3 := hn 3 (by omega)
    have h4 := hn 4 (by omega)
    have h5 := hn 5 (by omega)
    simp only [kindAt, List.getD_cons_zero, List.getD_cons_succ] at h0 h1 h2 h3 h4 h5
    have hz : numS c x.1 = 0 := by
      unfold numS lstS
      rw [if_neg (Ne.symm h0), if_neg (Ne.symm h1), if_neg (Ne.symm h2), if_neg (Ne.symm h3), if_neg (Ne.symm h4), if_neg (Ne.symm h5)]
      rfl
    have := h.1
    have := h.2
    omega
def Hd (f : Nat) (z : Int) : List Nm → Prop
  | [] => True
  | x :: _ => 6 - (f : Int) ≤ rankS x.1 ∧ (rankS x.1 = 6 - (f : Int) → z ≤ x.2.1)
theorem Ch.cons {c : Cir} {x : Nm} {l : List Nm} : Ch c (x :: l) ↔ OkAt c x ∧ Hd 6 0 l ∧ (match l with | [] => True | y :: _ => Lt2 x y) ∧ Ch c l := by
  cases l with
  | nil => simp [Ch, Hd]
  | cons y t =>
    simp only [Ch, Hd]
    constructor
    · rintro ⟨h1, h2, h3⟩
      have : OkAt c y := by
        cases t with
        | nil => exact h3
        | cons u v => exact h3.1
      exact ⟨h1, ⟨by have := ok_rank this; omega, fun _ => this.1⟩, h2, h3⟩
    · rintro ⟨h1, _, h2, h3⟩
      exact ⟨h1, h2, h3⟩
theorem Ch.ok {c : Cir} {x : Nm} {l : List Nm} (h : Ch c (x :: l)) : OkAt c x := (Ch.cons.1 h).1
theorem ord_ch (c : Cir) : ∀ (f : Nat) (l : List Nm) (z : Int), f ≤ 6 → 0 ≤ z → (ordS c f z l = true ↔ Hd f z l ∧ Ch c l) := by
  intro f
  induction f with
  | zero =>
    intro l z _ hz
    cases l with
    | nil => simp [ordS_nil, Hd, Ch]
    | cons x t =>
      rw [ordS_none]
      simp only [Hd]
      have := rank_le x.1
      constructor
      · intro h; cases h
      · rintro ⟨⟨h, _⟩, _⟩
        omega
  | succ f ih =>
    intro l
    induction l with
    | nil => intro z _ _; simp [ordS_nil, Hd, Ch]
    | cons x t iht =>
      intro z hf hz
      rw [ordS_cons]
      have hk : (6 : Int) - ((f + 1 : Nat) : Int) = ((5 - f : Nat) : Int) := by omega
      by_cases hx : x.1 = kindAt (5 - f)
      · rw [if_pos hx]
        have hr : rankS x.1 = ((5 - f : Nat) : Int) := by rw [hx]; exact rank_at _ (by omega)
        simp only [Bool.and_eq_true, decide_eq_true_eq]
        constructor
        · rintro ⟨⟨h1, h2⟩, h3⟩
          rw [iht (x.2.1 + 1) hf (by omega)] at h3
          refine ⟨⟨by omega, fun _ => h1⟩, ?_⟩
          cases t with
          | nil => exact ⟨by omega, h2⟩
          | cons y u =>
            refine ⟨⟨by omega, h2⟩, ?_, h3.2⟩
            have := h3.1
            simp only [Hd] at this
            refine ⟨by omega, fun e => ?_⟩
            have := this.2 (by omega)
            omega
        · rintro ⟨⟨h1, h2⟩, h3⟩
          have hok := h3.ok
          refine ⟨⟨h2 (by omega), hok.2⟩, (iht (x.2.1 + 1) hf (by have := hok.1; omega)).2 ?_⟩
          cases t with
          | nil => exact ⟨trivial, trivial⟩
          | cons y u =>
            obtain ⟨_, hlt, hch⟩ := h3
            refine ⟨⟨by have := hlt.1; omega, fun e => ?_⟩, hch⟩
            have := hlt.2 (by omega)
            omega
      · rw [if_neg hx, ih (x :: t) 0 (by omega) (by omega)]
        have hne : rankS x.1 ≠ ((5 - f : Nat) : Int) := fun e => hx (rank_eq _ _ (by omega) e)
        simp only [Hd]
        constructor
        · rintro ⟨⟨h1, _⟩, h3⟩
          exact ⟨⟨by omega, fun e => absurd (e.trans hk) hne⟩, h3⟩
        · rintro ⟨⟨h1, _⟩, h3⟩
          exact ⟨⟨by omega, fun _ => h3.ok.1⟩, h3⟩
theorem ord_iff (c : Cir) (l : List Nm) : ordS c 6 0 l = true ↔ Ch c l := by
  rw [ord_ch c 6 l 0 (by omega) (by omega)]
  constructor
  · exact fun h => h.2
  · intro h
    refine ⟨?_, h⟩
    cases l with
    | nil => trivial
    | cons x t => exact ⟨by have := ok_rank h.ok; omega, fun _ => h.ok.1⟩
theorem ch_iff (c : Cir) (l : List Nm) : Ch c l ↔ (∀ i (h : i < l.length), OkAt c l[i]) ∧ ∀ j (h : j + 1 < l.length), Lt2 l[j] l[j + 1] := by
  induction l with
  | nil => simp [Ch]
  | cons x t ih =>
    cases t with
    | nil =>
      simp only [Ch]
      constructor
      · intro h
        refine ⟨fun i hi => ?_, fun j hj => by simp at hj⟩
        have : i = 0 := by simpa using hi
        subst this
        exact h
      · intro h
        exact h.1 0 (by simp)
    | cons y u =>
      rw [show Ch c (x :: y :: u) = (OkAt c x ∧ Lt2 x y ∧ Ch c (y :: u)) from rfl, ih]
      constructor
      · rintro ⟨h1, h2, h3, h4⟩
        refine ⟨fun i hi => ?_, fun j hj => ?_⟩
        · cases i with
          | zero => exact h1
          | succ i => exact h3 i (by simpa using hi)
        · cases j with
          | zero => exact h2
          | succ j => exact h4 j (by simpa using hj)
      · rintro ⟨h1, h2⟩
        exact ⟨h1 0 (by simp), h2 0 (by simp), fun i hi => h1 (i + 1) (by simpa using hi), fun j hj => h2 (j + 1) (by simpa using hj)⟩
theorem nodup_iff (ts : List ByteArray) : ts.Nodup ↔ ∀ i (h : i < ts.length), ts[i] ∉ ts.take i := by
  have key : ∀ k, k ≤ ts.length → ((ts.take k).Nodup ↔ ∀ i (h : i < ts.length), i < k → ts[i] ∉ ts.take i) := by
    intro k
    induction k with
    | zero => intro _; simp
    | succ k ih =>
      intro hk
      have hk' : k < ts.length := by omega
      have hn : (ts.take (k + 1)).Nodup ↔ (ts.take k).Nodup ∧ ts[k] ∉ ts.take k := by
        rw [List.take_succ_eq_append_getElem hk', List.nodup_append]
        constructor
        · rintro ⟨h1, _, h3⟩
          exact ⟨h1, fun hm => h3 _ hm _ (by simp) rfl⟩
        · rintro ⟨h1, h2⟩
          refine ⟨h1, by simp, ?_⟩
          intro a ha b hb
          simp at hb
          subst hb
          intro e
          subst e
          exact h2 ha
      rw [hn, ih (by omega)]
      constructor
      · rintro ⟨h1, h2⟩ i hi hik
        by_cases e : i = k
        · subst e; exact h2
        · exact h1 i hi (by omega)
      · intro h
        exact ⟨fun i hi hik => h i hi (by omega), h k hk' (by omega)⟩
  have := key ts.length (Nat.le_refl _)
  rw [List.take_length] at this
  rw [this]
  exact ⟨fun h i hi => h i hi hi, fun h i hi _ => h i hi⟩
theorem names_same (c : Cir) : namesB c = namedB c := by
  rw [Bool.eq_iff_iff]
  unfold namesB namedB
  simp only [List.all_eq_true, List.mem_range, Bool.and_eq_true, decide_eq_true_eq]
  rw [ord_iff, ch_iff, nodup_iff]
  have hnm : ∀ i (h : i < c.ns.length), nmOk c i = true ↔ (wordB c.ns[i].2.2 = true ∧ OkAt c c.ns[i] ∧ c.ns[i].2.2 ∉ texts (c.ns.take i) ∧ prevB c i c.ns[i] = true) := by
    intro i h
    have e0 : c.ns[i]? = some c.ns[i] := by simp [h]
    unfold nmOk
    rw [e0]
    simp only [Bool.and_eq_true, decide_eq_true_eq, OkAt]
    constructor
    · rintro ⟨⟨⟨⟨h1, h2⟩, h3⟩, h4⟩, h5⟩
      exact ⟨h1, ⟨h2, h3⟩, h4, h5⟩
    · rintro ⟨h1, ⟨h2, h3⟩, h4, h5⟩
      exact ⟨⟨⟨⟨h1, h2⟩, h3⟩, h4⟩, h5⟩
  have hpv : ∀ j (h : j + 1 < c.ns.length), prevB c (j + 1) c.ns[j + 1] = true ↔ Lt2 c.ns[j] c.ns[j + 1] := by
    intro j h
    have e0 : c.ns[j]? = some c.ns[j] := by simp [show j < c.ns.length by omega]
    unfold prevB
    simp only [e0]
    simp only [Bool.not_eq_true', Bool.or_eq_false_iff, Bool.and_eq_false_iff, decide_eq_false_iff_not, Lt2]
    omega
  constructor
  · intro h
    refine ⟨⟨⟨fun i hi => ((hnm i hi).1 (h i hi)).2.1, fun j hj => (hpv j hj).1 ((hnm _ hj).1 (h _ hj)).2.2.2⟩, fun x hx => ?_⟩, fun i hi => ?_⟩
    · obtain ⟨i, hi, rfl⟩ := List.mem_iff_getElem.1 hx
      exact ((hnm i hi).1 (h i hi)).1
    · have hi' : i < c.ns.length := by simpa [texts] using hi
      have := ((hnm i hi').1 (h i hi')).2.2.1
      simpa [texts, List.map_take] using this
  · rintro ⟨⟨⟨h1, h2⟩, h3⟩, h4⟩ i hi
    rw [hnm i hi]
    refine ⟨h3 _ (by simp), h1 i hi, ?_, ?_⟩
    · have := h4 i (by simpa [texts] using hi)
      simpa [texts, List.map_take] using this
    · cases i with
      | zero => rfl
      | succ j => exact (hpv j hi).2 (h2 j hi)
end Cm
end Go.Proofs.YtdnbndknfifmgaaGreatDoor
