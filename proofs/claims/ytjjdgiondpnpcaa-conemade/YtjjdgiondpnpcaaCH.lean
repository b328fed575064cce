/- Copy and Fix. -/
import Derived.Test.YtjjdgiondpnpcaaCG
namespace Go.Proofs.Ytjjdgiondpnpcaa
open Go.RowKit Go.Shelf

/-- Two graphs in their boxes, and a result's box behind them. -/
structure B3 (w W : World) (n1 : Int) (s1 : Value) (n2 : Int) (s2 : Value) : Prop where
  low : Below w.heap.size w W
  b0 : Blk W w.heap.size 26 #[.int .i64 n1, s1]
  b1 : Blk W (w.heap.size + 1) 26 #[.int .i64 n2, s2]
  b2 : Blk W (w.heap.size + 1 + 1) 26 #[.int .i64 0, .slice none 0 0]
section
variable {w W W' : World} {n1 n2 : Int} {s1 s2 : Value}
theorem B3.below (h : B3 w W n1 s1 n2 s2) (hb : Below W.heap.size W W') : B3 w W' n1 s1 n2 s2 := ⟨h.low.trans (hb.mono h.low.size), h.b0.below hb h.b0.lt, h.b1.below hb h.b1.lt, h.b2.below hb h.b2.lt⟩
theorem B3.drew (h : B3 w W n1 s1 n2 s2) : B3 w W.drew n1 s1 n2 s2 := ⟨h.low.drew, h.b0, h.b1, h.b2⟩
theorem B3.new (w : World) (n1 : Int) (s1 : Value) (n2 : Int) (s2 : Value) : B3 w (((w.alloc (Obj.cells #[.int .i64 n1, s1] 26)).alloc (Obj.cells #[.int .i64 n2, s2] 26)).alloc (Obj.cells #[.int .i64 0, .slice none 0 0] 26)) n1 s1 n2 s2 := by
  refine ⟨(((Below.refl _ _).alloc (Nat.le_refl _) _).alloc (by simp) _).alloc (by simp; omega) _, ((Blk.new w _ _).alloc _).alloc _, ?_, ?_⟩
  · have := (Blk.new (w.alloc (Obj.cells #[.int .i64 n1, s1] 26)) 26 #[.int .i64 n2, s2]).alloc (Obj.cells #[.int .i64 0, .slice none 0 0] 26)
    simpa using this
  · have := Blk.new ((w.alloc (Obj.cells #[.int .i64 n1, s1] 26)).alloc (Obj.cells #[.int .i64 n2, s2] 26)) 26 #[.int .i64 0, .slice none 0 0]
    simpa using this
theorem B3.cells (h : B3 w W n1 s1 n2 s2) : W.cell? ⟨w.heap.size, 0, none⟩ = some (.int .i64 n1) ∧ W.cell? ⟨w.heap.size, 1, none⟩ = some s1 ∧ W.cell? ⟨w.heap.size + 1, 0, none⟩ = some (.int .i64 n2) ∧ W.cell? ⟨w.heap.size + 1, 1, none⟩ = some s2 ∧
    W.cell? ⟨w.heap.size + 1 + 1, 0, none⟩ = some (.int .i64 0) ∧ W.cell? ⟨w.heap.size + 1 + 1, 1, none⟩ = some (.slice none 0 0) ∧ W.frozen? ⟨w.heap.size + 1 + 1, 0, none⟩ = false ∧ W.frozen? ⟨w.heap.size + 1 + 1, 1, none⟩ = false :=
  ⟨h.b0.cell 0, h.b0.cell 1, h.b1.cell 0, h.b1.cell 1, h.b2.cell 0, h.b2.cell 1, h.b2.frozen 0, h.b2.frozen 1⟩
/-- The result's box is written. -/
theorem B3.put (h : B3 w W n1 s1 n2 s2) (n : Int) (s : Value) : Blk ((W.setCell ⟨w.heap.size + 1 + 1, 0, none⟩ (.int .i64 n)).setCell ⟨w.heap.size + 1 + 1, 1, none⟩ s) (w.heap.size + 1 + 1) 26 #[.int .i64 n, s] ∧ Below w.heap.size w ((W.setCell ⟨w.heap.size + 1 + 1, 0, none⟩ (.int .i64 n)).setCell ⟨w.heap.size + 1 + 1, 1, none⟩ s) := by
  refine ⟨?_, (h.low.setCell (by simp; omega) _).setCell (by simp; omega) _⟩
  have := (h.b2.put 0 (.int .i64 n)).put 1 s
  simpa using this
theorem B3.bad (h : B3 w W n1 s1 n2 s2) {r : Gm.Res} {e : Int} (hr : r = Gm.bad e) : AndPost r 0 w (.returned (.tuple #[.agg #[.int .i64 0, .slice none 0 0], .int .i64 0, .int .i64 e])) ((W.setCell ⟨w.heap.size + 1 + 1, 0, none⟩ (.int .i64 0)).setCell ⟨w.heap.size + 1 + 1, 1, none⟩ (.slice none 0 0)) := by
  subst hr
  exact ⟨none, 0, rfl, fun k hk => by simp [Gm.bad] at hk, Sep.none_, (h.put 0 (.slice none 0 0)).2⟩
theorem B3.good {V : World} {r : Gm.Res} {A' : Option Addr} {c' : Nat} (h : B3 w W n1 s1 n2 s2) (hG : Gr W W.heap.size A' r.1.2) (hs : Sep 0 V.heap.size A') (hV : w.heap.size + 1 + 1 < V.heap.size) : AndPost r 0 w (.returned (.tuple #[.agg #[.int .i64 r.1.1, .slice A' r.1.2.length c'], .int .i64 r.2.1, .int .i64 r.2.2])) ((W.setCell ⟨w.heap.size + 1 + 1, 0, none⟩ (.int .i64 r.1.1)).setCell ⟨w.heap.size + 1 + 1, 1, none⟩ (.slice A' r.1.2.length c')) := by
  refine ⟨A', c', rfl, ?_, hs.mono (Nat.le_refl _) (by omega), (h.put r.1.1 (.slice A' r.1.2.length c')).2⟩
  have := (hG.set (p := ⟨w.heap.size + 1 + 1, 0, none⟩) (hs.ne (k := w.heap.size + 1 + 1) (Nat.zero_le _) hV) (.int .i64 r.1.1)).set (p := ⟨w.heap.size + 1 + 1, 1, none⟩) (hs.ne (k := w.heap.size + 1 + 1) (Nat.zero_le _) hV) (.slice A' r.1.2.length c')
  simpa using this
end
theorem copyS_no {nt : Int} {tg : List (Int × Int)} {nf : Int} {fg : List (Int × Int)} {l : Int} {by_ : List Int} (h : ¬ (Gm.rightB nt tg = true ∧ Gm.rightB nf fg = true ∧ Gm.litB nf fg.length l = true ∧ (by_.length : Int) = nf ∧ (by_.all (Gm.litB nt tg.length)) = true)) : Cm.copyS nt tg nf fg l by_ = Gm.bad 1 := by
  unfold Cm.copyS
  rw [if_neg h]

set_option maxRecDepth 100000 in
set_option maxHeartbeats 8000000 in
theorem copy_any (nt : Int) (At : Option Addr) (ct : Nat) (tg : List (Int × Int)) (nf : Int) (Af : Option Addr) (cf : Nat) (fg : List (Int × Int)) (l : Int) (Ab : Option Addr) (cb : Nat) (by_ : List Int) (w : World)
    (hlt : tg.length ≤ 1000000) (hlf : fg.length ≤ 1000000) (hlb : by_.length ≤ 1000000) (hgt : Gr w w.heap.size At tg) (hgf : Gr w w.heap.size Af fg) (hV : Vs w w.heap.size Ab (iv by_)) (hwt : Wf tg) (hwf : Wf fg) :
    Calls Try.prog 15 #[.agg #[.int .i64 nt, .slice At tg.length ct], .agg #[.int .i64 nf, .slice Af fg.length cf], .int .i64 l, .slice Ab by_.length cb] w (AndPost (Cm.copyS nt tg nf fg l by_) 0 w) := by
  have B := B3.new w nt (.slice At tg.length ct) nf (.slice Af fg.length cf)
  have HS := Lib.hid (csuits_any nf Af cf fg l _ _ hlf (hgf.below B.low (Nat.le_refl _)) B.low.size hwf)
  have HR := Lib.hid (fun V (hb : Below w.heap.size w V) => Right_any nt At ct tg V _ hlt (hgt.below hb (Nat.le_refl _)) hb.size hwt)
  have HLI := Lib.hid (fun V (hb : Below w.heap.size w V) => literals_any nt At tg.length ct Ab cb by_ V hlb ((hV.below hb (Nat.le_refl _)).more hb.size) hlt)
  have hnot : ∀ (x : Bool) (w : World), (Op.unary .not (.bool x)).run Try.prog w = .ok (.bool (!x)) w := fun _ _ => rfl
  go_enter Try.func15, Try.ntmps15
  go_upto_region 1 with fail
  generalize ((w.alloc (Obj.cells #[.int .i64 nt, .slice At tg.length ct] 26)).alloc (Obj.cells #[.int .i64 nf, .slice Af fg.length cf] 26)).alloc (Obj.cells #[.int .i64 0, .slice none 0 0] 26) = W at *
  obtain ⟨k0, k1, k2, k3, k4, k5, f4, f5⟩ := B.cells
  cases hs : (Gm.litB nf fg.length l && Gm.rightB nf fg) with
  | false =>
    have HN := Lib.hid (copyS_no (nt := nt) (tg := tg) (nf := nf) (fg := fg) (l := l) (by_ := by_) (fun h => by rw [h.2.1, h.2.2.1] at hs; cases hs))
    rw [hs] at HS
    clear hs
    go_wp2_with (go_at_call 22; refine HS.out.mono ?_; rintro e w1 ⟨rfl, hb1⟩; replace B := B.below hb1; clear k0 k1 k2 k3 k4 k5 f4 f5; obtain ⟨k0, k1, k2, k3, k4, k5, f4, f5⟩ := B.cells)
    have r0 := (B.put 0 (.slice none 0 0)).1.cell 0
    have r1 := (B.put 0 (.slice none 0 0)).1.cell 1
    simp only [List.getElem?_toArray, List.getElem?_cons_zero, List.getElem?_cons_succ] at r0 r1
    exact bodyPost_ret (v := .tuple #[.agg #[.int .i64 0, .slice none 0 0], .int .i64 0, .int .i64 1]) (by simp [results, Try.results15, go_sem, r0, r1]) rfl (B.bad HN.out)
  | true =>
    rw [hs] at HS
    have hs2 := hs
    rw [Bool.and_eq_true] at hs2
    obtain ⟨hll, hrf⟩ := hs2
    clear hs
    by_cases hn : (by_.length : Int) = nf
    · cases hrt : Gm.rightB nt tg with
      | false =>
        have HN := Lib.hid (copyS_no (nt := nt) (tg := tg) (nf := nf) (fg := fg) (l := l) (by_ := by_) (fun h => by rw [hrt] at h; cases h.1))
        rw [hrt] at HR
        clear hrt hll hrf
        go_wp2_with (first | (go_at_call 22; refine HS.out.mono ?_; rintro e w1 ⟨rfl, hb1⟩; replace B := B.below hb1; clear k0 k1 k2 k3 k4 k5 f4 f5; obtain ⟨k0, k1, k2, k3, k4, k5, f4, f5⟩ := B.cells; clear hb1) | (go_at_call 32; refine (HR.out _ B.low).mono ?_; rintro e w2 ⟨rfl, hb1⟩; replace B := B.below hb1; clear k0 k1 k2 k3 k4 k5 f4 f5; obtain ⟨k0, k1, k2, k3, k4, k5, f4, f5⟩ := B.cells; clear hb1))
        have r0 := (B.put 0 (.slice none 0 0)).1.cell 0
        have r1 := (B.put 0 (.slice none 0 0)).1.cell 1
        simp only [List.getElem?_toArray, List.getElem?_cons_zero, List.getElem?_cons_succ] at r0 r1
        exact bodyPost_ret (v := .tuple #[.agg #[.int .i64 0, .slice none 0 0], .int .i64 0, .int .i64 1]) (by simp [results, Try.results15, go_sem, r0, r1]) rfl (B.bad HN.out)

      | true =>
        rw [hrt] at HR
        cases hall : by_.all (Gm.litB nt tg.length) with
        | false =>
          have HN := Lib.hid (copyS_no (nt := nt) (tg := tg) (nf := nf) (fg := fg) (l := l) (by_ := by_) (fun h => by rw [hall] at h; cases h.2.2.2.2))
          rw [hall] at HLI
          clear hrt hll hrf hall
          go_wp2_with (first | (go_at_call 22; refine HS.out.mono ?_; rintro e w1 ⟨rfl, hb1⟩; replace B := B.below hb1; clear k0 k1 k2 k3 k4 k5 f4 f5; obtain ⟨k0, k1, k2, k3, k4, k5, f4, f5⟩ := B.cells; clear hb1) | (go_at_call 32; refine (HR.out _ B.low).mono ?_; rintro e w2 ⟨rfl, hb1⟩; replace B := B.below hb1; clear k0 k1 k2 k3 k4 k5 f4 f5; obtain ⟨k0, k1, k2, k3, k4, k5, f4, f5⟩ := B.cells; clear hb1) | (go_at_call 33; refine (HLI.out _ B.low).mono ?_; rintro e w3 ⟨rfl, hb1⟩; replace B := B.below hb1; clear k0 k1 k2 k3 k4 k5 f4 f5; obtain ⟨k0, k1, k2, k3, k4, k5, f4, f5⟩ := B.cells; clear hb1))
          have r0 := (B.put 0 (.slice none 0 0)).1.cell 0
          have r1 := (B.put 0 (.slice none 0 0)).1.cell 1
          simp only [List.getElem?_toArray, List.getElem?_cons_zero, List.getElem?_cons_succ] at r0 r1
          exact bodyPost_ret (v := .tuple #[.agg #[.int .i64 0, .slice none 0 0], .int .i64 0, .int .i64 1]) (by simp [results, Try.results15, go_sem, r0, r1]) rfl (B.bad HN.out)

        | true =>
          rw [hall] at HLI
          subst hn
          obtain ⟨ht0, ht1, ht2, _⟩ := right_facts hrt
          obtain ⟨m, rfl⟩ : ∃ m : Nat, nt = (m : Int) := ⟨nt.toNat, by omega⟩
          have HC := Lib.hid (fun V (hb : Below w.heap.size w V) => copied_any m At ct tg by_.length Af cf fg l Ab cb by_ V ((hgt.below hb (Nat.le_refl _)).more hb.size) ((hgf.below hb (Nat.le_refl _)).more hb.size) ((hV.below hb (Nat.le_refl _)).more hb.size) hwt hrt hrf hll rfl hall)
          clear hrt hll hrf hall
          generalize Cm.copyS m tg by_.length fg l by_ = r at *
          go_wp2_with (first | (go_at_call 22; refine HS.out.mono ?_; rintro e w1 ⟨rfl, hb1⟩; replace B := B.below hb1; clear k0 k1 k2 k3 k4 k5 f4 f5; obtain ⟨k0, k1, k2, k3, k4, k5, f4, f5⟩ := B.cells; clear hb1) | (go_at_call 32; refine (HR.out _ B.low).mono ?_; rintro e w2 ⟨rfl, hb1⟩; replace B := B.below hb1; clear k0 k1 k2 k3 k4 k5 f4 f5; obtain ⟨k0, k1, k2, k3, k4, k5, f4, f5⟩ := B.cells; clear hb1) | (go_at_call 33; refine (HLI.out _ B.low).mono ?_; rintro e w3 ⟨rfl, hb1⟩; replace B := B.below hb1; clear k0 k1 k2 k3 k4 k5 f4 f5; obtain ⟨k0, k1, k2, k3, k4, k5, f4, f5⟩ := B.cells; clear hb1) | (go_at_call 31; refine (HC.out _ B.low).mono ?_; rintro e w4 ⟨A', c', rfl, hG, hsep, hb1⟩; have hVs := Nat.lt_of_lt_of_le B.b2.lt (Nat.le_refl _); replace B := B.below hb1; clear k0 k1 k2 k3 k4 k5 f4 f5; obtain ⟨k0, k1, k2, k3, k4, k5, f4, f5⟩ := B.cells; clear hb1))
          have r0 := (B.put r.1.1 (.slice A' r.1.2.length c')).1.cell 0
          have r1 := (B.put r.1.1 (.slice A' r.1.2.length c')).1.cell 1
          simp only [List.getElem?_toArray, List.getElem?_cons_zero, List.getElem?_cons_succ] at r0 r1
          exact bodyPost_ret (v := .tuple #[.agg #[.int .i64 r.1.1, .slice A' r.1.2.length c'], .int .i64 r.2.1, .int .i64 r.2.2]) (by simp [results, Try.results15, go_sem, r0, r1]) rfl (B.good hG hsep hVs)
    · have HN := Lib.hid (copyS_no (nt := nt) (tg := tg) (nf := nf) (fg := fg) (l := l) (by_ := by_) (fun h => hn h.2.2.2.1))
      have hne : ((by_.length : Int) != nf) = true := by simpa using hn
      clear hll hrf
      go_wp2_with (go_at_call 22; refine HS.out.mono ?_; rintro e w1 ⟨rfl, hb1⟩; replace B := B.below hb1; clear k0 k1 k2 k3 k4 k5 f4 f5; obtain ⟨k0, k1, k2, k3, k4, k5, f4, f5⟩ := B.cells; clear hb1)
      have r0 := (B.put 0 (.slice none 0 0)).1.cell 0
      have r1 := (B.put 0 (.slice none 0 0)).1.cell 1
      simp only [List.getElem?_toArray, List.getElem?_cons_zero, List.getElem?_cons_succ] at r0 r1
      exact bodyPost_ret (v := .tuple #[.agg #[.int .i64 0, .slice none 0 0], .int .i64 0, .int .i64 1]) (by simp [results, Try.results15, go_sem, r0, r1]) rfl (B.bad HN.out)

end Go.Proofs.Ytjjdgiondpnpcaa
