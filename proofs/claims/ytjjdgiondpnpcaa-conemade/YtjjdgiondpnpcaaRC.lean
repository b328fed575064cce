/- The reference's Copy. -/
import Derived.Test.YtjjdgiondpnpcaaRB
namespace Go.Proofs.Ytjjdgiondpnpcaa
open Go.RowKit Go.Shelf

theorem B3.badC {A0 : Option Addr} {t0 : List (Int × Int)} {w W : World} {n1 n2 : Int} {s1 s2 : Value} (h : B3 w W n1 s1 n2 s2) {r : Gm.Res} {e : Int} (hr : r = Gm.bad e) : RefPost r A0 t0 w (.returned (.tuple #[.agg #[.int .i64 0, .slice none 0 0], .int .i64 0, .int .i64 e])) ((W.setCell ⟨w.heap.size + 1 + 1, 0, none⟩ (.int .i64 0)).setCell ⟨w.heap.size + 1 + 1, 1, none⟩ (.slice none 0 0)) := by
  subst hr
  exact ⟨none, 0, rfl, fun k hk => by simp [Gm.bad] at hk, Or.inr Sep.none_, (h.put 0 (.slice none 0 0)).2⟩

set_option maxRecDepth 100000 in
set_option maxHeartbeats 8000000 in
theorem refcopy_no (nt : Int) (At : Option Addr) (ct : Nat) (tg : List (Int × Int)) (nf : Int) (Af : Option Addr) (cf : Nat) (fg : List (Int × Int)) (l : Int) (Ab : Option Addr) (cb : Nat) (by_ : List Int) (w : World)
    (hlt : tg.length ≤ 1000000) (hlf : fg.length ≤ 1000000) (hlb : by_.length ≤ 1000000) (hgt : Gr w w.heap.size At tg) (hgf : Gr w w.heap.size Af fg) (hV : Vs w w.heap.size Ab (iv by_)) (hwt : Wf tg) (hwf : Wf fg) (hx : l ≤ 9223372036854775807) (hno : ¬ (Gm.rightB nt tg = true ∧ Gm.rightB nf fg = true ∧ Gm.litB nf fg.length l = true ∧ (by_.length : Int) = nf)) :
    Calls Try.prog 16 #[.agg #[.int .i64 nt, .slice At tg.length ct], .agg #[.int .i64 nf, .slice Af fg.length cf], .int .i64 l, .slice Ab by_.length cb] w (RefPost (Cm.copyS nt tg nf fg l by_) At tg w) := by
  have B := B3.new w nt (.slice At tg.length ct) nf (.slice Af fg.length cf)
  have HRT := Lib.hid (fun V (hb : Below w.heap.size w V) => refRight_any nt At ct tg V _ hlt (hgt.below hb (Nat.le_refl _)) hb.size hwt)
  have HRF := Lib.hid (fun V (hb : Below w.heap.size w V) => refRight_any nf Af cf fg V _ hlf (hgf.below hb (Nat.le_refl _)) hb.size hwf)
  have HLI := Lib.hid (fun V => refLit_any nf Af fg.length cf l V hlf hx)
  have hnot : ∀ (x : Bool) (w : World), (Op.unary .not (.bool x)).run Try.prog w = .ok (.bool (!x)) w := fun _ _ => rfl
  go_enter Try.func16, Try.ntmps16
  go_upto_region 1 with fail
  generalize ((w.alloc (Obj.cells #[.int .i64 nt, .slice At tg.length ct] 26)).alloc (Obj.cells #[.int .i64 nf, .slice Af fg.length cf] 26)).alloc (Obj.cells #[.int .i64 0, .slice none 0 0] 26) = W at *
  obtain ⟨k0, k1, k2, k3, k4, k5, f4, f5⟩ := B.cells
  have HN := Lib.hid (copyS_no (nt := nt) (tg := tg) (nf := nf) (fg := fg) (l := l) (by_ := by_) (fun h => by exact hno ⟨h.1, h.2.1, h.2.2.1, h.2.2.2.1⟩))
  cases hrt : Gm.rightB nt tg with
  | false =>
    rw [hrt] at HRT
    clear hrt hno
    go_wp2_with (first | (go_at_call 28; (first | with_reducible refine (HRT.out _ B.low).mono ?_ | with_reducible refine (HRF.out _ B.low).mono ?_); rintro e w1 ⟨rfl, hb1⟩; replace B := B.below hb1; clear k0 k1 k2 k3 k4 k5 f4 f5; obtain ⟨k0, k1, k2, k3, k4, k5, f4, f5⟩ := B.cells; clear hb1) | (go_at_call 25; refine (HLI.out _).mono ?_; rintro e w1 ⟨rfl, hb1⟩; replace B := B.below hb1; clear k0 k1 k2 k3 k4 k5 f4 f5; obtain ⟨k0, k1, k2, k3, k4, k5, f4, f5⟩ := B.cells; clear hb1))
    have r0 := (B.put 0 (.slice none 0 0)).1.cell 0
    have r1 := (B.put 0 (.slice none 0 0)).1.cell 1
    simp only [List.getElem?_toArray, List.getElem?_cons_zero, List.getElem?_cons_succ] at r0 r1
    exact bodyPost_ret (v := .tuple #[.agg #[.int .i64 0, .slice none 0 0], .int .i64 0, .int .i64 1]) (by simp [results, Try.results16, go_sem, r0, r1]) rfl (B.badC HN.out)
  | true =>
    rw [hrt] at HRT
    cases hrf : Gm.rightB nf fg with
    | false =>
      rw [hrf] at HRF
      clear hrt hno hrf
      go_wp2_with (first | (go_at_call 28; (first | with_reducible refine (HRT.out _ B.low).mono ?_ | with_reducible refine (HRF.out _ B.low).mono ?_); rintro e w1 ⟨rfl, hb1⟩; replace B := B.below hb1; clear k0 k1 k2 k3 k4 k5 f4 f5; obtain ⟨k0, k1, k2, k3, k4, k5, f4, f5⟩ := B.cells; clear hb1) | (go_at_call 25; refine (HLI.out _).mono ?_; rintro e w1 ⟨rfl, hb1⟩; replace B := B.below hb1; clear k0 k1 k2 k3 k4 k5 f4 f5; obtain ⟨k0, k1, k2, k3, k4, k5, f4, f5⟩ := B.cells; clear hb1))
      have r0 := (B.put 0 (.slice none 0 0)).1.cell 0
      have r1 := (B.put 0 (.slice none 0 0)).1.cell 1
      simp only [List.getElem?_toArray, List.getElem?_cons_zero, List.getElem?_cons_succ] at r0 r1
      exact bodyPost_ret (v := .tuple #[.agg #[.int .i64 0, .slice none 0 0], .int .i64 0, .int .i64 1]) (by simp [results, Try.results16, go_sem, r0, r1]) rfl (B.badC HN.out)
    | true =>
      rw [hrf] at HRF
      cases hll : Gm.litB nf fg.length l with
      | false =>
        rw [hll] at HLI
        clear hrt hno hrf hll
        go_wp2_with (first | (go_at_call 28; (first | with_reducible refine (HRT.out _ B.low).mono ?_ | with_reducible refine (HRF.out _ B.low).mono ?_); rintro e w1 ⟨rfl, hb1⟩; replace B := B.below hb1; clear k0 k1 k2 k3 k4 k5 f4 f5; obtain ⟨k0, k1, k2, k3, k4, k5, f4, f5⟩ := B.cells; clear hb1) | (go_at_call 25; refine (HLI.out _).mono ?_; rintro e w1 ⟨rfl, hb1⟩; replace B := B.below hb1; clear k0 k1 k2 k3 k4 k5 f4 f5; obtain ⟨k0, k1, k2, k3, k4, k5, f4, f5⟩ := B.cells; clear hb1))
        have r0 := (B.put 0 (.slice none 0 0)).1.cell 0
        have r1 := (B.put 0 (.slice none 0 0)).1.cell 1
        simp only [List.getElem?_toArray, List.getElem?_cons_zero, List.getElem?_cons_succ] at r0 r1
        exact bodyPost_ret (v := .tuple #[.agg #[.int .i64 0, .slice none 0 0], .int .i64 0, .int .i64 1]) (by simp [results, Try.results16, go_sem, r0, r1]) rfl (B.badC HN.out)
      | true =>
        rw [hll] at HLI
        have hne : ((by_.length : Int) != nf) = true := by
          have : ¬ (by_.length : Int) = nf := fun h => hno ⟨hrt, hrf, hll, h⟩
          simpa using this
        clear hrt hno hrf hll
        go_wp2_with (first | (go_at_call 28; (first | with_reducible refine (HRT.out _ B.low).mono ?_ | with_reducible refine (HRF.out _ B.low).mono ?_); rintro e w1 ⟨rfl, hb1⟩; replace B := B.below hb1; clear k0 k1 k2 k3 k4 k5 f4 f5; obtain ⟨k0, k1, k2, k3, k4, k5, f4, f5⟩ := B.cells; clear hb1) | (go_at_call 25; refine (HLI.out _).mono ?_; rintro e w1 ⟨rfl, hb1⟩; replace B := B.below hb1; clear k0 k1 k2 k3 k4 k5 f4 f5; obtain ⟨k0, k1, k2, k3, k4, k5, f4, f5⟩ := B.cells; clear hb1))
        have r0 := (B.put 0 (.slice none 0 0)).1.cell 0
        have r1 := (B.put 0 (.slice none 0 0)).1.cell 1
        simp only [List.getElem?_toArray, List.getElem?_cons_zero, List.getElem?_cons_succ] at r0 r1
        exact bodyPost_ret (v := .tuple #[.agg #[.int .i64 0, .slice none 0 0], .int .i64 0, .int .i64 1]) (by simp [results, Try.results16, go_sem, r0, r1]) rfl (B.badC HN.out)
end Go.Proofs.Ytjjdgiondpnpcaa
