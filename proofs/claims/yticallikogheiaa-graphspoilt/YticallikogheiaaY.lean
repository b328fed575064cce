/- The reference's Or and Ite. -/
import Derived.Test.YticallikogheiaaX
namespace Go.Proofs.Yticallikogheiaa
open Go.RowKit

theorem RefPost.ne {r : Gm.Res} {A A' : Option Addr} {gs : List (Int × Int)} {w V : World} {B k : Nat} (hg : Gr w B A gs) (hs : (A' = A ∧ r.1.2 = gs) ∨ Sep 0 V.heap.size A') (hB : B ≤ k) (hk : k < V.heap.size) :
    0 < r.1.2.length → ∀ ad, A' = some ad → ad.block ≠ k := by
  intro hp ad e
  rcases hs with ⟨rfl, h⟩ | h
  · rw [h] at hp
    obtain ⟨b, o, e', hb, _⟩ := hg 0 hp
    rw [e'] at e
    injection e with e
    subst e
    simp
    omega
  · exact h.ne (Nat.zero_le _) hk ad e

set_option maxRecDepth 100000 in
set_option maxHeartbeats 4000000 in
theorem refOr_any (n : Int) (A : Option Addr) (c : Nat) (gs : List (Int × Int)) (a b : Int) (w : World) (B : Nat) (hl : gs.length ≤ 999999) (hg : Gr w B A gs) (hB : B ≤ w.heap.size) (hw : Wf gs)
    (ha1 : a ≤ 9223372036854775807) (hb1 : b ≤ 9223372036854775807) :
    Calls Try.prog 21 #[.agg #[.int .i64 n, .slice A gs.length c], .int .i64 a, .int .i64 b] w (RefPost (Gm.orS n gs a b) A gs w) := by
  obtain ⟨W, hW⟩ : ∃ W, W = ((w.alloc (Obj.cells #[Value.int .i64 n, .slice A gs.length c] 24)).alloc (Obj.cells #[.int .i64 0, .slice none 0 0] 24)) := ⟨_, rfl⟩
  have hbx : Boxes w W n (.slice A gs.length c) := by
    rw [hW]
    exact ⟨((Below.refl w.heap.size w).alloc (Nat.le_refl _) _).alloc (by simp) _, by go_simp, by go_simp, by go_simp, by go_simp, by go_simp, by go_simp, by simp⟩
  have HL := Lib.hid hl
  clear hl
  have bad0 : ∀ {r : Gm.Res} {e : Int}, r = Gm.bad e → RefPost r A gs w (.returned (.tuple #[.agg #[.int .i64 0, .slice none 0 0], .int .i64 0, .int .i64 e])) W := fun {r e} hr => by
    subst hr
    exact ⟨none, 0, rfl, fun k hk => by simp [Gm.bad] at hk, Or.inr Sep.none_, hbx.low⟩
  by_cases hneg : a < 0 ∨ b < 0
  · have HS := Lib.hid (bad0 (show Gm.orS n gs a b = Gm.bad 1 by unfold Gm.orS; rw [if_pos hneg]))
    have e0 := hbx.e0
    have e1 := hbx.e1
    clear bad0
    by_cases ha : a < 0
    · clear hneg
      go_enter Try.func21, Try.ntmps21
      go_wp2
      subst hW
      exact bodyPost_ret (v := .tuple #[.agg #[.int .i64 0, .slice none 0 0], .int .i64 0, .int .i64 1]) (by simp [results, Try.results21, go_sem, e0, e1]) rfl HS.out
    · have hb : b < 0 := by omega
      clear hneg
      go_enter Try.func21, Try.ntmps21
      go_wp2
      subst hW
      exact bodyPost_ret (v := .tuple #[.agg #[.int .i64 0, .slice none 0 0], .int .i64 0, .int .i64 1]) (by simp [results, Try.results21, go_sem, e0, e1]) rfl HS.out
  · clear bad0
    have ha0 : 0 ≤ a := by omega
    have hb0 : 0 ≤ b := by omega
    have hfx := and_facts n gs (Gm.negB a) (Gm.negB b) hw
    have hna : Gm.negB a ≤ 9223372036854775807 := by unfold Gm.negB; split <;> omega
    have hnb : Gm.negB b ≤ 9223372036854775807 := by unfold Gm.negB; split <;> omega
    have HAND := Lib.hid (refAnd_any n A c gs (Gm.negB a) (Gm.negB b) W B (by have := HL.out; omega) (hg.below hbx.low hB) (Nat.le_trans hB hbx.low.size) hw hna hnb)
    have hS : Gm.orS n gs a b = if (Gm.andS n gs (Gm.negB a) (Gm.negB b)).2.2 = 0 then ((Gm.andS n gs (Gm.negB a) (Gm.negB b)).1, Gm.negB (Gm.andS n gs (Gm.negB a) (Gm.negB b)).2.1, 0) else Gm.bad (Gm.andS n gs (Gm.negB a) (Gm.negB b)).2.2 := by unfold Gm.orS; rw [if_neg hneg]
    generalize Gm.andS n gs (Gm.negB a) (Gm.negB b) = r at *
    obtain ⟨⟨n1, gs1⟩, l1, er⟩ := r
    simp only at hS
    have HS := Lib.hid hS
    clear hS
    have hl0 : 0 ≤ l1 := hfx.lit0
    have hl1 : l1 ≤ 4000 := hfx.lit1
    have hba := Gm.bits_neg a ha0 ha1
    have hbb := Gm.bits_neg b hb0 hb1
    have hbl := Gm.bits_neg l1 hl0 (by omega)
    clear hneg
    go_enter Try.func21, Try.ntmps21
    go_wp2_with fail
    rw [← hW]
    clear hW
    refine HAND.out.mono ?_
    rintro e w6 ⟨A', c', rfl, hG, hsep, hb6⟩
    have hx6 := hbx.below hb6
    have hne := RefPost.ne (r := ((n1, gs1), l1, er)) (k := w.heap.size + 1) hg hsep (by omega) hbx.sz
    have hx7 := hx6.alloc (Obj.cells #[.int .i64 n1, .slice A' gs1.length c'] 24)
    have hb7 := (Below.refl w6.heap.size w6).alloc (Nat.le_refl _) (Obj.cells #[.int .i64 n1, .slice A' gs1.length c'] 24)
    have hG7 := (hG.below hb7 (Nat.le_refl _)).more hb7.size
    have hk := Blk.new w6 24 #[.int .i64 n1, .slice A' gs1.length c']
    have k0 := hk.cell 0
    have k1 := hk.cell 1
    simp only [List.getElem?_toArray, List.getElem?_cons_zero, List.getElem?_cons_succ] at k0 k1
    have hsep' : (A' = A ∧ gs1 = gs) ∨ Sep 0 w.heap.size A' := hsep.imp id (fun h => h.mono (Nat.le_refl _) hbx.low.size)
    go_upto_if 30 with fail
    generalize w6.alloc (Obj.cells #[.int .i64 n1, .slice A' gs1.length c'] 24) = V at *
    have e0 := hx7.e0
    have e1 := hx7.e1
    have f0 := hx7.f0
    have f1 := hx7.f1
    by_cases her : er = 0
    · subst her
      have hS2 := HS.out
      rw [if_pos rfl] at hS2
      have HS2 := Lib.hid hS2
      clear hS2 HS
      go_wp2
      obtain ⟨r0, r1⟩ := and_cells (u := .int .i64 n1) (v := .slice A' gs1.length c') hx7
      have hfin := ref_close (r := ((n1, gs1), Gm.negB l1, 0)) (A := A) (gs := gs) (c' := c') hx7 hG7 hsep' hne
      exact bodyPost_ret (v := .tuple #[.agg #[.int .i64 n1, .slice A' gs1.length c'], .int .i64 (Gm.negB l1), .int .i64 0]) (by simp [results, Try.results21, go_sem, r0, r1]) rfl (by rw [HS2.out]; exact hfin)
    · have hS2 := HS.out
      rw [if_neg her] at hS2
      have HS2 := Lib.hid hS2
      have hq : (er != 0) = true := by simp [her]
      clear hS2 HS her
      go_wp2
      obtain ⟨r0, r1⟩ := and_cells (u := .int .i64 0) (v := .slice none 0 0) hx7
      exact bodyPost_ret (v := .tuple #[.agg #[.int .i64 0, .slice none 0 0], .int .i64 0, .int .i64 er]) (by simp [results, Try.results21, go_sem, r0, r1]) rfl (ref_bad hx7 HS2.out)
end Go.Proofs.Yticallikogheiaa
