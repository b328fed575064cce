/- graph.Or. -/
import Derived.Test.YtpbbjklacgkcgaaDoorP
import Derived.Deep.DeepCutAuto
namespace Go.Proofs.YtpbbjklacgkcgaaDoor
open Go.RowKit

theorem Boxes.alloc {w W : World} {n : Int} {s : Value} (h : Boxes w W n s) (o : Obj) : Boxes w (W.alloc o) n s := h.below ((Below.refl W.heap.size W).alloc (Nat.le_refl _) o)
theorem and_bad0 {w w2 : World} {n : Int} {s : Value} {B : Nat} {r : Gm.Res} {e : Int} (h : Boxes w w2 n s) (hr : r = Gm.bad e) :
    AndPost r B w (.returned (.tuple #[.agg #[.int .i64 0, .slice none 0 0], .int .i64 0, .int .i64 e])) w2 := by
  subst hr
  exact ⟨none, 0, rfl, fun k hk => by simp [Gm.bad] at hk, Sep.none_, h.low⟩

theorem AndPost.drew {r : Gm.Res} {B : Nat} {w V : World} {e : Ending} (h : AndPost r B w e V) : AndPost r B w e V.drew := by
  obtain ⟨A', c', he, hG, hs, hb⟩ := h
  exact ⟨A', c', he, hG, hs, hb.drew⟩
/-- A graph in a box of its own, with a literal and an error. -/
def HBox (w : World) (B : Nat) (n : Int) (s : Value) (n1 : Int) (gs1 : List (Int × Int)) (l1 er : Int) (s9 s10 s11 : Value) (V : World) : Prop :=
  ∃ (k : Nat) (A' : Option Addr) (c' : Nat), s9 = .pointer (some ⟨k, 0, none⟩) ∧ s10 = .int .i64 l1 ∧ s11 = .int .i64 er ∧ w.heap.size + 1 < k ∧ Boxes w V n s ∧ V.cell? ⟨k, 0, none⟩ = some (.int .i64 n1) ∧ V.cell? ⟨k, 1, none⟩ = some (.slice A' gs1.length c') ∧
    Gr V V.heap.size A' gs1 ∧ Sep B (w.heap.size + 2) A'
theorem HBox.fresh {w w6 : World} {B : Nat} {n : Int} {s : Value} {n1 : Int} {gs1 : List (Int × Int)} {l1 er : Int} {A' : Option Addr} {c' : Nat} {t : TypeId} (h : Boxes w w6 n s) (hG : Gr w6 w6.heap.size A' gs1) (hs : Sep B (w.heap.size + 2) A') :
    HBox w B n s n1 gs1 l1 er (.pointer (some ⟨w6.heap.size, 0, none⟩)) (.int .i64 l1) (.int .i64 er) (w6.alloc (Obj.cells #[.int .i64 n1, .slice A' gs1.length c'] t)) := by
  have hb := (Below.refl w6.heap.size w6).alloc (Nat.le_refl _) (Obj.cells #[.int .i64 n1, .slice A' gs1.length c'] t)
  have hk := Blk.new w6 t #[.int .i64 n1, .slice A' gs1.length c']
  exact ⟨w6.heap.size, A', c', rfl, rfl, rfl, h.sz, h.alloc _, hk.cell 0, hk.cell 1, (hG.below hb (Nat.le_refl _)).more hb.size, hs⟩
theorem HBox.old {w w6 : World} {B : Nat} {n : Int} {s : Value} {n1 : Int} {gs1 : List (Int × Int)} {l1 er : Int} {A' : Option Addr} {c' k : Nat} {x0 x1 : Value} (h : Boxes w w6 n s) (hG : Gr w6 w6.heap.size A' gs1) (hs : Sep B (w.heap.size + 2) A')
    (hk : w.heap.size + 1 < k) (y0 : w6.cell? ⟨k, 0, none⟩ = some x0) (y1 : w6.cell? ⟨k, 1, none⟩ = some x1) (hne : ∀ ad, A' = some ad → ad.block ≠ k) :
    HBox w B n s n1 gs1 l1 er (.pointer (some ⟨k, 0, none⟩)) (.int .i64 l1) (.int .i64 er) ((w6.setCell ⟨k, 0, none⟩ (.int .i64 n1)).setCell ⟨k, 1, none⟩ (.slice A' gs1.length c')) := by
  have hg : w6.grownBy ((w6.setCell ⟨k, 0, none⟩ (.int .i64 n1)).setCell ⟨k, 1, none⟩ (.slice A' gs1.length c')) (some k) :=
    grown_set (p := ⟨k, 1, none⟩) (grown_set (p := ⟨k, 0, none⟩) (World.grownBy.refl w6 (some k)) (Or.inl rfl) (.int .i64 n1)) (Or.inl rfl) (.slice A' gs1.length c')
  refine ⟨k, A', c', rfl, rfl, rfl, hk, h.grown hg hk, ?_, ?_, ?_, hs⟩
  · exact (World.cell?_setCell_other _ _ _ _ (by simp)).trans (World.cell?_setCell_same _ _ _ y0)
  · exact World.cell?_setCell_same _ _ _ ((World.cell?_setCell_other _ _ _ _ (by simp)).trans y1)
  · have := (hG.set (p := ⟨k, 0, none⟩) hne (.int .i64 n1)).set (p := ⟨k, 1, none⟩) hne (.slice A' gs1.length c')
    simpa using this

set_option maxRecDepth 100000 in
set_option maxHeartbeats 4000000 in
theorem or_any (n : Int) (A : Option Addr) (c : Nat) (gs : List (Int × Int)) (a b : Int) (w : World) (B : Nat) (hl : gs.length ≤ 999999) (hg : Gr w B A gs) (hB : B ≤ w.heap.size) (hw : Wf gs)
    (ha1 : a ≤ 9223372036854775807) (hb1 : b ≤ 9223372036854775807) :
    Calls Tryd.prog 21 #[.agg #[.int .i64 n, .slice A gs.length c], .int .i64 a, .int .i64 b] w (AndPost (Gm.orS n gs a b) 0 w) := by
  obtain ⟨W, hW⟩ : ∃ W, W = ((w.alloc (Obj.cells #[Value.int .i64 n, .slice A gs.length c] 24)).alloc (Obj.cells #[.int .i64 0, .slice none 0 0] 24)) := ⟨_, rfl⟩
  have hbx : Boxes w W n (.slice A gs.length c) := by
    rw [hW]
    exact ⟨((Below.refl w.heap.size w).alloc (Nat.le_refl _) _).alloc (by simp) _, by go_simp, by go_simp, by go_simp, by go_simp, by go_simp, by go_simp, by simp⟩
  have HL := Lib.hid hl
  clear hl
  by_cases hneg : a < 0 ∨ b < 0
  · have hS : Gm.orS n gs a b = Gm.bad 1 := by unfold Gm.orS; rw [if_pos hneg]
    have HS := Lib.hid hS
    clear hS
    have e0 := hbx.e0
    have e1 := hbx.e1
    have f0 := hbx.f0
    have f1 := hbx.f1
    by_cases ha : a < 0
    · clear hneg
      go_enter Tryd.func21, Tryd.ntmps21
      go_wp2
      subst hW
      exact bodyPost_ret (v := .tuple #[.agg #[.int .i64 0, .slice none 0 0], .int .i64 0, .int .i64 1]) (by simp [results, Tryd.results21, go_sem, e0, e1]) rfl (and_bad0 hbx HS.out)
    · have hb : b < 0 := by omega
      clear hneg
      go_enter Tryd.func21, Tryd.ntmps21
      go_wp2
      subst hW
      exact bodyPost_ret (v := .tuple #[.agg #[.int .i64 0, .slice none 0 0], .int .i64 0, .int .i64 1]) (by simp [results, Tryd.results21, go_sem, e0, e1]) rfl (and_bad0 hbx HS.out)
  · have ha0 : 0 ≤ a := by omega
    have hb0 : 0 ≤ b := by omega
    have hfx := and_facts n gs (Gm.negB a) (Gm.negB b) hw
    have HNA := Lib.hid (fun W => negated_any a W ha0 ha1)
    have HNB := Lib.hid (fun W => negated_any b W hb0 hb1)
    have HAND := Lib.hid (fun V (hV : Boxes w V n (.slice A gs.length c)) => and_any n A c gs (Gm.negB a) (Gm.negB b) V B (by have := HL.out; omega) (hg.below hV.low hB) (by have := hV.low.size; omega) hw)
    have hal := hbx.alloc (Obj.cells #[.int .i64 0, .slice none 0 0] 24)
    have zc0 : (W.alloc (Obj.cells #[.int .i64 0, .slice none 0 0] 24)).cell? ⟨W.heap.size, 0, none⟩ = some (.int .i64 0) := by simp
    have zc1 : (W.alloc (Obj.cells #[.int .i64 0, .slice none 0 0] 24)).cell? ⟨W.heap.size, 1, none⟩ = some (.slice none 0 0) := by simp
    have zf0 : (W.alloc (Obj.cells #[.int .i64 0, .slice none 0 0] 24)).frozen? ⟨W.heap.size, 0, none⟩ = false := by simp
    have zf1 : (W.alloc (Obj.cells #[.int .i64 0, .slice none 0 0] 24)).frozen? ⟨W.heap.size, 1, none⟩ = false := by simp
    have hWs := hbx.sz
    have hzW : W.heap.size < (W.alloc (Obj.cells #[.int .i64 0, .slice none 0 0] 24)).drew.heap.size := by simp
    have hnW0 : W.heap.size ≠ w.heap.size := by omega
    have hS : Gm.orS n gs a b = if (Gm.andS n gs (Gm.negB a) (Gm.negB b)).2.2 = 0 then ((Gm.andS n gs (Gm.negB a) (Gm.negB b)).1, Gm.negB (Gm.andS n gs (Gm.negB a) (Gm.negB b)).2.1, 0) else Gm.bad (Gm.andS n gs (Gm.negB a) (Gm.negB b)).2.2 := by unfold Gm.orS; rw [if_neg hneg]
    generalize Gm.andS n gs (Gm.negB a) (Gm.negB b) = r at *
    obtain ⟨⟨n1, gs1⟩, l1, er⟩ := r
    simp only at hS
    have HS := Lib.hid hS
    clear hS
    have hl0 : 0 ≤ l1 := hfx.lit0
    have hl1 : l1 ≤ 4000 := hfx.lit1
    have d0 := hbx.d0
    have d1 := hbx.d1
    clear hneg
    go_enter Tryd.func21, Tryd.ntmps21
    go_upto_region 3 with fail
    rw [← hW]
    clear hW
    go_cut [9, 10, 11] (fun s9 s10 s11 wx => HBox w 0 n (.slice A gs.length c) n1 gs1 l1 er s9 s10 s11 wx)
    case first =>
      go_region_held3 (fun W => W.cell? ⟨w.heap.size, 0, none⟩ = some (.int .i64 n) ∧ W.cell? ⟨w.heap.size, 1, none⟩ = some (.slice A gs.length c))
        (first | exact ⟨d0, d1⟩ | exact ⟨hx6.d0, hx6.d1⟩ | exact ⟨(Boxes.alloc hx6 _).d0, (Boxes.alloc hx6 _).d1⟩ | exact ⟨hal.d0, hal.d1⟩ | exact ⟨keep_res hx6.d0 hnW0, keep_res hx6.d1 hnW0⟩)
        (first | (go_at_call_of 46 (Value.int .i64 a); refine (HNA.out _).mono ?_; rintro e w' ⟨rfl, rfl⟩) | (go_at_call_of 46 (Value.int .i64 b); refine (HNB.out _).mono ?_; rintro e w' ⟨rfl, rfl⟩)
               | (go_at_call 20; ((with_reducible refine (HAND.out W.drew hbx.drew).mono ?_); rintro e w6 ⟨A', c', rfl, hG, hsep, hb6⟩; have hx6 := hbx.drew.below hb6; have hsp : Sep 0 (w.heap.size + 2) A' := hsep.mono (Nat.le_refl _) hWs))
               | (go_at_call 20; ((with_reducible refine (HAND.out (W.alloc (Obj.cells #[.int .i64 0, .slice none 0 0] 24)).drew hal.drew).mono ?_); rintro e w6 ⟨A', c', rfl, hG, hsep, hb6⟩; have hx6 := hal.drew.below hb6; have hsp : Sep 0 (w.heap.size + 2) A' := hsep.mono (Nat.le_refl _) hal.sz; have y0 := (hb6.cell (p := ⟨W.heap.size, 0, none⟩) hzW).trans zc0; have y1 := (hb6.cell (p := ⟨W.heap.size, 1, none⟩) hzW).trans zc1; have y2 := (hb6.frozen (p := ⟨W.heap.size, 0, none⟩) hzW).trans zf0; have y3 := (hb6.frozen (p := ⟨W.heap.size, 1, none⟩) hzW).trans zf1; have hneA : ∀ ad, A' = some ad → ad.block ≠ W.heap.size := hsep.ne (Nat.zero_le _) hzW)))
      all_goals (go_wp2_with fail; go_meet; first | exact HBox.fresh hx6 hG hsp | exact HBox.old hx6 hG hsp hWs y0 y1 hneA)
    case rest =>
      obtain ⟨k, A', c', rfl, rfl, rfl, hkk, hx, k0, k1, hG, hsp⟩ := hcut
      clear HAND HNA HNB hal zc0 zc1 zf0 zf1 hWs hzW hnW0 d0 d1 hbx
      have e0 := hx.e0
      have e1 := hx.e1
      have f0 := hx.f0
      have f1 := hx.f1
      by_cases her : er = 0
      · subst her
        have hS2 := HS.out
        rw [if_pos rfl] at hS2
        have HS2 := Lib.hid hS2
        clear hS2 HS
        have hnk : w.heap.size + 1 ≠ k := by omega
        have HNL := Lib.hid (fun W => negated_any l1 W hl0 (by omega))
        go_wp2
        go_region_held3 (fun W => W.cell? ⟨k, 0, none⟩ = some (.int .i64 n1) ∧ W.cell? ⟨k, 1, none⟩ = some (.slice A' gs1.length c'))
          (first | exact ⟨k0, k1⟩ | exact ⟨keep_res k0 hnk, keep_res k1 hnk⟩)
          (first | (go_at_call 46; refine (HNL.out _).mono ?_; rintro e w' ⟨rfl, rfl⟩))
        go_wp2
        obtain ⟨r0, r1⟩ := and_cells (u := .int .i64 n1) (v := .slice A' gs1.length c') hx
        have hfin := and_close (r := ((n1, gs1), Gm.negB l1, 0)) (c' := c') hx (Nat.zero_le _) hG hsp
        exact bodyPost_ret (v := .tuple #[.agg #[.int .i64 n1, .slice A' gs1.length c'], .int .i64 (Gm.negB l1), .int .i64 0]) (by simp [results, Tryd.results21, go_sem, r0, r1]) rfl (by rw [HS2.out]; exact hfin.drew)
      · have hS2 := HS.out
        rw [if_neg her] at hS2
        have HS2 := Lib.hid hS2
        have hq : (er != 0) = true := by simp [her]
        clear hS2 HS her
        go_wp2
        obtain ⟨r0, r1⟩ := and_cells (u := .int .i64 0) (v := .slice none 0 0) hx
        exact bodyPost_ret (v := .tuple #[.agg #[.int .i64 0, .slice none 0 0], .int .i64 0, .int .i64 er]) (by simp [results, Tryd.results21, go_sem, r0, r1]) rfl (and_bad hx (Nat.zero_le _) HS2.out)
end Go.Proofs.YtpbbjklacgkcgaaDoor
