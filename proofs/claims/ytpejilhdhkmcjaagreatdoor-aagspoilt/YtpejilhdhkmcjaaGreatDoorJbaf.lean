/- The reference's Right. -/
import Derived.Test.YtpejilhdhkmcjaaGreatDoorJbAl
import Derived.Test.YtpejilhdhkmcjaaGreatDoorJbae
namespace Go.Proofs.YtpejilhdhkmcjaaGreatDoor
open Go.RowKit

/-- What holds of the box in which the graph lies. -/
structure GB (w W : World) (n : Int) (s : Value) : Prop where
 low : Below w.heap.size w W
 d0 : W.cell? ⟨w.heap.size, 0, none⟩ = some (.int .i64 n)
 d1 : W.cell? ⟨w.heap.size, 1, none⟩ = some s
 sz : w.heap.size < W.heap.size
theorem GB.below {w W W' : World} {n : Int} {s : Value} (h : GB w W n s) (hb : Below W.heap.size W W') : GB w W' n s :=
 ⟨h.low.trans (hb.mono h.low.size), (hb.cell (p := ⟨w.heap.size, 0, none⟩) h.sz).trans h.d0, (hb.cell (p := ⟨w.heap.size, 1, none⟩) h.sz).trans h.d1, Nat.lt_of_lt_of_le h.sz hb.size⟩
theorem GB.drewN {w W : World} {n : Int} {s : Value} (h : GB w W n s) (q : Nat) : GB w (W.drewN q) n s := ⟨below_drewN h.low q, h.d0, h.d1, h.sz⟩
theorem GB.new (w : World) (n : Int) (s : Value) (t : TypeId) : GB w (w.alloc (Obj.cells #[.int .i64 n, s] t)) n s := by
 have hk := Blk.new w t #[.int .i64 n, s]
 exact ⟨(Below.refl w.heap.size w).alloc (Nat.le_refl _) _, hk.cell 0, hk.cell 1, by simp⟩

theorem tdiv_neg {x : Int} (h : x < 0) : x.tdiv 2 ≤ 0 := by
 have e : x.tdiv 2 = -((-x).tdiv 2) := by rw [Int.neg_tdiv, Int.neg_neg]
 rw [e, Int.tdiv_eq_ediv_of_nonneg (by omega)]
 omega
/-- No gate ahead of k is the gate at i. -/
def NoneOf (gs : List (Int × Int)) (g : Int × Int) (k : Nat) : Prop := ∀ j, j < k → gs.getD j (0, 0) ≠ g
theorem none_nodup {gs : List (Int × Int)} {i : Nat} (hi : i < gs.length) (h : (gs.take i).Nodup) (hn : NoneOf gs gs[i] i) : (gs.take (i + 1)).Nodup := by
 refine (Gm.nod_take gs i hi).2 ⟨h, fun hm => ?_⟩
 obtain ⟨p, hp, e⟩ := List.mem_take_iff_getElem.1 hm
 refine hn p (by omega) ?_
 rw [← e]
 simp [List.getElem?_eq_getElem (show p < gs.length by omega)]
theorem dup_not {gs : List (Int × Int)} {i k : Nat} (hi : i < gs.length) (hk : k < i) (e : gs[k] = gs[i]) : Gm.nodB gs = false := by
 have : ¬ gs.Nodup := fun hn => by
  have h1 := hn.idxOf_getElem k (by omega)
  have h2 := hn.idxOf_getElem i hi
  rw [e, h2] at h1
  omega
 simp [Gm.nodB, this]

set_option maxRecDepth 100000 in
set_option maxHeartbeats 4000000 in
theorem refRight_any (n : Int) (A : Option Addr) (c : Nat) (gs : List (Int × Int)) (w : World) (B : Nat) (hl : gs.length ≤ 1000000) (hg : Gr w B A gs) (hB : B ≤ w.heap.size) (hw : Wf gs) :
  Calls Tryz.prog 56 #[.agg #[.int .i64 n, .slice A gs.length c]] w fun e w' => e = .returned (.bool (Gm.rightB n gs)) ∧ Below w.heap.size w w' := by
 have hgb := GB.new w n (.slice A gs.length c) 64
 by_cases hf : Gm.fitB n gs.length = true
 ·
  have hn : 0 ≤ n ∧ n ≤ 2000 ∧ 1 + n + gs.length ≤ 2000 := by simp [Gm.fitB] at hf; omega
  obtain ⟨hn0, hn1, hn2⟩ := hn
  have hl2 : gs.length ≤ 2000 := by omega
  have HF := Lib.hid hf
  have HL := Lib.hid hl
  have hvs : decide (2000 < n + 1 + (gs.length : Int)) = false := by simp; omega
  have b1 : decide (n < 0) = false := by simp; omega
  have b2 : decide (2000 < n) = false := by simp; omega
  have b3 : decide (2000 < (gs.length : Int)) = false := by simp; omega
  clear hf hl
  go_enter Tryz.func56, Tryz.ntmps56
  go_wp2_with (go_at_call 36; refine (refVars_any n A gs.length c _ hn0 hn1 HL.out).mono ?_; rintro e w1 ⟨rfl, hb1⟩)
  have hgb1 := hgb.below hb1
  clear hgb hb1 hvs b1 b2 b3
  go_loopw [3] (fun i wr => ∃ k : Nat, k ≤ gs.length ∧ i = .int .i64 (k : Int) ∧ Gm.ordB n 0 (gs.take k) = true ∧ (gs.take k).Nodup ∧ GB w wr n (.slice A gs.length c)) (fun i _ => gs.length - (intOf i).toNat)
  case atStart => exact ⟨0, Nat.zero_le _, rfl, rfl, by simp, hgb1⟩
  obtain ⟨i, hi, rfl, ho, hnd, hgr⟩ := hrel
  have d0 := hgr.d0
  have d1 := hgr.d1
  have hgl := hg.below hgr.low hB
  by_cases hlt : i < gs.length
  ·
   obtain ⟨bb, off, hA, hbB, g1, g2⟩ := hgl i hlt
   subst hA
   have hwk := hw gs[i] (by simp)
   have hot := Gm.ordB_take n gs i hlt
   have hof := fun h => Gm.ordB_false n gs 0 i hlt h
   rw [Nat.zero_add] at hof
   have hnn := none_nodup hlt hnd
   have hdn : ∀ k, k < i → (hk : k < gs.length) → gs[k] = gs[i] → Gm.nodB gs = false := fun k h1 _ e => dup_not hlt h1 e
   generalize hgi : gs[i] = g at *
   obtain ⟨x, y⟩ := g
   have HGI := Lib.hid hgi
   clear hgi
   simp only at g1 g2 hwk
   obtain ⟨⟨hx0, hx1⟩, hy0, hy1⟩ := hwk
   rw [ho, Bool.true_and] at hot
   have H1 := Lib.hid hot
   have H2 := Lib.hid hof
   have H3 := Lib.hid hnn
   have H4 := Lib.hid hdn
   have HO := Lib.hid ho
   have HND := Lib.hid hnd
   have HG := Lib.hid hgl
   clear hot hof hnn hdn ho hnd hgl
   have hix := ix2 bb off gs.length c i HL.out hlt
   by_cases hgate : Gm.gateB n i (x, y) = true
   ·
    have hgx : 2 ≤ y ∧ y / 2 < x / 2 ∧ x / 2 < n + 1 + (i : Int) := by simp [Gm.gateB] at hgate; omega
    obtain ⟨hy2, hyx, hxn⟩ := hgx
    have hxp : 0 ≤ x := by omega
    have hT := Lib.hid (H1.out.trans hgate)
    have b1 : decide (y < 2) = false := by simp; omega
    have b2 : decide (x / 2 ≤ y / 2) = false := by simp; omega
    have b3 : decide (n + 1 + (i : Int) ≤ x / 2) = false := by simp; omega
    clear hgate H1 H2
    go_wp2
    go_quiet (fail)
    go_wp2
    clear b1 b2 b3
    go_loopw [6] (fun j wr => ∃ k : Nat, k ≤ i ∧ j = .int .i64 (k : Int) ∧ NoneOf gs (x, y) k ∧ GB w wr n (.slice (some ⟨bb, off, none⟩) gs.length c)) (fun j _ => i - (intOf j).toNat)
    case atStart => exact ⟨0, Nat.zero_le _, rfl, fun j hj => by omega, hgr.drewN _⟩
    obtain ⟨k, hk, rfl, hno, hgk⟩ := hrel
    have HNO := Lib.hid hno
    clear hno d0 d1
    have d0 := hgk.d0
    have d1 := hgk.d1
    have hgl2 := hg.below hgk.low hB
    by_cases hlt2 : k < i
    ·
     obtain ⟨b2, off2, hA2, _, p1, p2⟩ := hgl2 k (by omega)
     obtain ⟨b3, off3, hA3, _, p3, p4⟩ := hgl2 i hlt
     injection hA2 with hA2
     injection hA2 with hA2 hA2'
     subst hA2 hA2'
     injection hA3 with hA3
     injection hA3 with hA3 hA3'
     subst hA3 hA3'
     rw [HGI.out] at p3 p4
     simp only at p3 p4
     have hix2 := ix2 bb off gs.length c k HL.out (by omega)
     have hgu := eqGuard2
     generalize hgk2 : gs[k] = g2' at *
     obtain ⟨x2, y2⟩ := g2'
     have HGK := Lib.hid hgk2
     clear hgk2
     simp only at p1 p2
     have hel := eql_arr2 x2 y2 x y
     by_cases he : (x2, y2) = (x, y)
     ·
      have hnb := H4.out k hlt2 (by omega) (by rw [HGK.out, he])
      have HR := Lib.hid (show Gm.rightB n gs = false by simp [Gm.rightB, hnb])
      have hbe : (x2 == x && y2 == y) = true := by simp only [Prod.mk.injEq] at he; simp [he.1, he.2]
      rw [hbe] at hel
      clear hbe he hnb
      go_wp2
      go_quiet (fail)
      go_wp2
      go_ret
      exact ⟨ret_bool HR.out.symm, by exact below_drewN hgk.low _⟩
     have hbe : (x2 == x && y2 == y) = false := by
      simp only [Prod.mk.injEq] at he
      by_cases h1 : x2 = x
      ·
       have : ¬ y2 = y := fun h2 => he ⟨h1, h2⟩
       simp [this]
      simp [h1]
     have HNN := Lib.hid (show NoneOf gs (x, y) (k + 1) from fun j hj => by
      by_cases e : j < k
      ·
       exact HNO.out j e
      have : j = k := by omega
      subst this
      rw [List.getD_eq_getElem?_getD, List.getElem?_eq_getElem (by omega), HGK.out]
      exact he)
     rw [hbe] at hel
     clear hbe he
     go_wp2
     go_quiet (fail)
     go_wp2
     go_roundw
     case rel => exact ⟨k + 1, by omega, by go_num, HNN.out, hgk.drewN _⟩
     case measure => simp [intOf]; omega
    have hkk : k = i := by omega
    subst hkk
    have HNX := Lib.hid (H3.out HNO.out)
    go_wp2
    go_roundw
    case rel => exact ⟨k + 1, by omega, by go_num, hT.out, HNX.out, hgk⟩
    case measure => simp [intOf]; omega
   have hr : Gm.rightB n gs = false := by
    have := H2.out (by simpa using hgate)
    simp [Gm.rightB, this]
   have HR := Lib.hid hr
   clear hr
   by_cases hy : y < 2
   ·
    clear hgate
    go_wp2
    go_quiet (fail)
    go_wp2
    go_ret
    exact ⟨ret_bool HR.out.symm, by exact below_drewN hgr.low _⟩
   by_cases hx : x < 0
   ·
    have htd : x.tdiv 2 ≤ y / 2 := by have := tdiv_neg hx; omega
    clear hgate
    go_wp2
    go_quiet (fail)
    go_wp2
    go_ret
    exact ⟨ret_bool HR.out.symm, by exact below_drewN hgr.low _⟩
   by_cases hxy : x / 2 ≤ y / 2
   ·
    clear hgate
    go_wp2
    go_quiet (fail)
    go_wp2
    go_ret
    exact ⟨ret_bool HR.out.symm, by exact below_drewN hgr.low _⟩
   have hxx : n + 1 + (i : Int) ≤ x / 2 := by simp [Gm.gateB] at hgate; omega
   clear hgate
   go_wp2
   go_quiet (fail)
   go_wp2
   go_ret
   exact ⟨ret_bool HR.out.symm, by exact below_drewN hgr.low _⟩
  have hkk : i = gs.length := by omega
  have HR : Hid (Gm.rightB n gs = true) := by
   rw [hkk, List.take_length] at ho hnd
   show Gm.rightB n gs = true
   simp [Gm.rightB, HF.out, ho, Gm.nodB, hnd]
  clear ho hnd hkk
  go_wp2
  go_ret
  exact ⟨ret_bool HR.out.symm, hgr.low⟩
 have HR := Lib.hid (show Gm.rightB n gs = false by simp [Gm.rightB, hf])
 have HL := Lib.hid hl
 by_cases h0 : n < 0
 ·
  clear hf hl
  go_enter Tryz.func56, Tryz.ntmps56
  go_wp2
  go_ret
  exact ⟨ret_bool HR.out.symm, hgb.low⟩
 by_cases h1 : 2000 < n
 ·
  clear hf hl
  go_enter Tryz.func56, Tryz.ntmps56
  go_wp2
  go_ret
  exact ⟨ret_bool HR.out.symm, hgb.low⟩
 by_cases h2 : 2000 < gs.length
 ·
  have h2' : (2000 : Int) < gs.length := by omega
  clear hf hl
  go_enter Tryz.func56, Tryz.ntmps56
  go_wp2_with fail
  go_ret
  exact ⟨ret_bool HR.out.symm, hgb.low⟩
 have h3 : 2000 < n + 1 + (gs.length : Int) := by simp [Gm.fitB] at hf; omega
 have b1 : decide (n < 0) = false := by simp; omega
 have b2 : decide (2000 < n) = false := by simp; omega
 have b3 : decide (2000 < (gs.length : Int)) = false := by simp; omega
 clear hf hl
 go_enter Tryz.func56, Tryz.ntmps56
 go_wp2_with (go_at_call 36; refine (refVars_any n A gs.length c _ (by omega) (by omega) HL.out).mono ?_; rintro e w1 ⟨rfl, hb1⟩)
 go_ret
 exact ⟨ret_bool HR.out.symm, (hgb.below hb1).low⟩
end Go.Proofs.YtpejilhdhkmcjaaGreatDoor
/- The reference's And. -/
namespace Go.Proofs.YtpejilhdhkmcjaaGreatDoor
open Go.RowKit

/-- What the reference hands back: the slice that it was given, or a new one. -/
def RefPost (r : Gm.Res) (A : Option Addr) (gs : List (Int × Int)) (w : World) (e : Ending) (w' : World) : Prop :=
 ∃ A' c', e = .returned (.tuple #[.agg #[.int .i64 r.1.1, .slice A' r.1.2.length c'], .int .i64 r.2.1, .int .i64 r.2.2]) ∧ Gr w' w'.heap.size A' r.1.2 ∧ ((A' = A ∧ r.1.2 = gs) ∨ Sep 0 w.heap.size A') ∧ Below w.heap.size w w'
theorem RefPost.drew {r : Gm.Res} {A : Option Addr} {gs : List (Int × Int)} {w V : World} {e : Ending} (h : RefPost r A gs w e V) : RefPost r A gs w e V.drew := by
 obtain ⟨A', c', he, hG, hs, hb⟩ := h
 exact ⟨A', c', he, hG, hs, hb.drew⟩
theorem Gr.set0 {w : World} {C : Nat} {A : Option Addr} {gs : List (Int × Int)} (h : Gr w C A gs) {p : Addr} (hp : 0 < gs.length → ∀ ad, A = some ad → ad.block ≠ p.block) (u : Value) : Gr (w.setCell p u) C A gs := by
 by_cases h0 : 0 < gs.length
 ·
  exact h.set (hp h0) u
 exact fun k hk => by omega
theorem ref_close {w w2 : World} {n : Int} {s : Value} {r : Gm.Res} {A A' : Option Addr} {gs : List (Int × Int)} {c' : Nat} (h : Boxes w w2 n s) (hG : Gr w2 w2.heap.size A' r.1.2) (hs : (A' = A ∧ r.1.2 = gs) ∨ Sep 0 w.heap.size A') (hne : 0 < r.1.2.length → ∀ ad, A' = some ad → ad.block ≠ w.heap.size + 1) :
  RefPost r A gs w (.returned (.tuple #[.agg #[.int .i64 r.1.1, .slice A' r.1.2.length c'], .int .i64 r.2.1, .int .i64 r.2.2]))
   ((w2.setCell ⟨w.heap.size + 1, 0, none⟩ (.int .i64 r.1.1)).setCell ⟨w.heap.size + 1, 1, none⟩ (.slice A' r.1.2.length c')) := by
 refine ⟨A', c', rfl, ?_, hs, (h.low.setCell (by simp) _).setCell (by simp) _⟩
 have := (hG.set0 (p := ⟨w.heap.size + 1, 0, none⟩) hne (.int .i64 r.1.1)).set0 (p := ⟨w.heap.size + 1, 1, none⟩) hne (.slice A' r.1.2.length c')
 simpa using this
theorem ref_bad {w w2 : World} {n : Int} {s : Value} {r : Gm.Res} {e : Int} {A : Option Addr} {gs : List (Int × Int)} (h : Boxes w w2 n s) (hr : r = Gm.bad e) :
  RefPost r A gs w (.returned (.tuple #[.agg #[.int .i64 0, .slice none 0 0], .int .i64 0, .int .i64 e])) ((w2.setCell ⟨w.heap.size + 1, 0, none⟩ (.int .i64 0)).setCell ⟨w.heap.size + 1, 1, none⟩ (.slice none 0 0)) := by
 subst hr
 exact ref_close (r := Gm.bad e) (A' := none) (c' := 0) h (fun k hk => by simp [Gm.bad] at hk) (Or.inr Sep.none_) (fun _ _ e => by cases e)

theorem simple_max {a b x y : Int} (ha : 0 ≤ a) (hb : 0 ≤ b) (h : (max a b, min a b) = (x, y)) :
  Gm.simpleS a b = (if y = 0 ∨ (x / 2 = y / 2 ∧ x ≠ y) then some 0 else if y = 1 ∨ x = y then some x else none) := by
 simp only [Prod.mk.injEq] at h
 obtain ⟨hx, hy⟩ := h
 unfold Gm.simpleS Gm.negB
 rcases Int.lt_trichotomy a b with hlt | rfl | hlt
 ·
  rw [Int.max_eq_right (Int.le_of_lt hlt)] at hx
  rw [Int.min_eq_left (Int.le_of_lt hlt)] at hy
  subst hx hy
  by_cases h1 : a = 0 ∨ (b / 2 = a / 2 ∧ b ≠ a)
  ·
   rw [if_pos h1, if_pos (by split <;> omega)]
  rw [if_neg h1, if_neg (by intro h2; split at h2 <;> omega)]
  by_cases h3 : a = 1
  ·
   simp [h3]
  rw [if_neg h3]
  simp [h3, show ¬ b = 1 by omega, show ¬ a = b by omega, show ¬ b = a by omega]
 ·
  rw [Int.max_self] at hx
  rw [Int.min_self] at hy
  subst hx hy
  by_cases h1 : a = 0
  ·
   simp [h1]
  have h2 : ¬ (a = if a % 2 = 0 then a + 1 else a - 1) := by split <;> omega
  simp [h1, h2]
 rw [Int.max_eq_left (Int.le_of_lt hlt)] at hx
 rw [Int.min_eq_right (Int.le_of_lt hlt)] at hy
 subst hx hy
 by_cases h1 : b = 0 ∨ (a / 2 = b / 2 ∧ a ≠ b)
 ·
  rw [if_pos h1, if_pos (by split <;> omega)]
 rw [if_neg h1, if_neg (by intro h2; split at h2 <;> omega)]
 have h3 : ¬ a = 1 := by omega
 rw [if_neg h3]
theorem idx_none {gs : List (Int × Int)} {g : Int × Int} (h : NoneOf gs g gs.length) : gs.length ≤ gs.idxOf g := by
 have : g ∉ gs := fun hm => by
  obtain ⟨p, hp, e⟩ := List.mem_iff_getElem.1 hm
  exact h p hp (by simp [List.getElem?_eq_getElem hp, e])
 rw [List.idxOf_eq_length this]
 exact Nat.le_refl _
theorem idx_at {gs : List (Int × Int)} {g : Int × Int} {k : Nat} (hk : k < gs.length) (hn : NoneOf gs g k) (e : gs[k] = g) : gs.idxOf g = k := by
 have hm : g ∈ gs := by rw [← e]; exact List.getElem_mem hk
 have hlt := List.idxOf_lt_length_of_mem hm
 have hg := List.getElem_idxOf hlt
 rcases Nat.lt_trichotomy (gs.idxOf g) k with h | h | h
 ·
  exact absurd (by simp [List.getElem?_eq_getElem hlt, hg]) (hn _ h)
 ·
  exact h
 have := List.not_of_lt_findIdx (p := (· == g)) (xs := gs) (i := k) h
 simp [e] at this
end Go.Proofs.YtpejilhdhkmcjaaGreatDoor
/- The reference's And: the walk. -/
namespace Go.Proofs.YtpejilhdhkmcjaaGreatDoor
open Go.RowKit

set_option maxRecDepth 100000 in
set_option maxHeartbeats 4000000 in
theorem refAnd_arg (n : Int) (A : Option Addr) (c : Nat) (gs : List (Int × Int)) (a b : Int) (w : World) (B : Nat) (hl : gs.length ≤ 1000000) (hg : Gr w B A gs) (hB : B ≤ w.heap.size) (hw : Wf gs)
  (ha1 : a ≤ 9223372036854775807) (hb1 : b ≤ 9223372036854775807)
  (hbad : ¬ (Gm.rightB n gs = true ∧ Gm.litB n gs.length a = true ∧ Gm.litB n gs.length b = true)) :
  Calls Tryz.prog 60 #[.agg #[.int .i64 n, .slice A gs.length c], .int .i64 a, .int .i64 b] w (RefPost (Gm.andS n gs a b) A gs w) := by
 have hnot : ∀ (x : Bool) (w : World), (Op.unary .not (.bool x)).run Tryz.prog w = .ok (.bool (!x)) w := fun _ _ => rfl
 have HS := Lib.hid (show Gm.andS n gs a b = Gm.bad 1 by unfold Gm.andS; rw [if_neg hbad])
 obtain ⟨W, hW⟩ : ∃ W, W = ((w.alloc (Obj.cells #[Value.int .i64 n, .slice A gs.length c] 64)).alloc (Obj.cells #[.int .i64 0, .slice none 0 0] 64)) := ⟨_, rfl⟩
 have hbx : Boxes w W n (.slice A gs.length c) := by
  rw [hW]
  exact ⟨((Below.refl w.heap.size w).alloc (Nat.le_refl _) _).alloc (by simp) _, by go_simp, by go_simp, by go_simp, by go_simp, by go_simp, by go_simp, by simp⟩
 have HL := Lib.hid hl
 clear hl
 by_cases hr : Gm.rightB n gs = true
 ·
  by_cases ha : Gm.litB n gs.length a = true
  ·
   have hb : Gm.litB n gs.length b = false := by
    cases h : Gm.litB n gs.length b with
    | false => rfl
    | true => exact absurd ⟨hr, ha, h⟩ hbad
   have HR := Lib.hid hr
   have HA := Lib.hid ha
   have HB := Lib.hid hb
   clear hr ha hb hbad
   go_enter Tryz.func60, Tryz.ntmps60
   go_wp2_with fail
   rw [← hW]
   clear hW
   refine (refRight_any n A c gs W B HL.out (hg.below hbx.low hB) (Nat.le_trans hB hbx.low.size) hw).mono ?_
   rintro e w1 ⟨rfl, hb1'⟩
   rw [HR.out]
   have hx1 := hbx.below hb1'
   have d0 := hx1.d0
   have d1 := hx1.d1
   go_wp2_with fail
   refine (refLit_any n A gs.length c a w1 HL.out ha1).mono ?_
   rintro e w2 ⟨rfl, hb2'⟩
   rw [HA.out]
   have hx2 := hx1.below hb2'
   clear d0 d1
   have d0 := hx2.d0
   have d1 := hx2.d1
   go_wp2_with fail
   refine (refLit_any n A gs.length c b w2 HL.out hb1).mono ?_
   rintro e w3 ⟨rfl, hb3'⟩
   rw [HB.out]
   have hx3 := hx2.below hb3'
   clear d0 d1
   have e0 := hx3.e0
   have e1 := hx3.e1
   have f0 := hx3.f0
   have f1 := hx3.f1
   go_wp2
   obtain ⟨r0, r1⟩ := and_cells (u := .int .i64 0) (v := .slice none 0 0) hx3
   exact bodyPost_ret (v := .tuple #[.agg #[.int .i64 0, .slice none 0 0], .int .i64 0, .int .i64 1]) (by simp [results, Tryz.results60, go_sem, r0, r1]) rfl (ref_bad hx3 HS.out)
  have HR := Lib.hid hr
  have HA := Lib.hid (show Gm.litB n gs.length a = false by simpa using ha)
  clear hr ha hbad
  go_enter Tryz.func60, Tryz.ntmps60
  go_wp2_with fail
  rw [← hW]
  clear hW
  refine (refRight_any n A c gs W B HL.out (hg.below hbx.low hB) (Nat.le_trans hB hbx.low.size) hw).mono ?_
  rintro e w1 ⟨rfl, hb1'⟩
  rw [HR.out]
  have hx1 := hbx.below hb1'
  have d0 := hx1.d0
  have d1 := hx1.d1
  go_wp2_with fail
  refine (refLit_any n A gs.length c a w1 HL.out ha1).mono ?_
  rintro e w3 ⟨rfl, hb2'⟩
  rw [HA.out]
  have hx3 := hx1.below hb2'
  clear d0 d1
  have e0 := hx3.e0
  have e1 := hx3.e1
  have f0 := hx3.f0
  have f1 := hx3.f1
  go_wp2
  obtain ⟨r0, r1⟩ := and_cells (u := .int .i64 0) (v := .slice none 0 0) hx3
  exact bodyPost_ret (v := .tuple #[.agg #[.int .i64 0, .slice none 0 0], .int .i64 0, .int .i64 1]) (by simp [results, Tryz.results60, go_sem, r0, r1]) rfl (ref_bad hx3 HS.out)
 have HR := Lib.hid (show Gm.rightB n gs = false by simpa using hr)
 clear hr hbad
 go_enter Tryz.func60, Tryz.ntmps60
 go_wp2_with fail
 rw [← hW]
 clear hW
 refine (refRight_any n A c gs W B HL.out (hg.below hbx.low hB) (Nat.le_trans hB hbx.low.size) hw).mono ?_
 rintro e w3 ⟨rfl, hb1'⟩
 rw [HR.out]
 have hx3 := hbx.below hb1'
 have e0 := hx3.e0
 have e1 := hx3.e1
 have f0 := hx3.f0
 have f1 := hx3.f1
 go_wp2
 obtain ⟨r0, r1⟩ := and_cells (u := .int .i64 0) (v := .slice none 0 0) hx3
 exact bodyPost_ret (v := .tuple #[.agg #[.int .i64 0, .slice none 0 0], .int .i64 0, .int .i64 1]) (by simp [results, Tryz.results60, go_sem, r0, r1]) rfl (ref_bad hx3 HS.out)
end Go.Proofs.YtpejilhdhkmcjaaGreatDoor
