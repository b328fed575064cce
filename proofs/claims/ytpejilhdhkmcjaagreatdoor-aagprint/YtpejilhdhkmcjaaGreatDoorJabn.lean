/- The writer of texts: a latch. -/
import Derived.Test.YtpejilhdhkmcjaaGreatDoorJaAl
import Derived.Test.YtpejilhdhkmcjaaGreatDoorJabm
namespace Go.Proofs.YtpejilhdhkmcjaaGreatDoor
open Go.RowKit

theorem row_mono {w : World} {base lo : Nat} {e : TypeId} {size : Nat} {v : Value} {n : Nat} {xs : List Value} (h : w.ownsRow base e size v n xs) (hl : lo ≤ base) : w.ownsRow lo e size v n xs := by
 refine ⟨h.1, ?_⟩
 rcases h.2 with h2 | ⟨g, cap, cur, he, hbs, r⟩
 ·
  exact Or.inl h2
 exact Or.inr ⟨g, cap, cur, he, Nat.le_trans hl hbs, r⟩
theorem row_arg {w : World} {R base : Nat} {v : Value} {ns : List Nat} (hne : ns ≠ []) (hR : R < base) (h : w.ownsRow base 3 1 v ns.length (iv (natV ns))) : ∃ g c, v = .slice (some ⟨g, 0, none⟩) ns.length c ∧ Arg w R g 0 ns := by
 rcases h.2 with ⟨_, h0⟩ | ⟨g, cap, cur, rfl, hb, hh, hn, _, _, ht⟩
 ·
  exact absurd (List.length_eq_zero_iff.1 h0) hne
 refine ⟨g, cap, rfl, _, cur, hh, by omega, by decide, fun j hj => ?_⟩
 have f1 : (iv (natV ns))[j]? = some (.int .i64 ((ns[j] : Nat) : Int)) := by
  simp [iv, natV, List.getElem?_eq_getElem hj]
 rw [← ht, List.getElem?_take_of_lt (by omega)] at f1
 rw [Nat.zero_add, ← Array.getElem?_toList]
 exact f1
set_option maxRecDepth 10000 in
set_option maxHeartbeats 4000000 in
theorem wlatch_any (R b off cb x m k own : Nat) (bs : Ag.Bs) (B : Nat) (w : World) (hW : WB w R bs) (hX : Arg w R b off [x]) (hb : b < w.heap.size) (hx : x ≤ 999999) (hm : m ≤ 999999) (hk : k ≤ 2) (ho : own ≤ 999999) (hl : bs.length ≤ 880000000) (hA : Amb B w) (hR : B ≤ R) :
  Calls Tryz.prog 25 #[.pointer (some ⟨R, 0, none⟩), .agg #[.int .i64 (m : Int), .int .i64 (k : Int)], .int .i64 (own : Int), .slice (some ⟨b, off, none⟩) 1 cb] w (WrP R w (bs ++ Ag.lineOf (x :: m :: (if k = 1 then [1] else if k = 2 then [own] else [])))) := by
 have HAM : Hid (∀ V, WK R w V → Amb B V) := fun V k => hA.on (k.low.mono hR)
 have hR0 := hW.lt
 have hx0 := hX.at 0 (by simp)
 have hbx := Blk.new w 49 #[.int .i64 (m : Int), .int .i64 (k : Int)]
 have hW1 := hW.alloc (Obj.cells #[.int .i64 (m : Int), .int .i64 (k : Int)] 49)
 have hk1 := (WK.refl R w).alloc (Obj.cells #[.int .i64 (m : Int), .int .i64 (k : Int)] 49) (by omega)
 have hx1 := (World.cell?_alloc_lt w (Obj.cells #[.int .i64 (m : Int), .int .i64 (k : Int)] 49) ⟨b, off, none⟩ hb).trans hx0
 have hsz : (w.alloc (Obj.cells #[.int .i64 (m : Int), .int .i64 (k : Int)] 49)).heap.size = w.heap.size + 1 := by simp
 clear hA hW hX hx0
 go_enter Tryz.func25, Tryz.ntmps25
 go_upto_region 1 with fail
 generalize w.alloc (Obj.cells #[.int .i64 (m : Int), .int .i64 (k : Int)] 49) = W1 at *
 have hN : w.heap.size < W1.heap.size := by omega
 have hbN : b < W1.heap.size := by omega
 have HSZ := Lib.hid hsz
 clear hsz
 have c0 := hbx.cell 0
 have c1 := hbx.cell 1
 simp only [zD, zE, zF] at c0 c1
 have HCL : Hid (∀ V, Below W1.heap.size W1 V → Calls Tryz.prog 55 #[.slice (some ⟨b, off, none⟩) 1 cb] V fun e w' => ∃ v', e = .returned v' ∧ w'.ownsRow V.heap.size 3 1 v' 1 [.int .i64 (x : Int)] ∧ v' ≠ .slice none 0 0 ∧ Below V.heap.size V w') := by
  intro V hV
  have h := Tryz.slices_Clone_int b off 1 cb [(x : Int)] V (by simp) (by omega) (fun j hj => by
   have : j = 0 := by simpa using hj
   subst this
   exact (hV.cell (p := ⟨b, off, none⟩) hbN).trans hx1)
  exact h
 go_cut [8] from 9 (fun s8 wx => wx.ownsRow W1.heap.size 3 1 s8 2 [.int .i64 (x : Int), .int .i64 (m : Int)] ∧ Below W1.heap.size W1 wx)
 case first =>
  refine wp_region_held_drew (S := fun _ => True) (by kernel_rfl) trivial (fun hHeld => ?_)
  refine wpAnyH_take (i := 0) (oi := ⟨some 9, _, _, _, _, _⟩) (v := ?_) rfl (by kernel_rfl) (by kernel_rfl) (by kernel_rfl) (fun _ _ _ h => h) (Or.inl ⟨by rfl, ?_⟩) hHeld ?_
  rotate_left
  ·
   intro w hSw
   (try dsimp only at hSw)
   first | (go_simp; done) | (go_simp; with_reducible rfl) | with_reducible rfl
  try simp only [Act.put, zA, zB, zC]
  refine wpAnyH_take (i := 2) (oi := ⟨some 11, _, _, _, _, _⟩) (v := ?_) rfl (by kernel_rfl) (by kernel_rfl) (by kernel_rfl) (fun _ _ _ h => h) (Or.inl ⟨by rfl, ?_⟩) hHeld ?_
  rotate_left
  ·
   intro w hSw
   (try dsimp only at hSw)
   first | (go_simp; done) | (go_simp; with_reducible rfl) | with_reducible rfl
  try simp only [Act.put, zA, zB, zC]
  refine wpAnyH_ready (rs := [1, 3]) (by kernel_rfl) (by simp) ?_
  refine (AllReadyH.cons (o := ⟨some 10, _, _, _, _, _⟩) rfl (fun K hK => ?_) (AllReadyH.cons (o := ⟨some 12, _, _, _, _, _⟩) rfl (fun K hK => ?_) AllReadyH.nil))
  ·
   go_simp
   refine (HCL.out W1.drew (Below.refl W1.heap.size W1).drew).mono ?_
   rintro e w2 ⟨v1, rfl, hrow, _, hlow⟩
   have hlo : Below W1.heap.size W1 w2 := ⟨hlow.os, hlow.tape, hlow.output, hlow.size, hlow.block⟩
   replace hrow : w2.ownsRow W1.heap.size 3 1 v1 1 [.int .i64 (x : Int)] := hrow
   have k0 := (hlo.cell (p := ⟨w.heap.size, 0, none⟩) hN).trans c0
   clear hlow
   refine hK.out _ _ ?_ (fun hHeld => ?_)
   ·
    trivial
   clear hK K
   try simp only [Act.put, zA, zB, zC]
   refine wpAnyH_ready (rs := [3]) (by kernel_rfl) (by simp) ?_
   refine AllReadyH.cons (o := ⟨some 12, _, _, _, _, _⟩) rfl (fun K hK => ?_) AllReadyH.nil
   go_simp
   refine hK.out _ _ ?_ (fun hHeld => ?_)
   ·
    trivial
   clear hK K
   try simp only [Act.put, zA, zB, zC]
   refine wpAnyH_ready (rs := [4]) (by kernel_rfl) (by simp) ?_
   refine AllReadyH.cons (o := ⟨some 13, _, _, _, _, _⟩) rfl (fun K hK => ?_) AllReadyH.nil
   go_simp
   have hlob := lowAlloc w2 (Obj.cells #[.int .i64 (m : Int)] 3)
   have hbk := Blk.new w2 3 #[.int .i64 (m : Int)]
   replace hrow := World.ownsRow.alloc hrow (Obj.cells #[.int .i64 (m : Int)] 3)
   replace hlo := hlo.trans (hlob.mono hlo.size)
   clear hlob k0
   generalize hwb : w2.heap.size = nb at *
   generalize w2.alloc (Obj.cells #[.int .i64 (m : Int)] 3) = w3 at *
   refine hK.out _ _ ?_ (fun hHeld => ?_)
   ·
    trivial
   clear hK K
   try simp only [Act.put, zA, zB, zC]
   refine wpAnyH_ready (rs := [5]) (by kernel_rfl) (by simp) ?_
   refine AllReadyH.cons (o := ⟨some 14, _, _, _, _, _⟩) rfl (fun K hK => ?_) AllReadyH.nil
   rw [if_pos (by rfl)]
   refine oper_app (.tmp 10) (.tmp 13) 26 rfl v1 (.slice (some ⟨nb, 0, none⟩) 1 1) rfl rfl (fun v' w' => w'.ownsRow W1.heap.size 3 1 v' 2 [.int .i64 (x : Int), .int .i64 (m : Int)] ∧ w3.grownBy w' v1.ownBlock) (fun ty => (by obtain ⟨v', w', r1, r2, r3, _⟩ := app_int w3 W1.heap.size ty v1 1 _ hrow nb 1 (m : Int) hbk (by omega) hlo.size; exact ⟨v', w', r1, r2, r3⟩)) ?_
   intro v2 w5 hR5
   have hlo5 : Below W1.heap.size W1 w5 := hlo.grown hR5.2 hlo.size (fun k e => row_base hrow k e)
   refine hK.out _ _ ?_ (fun hHeld => ?_)
   ·
    trivial
   clear hK K
   try simp only [Act.put, zA, zB, zC]
   refine wpAnyH_take (i := 6) (oi := ⟨some 8, _, _, _, _, _⟩) (v := ?_) rfl (by kernel_rfl) (by kernel_rfl) (by kernel_rfl) (fun _ _ _ h => h) (Or.inl ⟨by rfl, ?_⟩) hHeld ?_
   rotate_left
   ·
    intro w hSw
    (try dsimp only at hSw)
    first | (go_simp; done) | (go_simp; with_reducible rfl) | with_reducible rfl
   try simp only [Act.put, zA, zB, zC]
   refine wpAnyH_done (by kernel_rfl) ?_ _
   go_wp2
   go_meet
   case rel => exact ⟨hR5.1, hlo5⟩
  go_simp
  refine hK.out _ _ ?_ (fun hHeld => ?_)
  ·
   trivial
  clear hK K
  try simp only [Act.put, zA, zB, zC]
  refine wpAnyH_ready (rs := [1, 4]) (by kernel_rfl) (by simp) ?_
  refine (AllReadyH.cons (o := ⟨some 10, _, _, _, _, _⟩) rfl (fun K hK => ?_) (AllReadyH.cons (o := ⟨some 13, _, _, _, _, _⟩) rfl (fun K hK => ?_) AllReadyH.nil))
  ·
   go_simp
   refine (HCL.out W1.drew (Below.refl W1.heap.size W1).drew).mono ?_
   rintro e w2 ⟨v1, rfl, hrow, _, hlow⟩
   have hlo : Below W1.heap.size W1 w2 := ⟨hlow.os, hlow.tape, hlow.output, hlow.size, hlow.block⟩
   replace hrow : w2.ownsRow W1.heap.size 3 1 v1 1 [.int .i64 (x : Int)] := hrow
   have k0 := (hlo.cell (p := ⟨w.heap.size, 0, none⟩) hN).trans c0
   clear hlow
   refine hK.out _ _ ?_ (fun hHeld => ?_)
   ·
    trivial
   clear hK K
   try simp only [Act.put, zA, zB, zC]
   refine wpAnyH_ready (rs := [4]) (by kernel_rfl) (by simp) ?_
   refine AllReadyH.cons (o := ⟨some 13, _, _, _, _, _⟩) rfl (fun K hK => ?_) AllReadyH.nil
   go_simp
   have hlob := lowAlloc w2 (Obj.cells #[.int .i64 (m : Int)] 3)
   have hbk := Blk.new w2 3 #[.int .i64 (m : Int)]
   replace hrow := World.ownsRow.alloc hrow (Obj.cells #[.int .i64 (m : Int)] 3)
   replace hlo := hlo.trans (hlob.mono hlo.size)
   clear hlob k0
   generalize hwb : w2.heap.size = nb at *
   generalize w2.alloc (Obj.cells #[.int .i64 (m : Int)] 3) = w3 at *
   refine hK.out _ _ ?_ (fun hHeld => ?_)
   ·
    trivial
   clear hK K
   try simp only [Act.put, zA, zB, zC]
   refine wpAnyH_ready (rs := [5]) (by kernel_rfl) (by simp) ?_
   refine AllReadyH.cons (o := ⟨some 14, _, _, _, _, _⟩) rfl (fun K hK => ?_) AllReadyH.nil
   rw [if_pos (by rfl)]
   refine oper_app (.tmp 10) (.tmp 13) 26 rfl v1 (.slice (some ⟨nb, 0, none⟩) 1 1) rfl rfl (fun v' w' => w'.ownsRow W1.heap.size 3 1 v' 2 [.int .i64 (x : Int), .int .i64 (m : Int)] ∧ w3.grownBy w' v1.ownBlock) (fun ty => (by obtain ⟨v', w', r1, r2, r3, _⟩ := app_int w3 W1.heap.size ty v1 1 _ hrow nb 1 (m : Int) hbk (by omega) hlo.size; exact ⟨v', w', r1, r2, r3⟩)) ?_
   intro v2 w5 hR5
   have hlo5 : Below W1.heap.size W1 w5 := hlo.grown hR5.2 hlo.size (fun k e => row_base hrow k e)
   refine hK.out _ _ ?_ (fun hHeld => ?_)
   ·
    trivial
   clear hK K
   try simp only [Act.put, zA, zB, zC]
   refine wpAnyH_take (i := 6) (oi := ⟨some 8, _, _, _, _, _⟩) (v := ?_) rfl (by kernel_rfl) (by kernel_rfl) (by kernel_rfl) (fun _ _ _ h => h) (Or.inl ⟨by rfl, ?_⟩) hHeld ?_
   rotate_left
   ·
    intro w hSw
    (try dsimp only at hSw)
    first | (go_simp; done) | (go_simp; with_reducible rfl) | with_reducible rfl
   try simp only [Act.put, zA, zB, zC]
   refine wpAnyH_done (by kernel_rfl) ?_ _
   go_wp2
   go_meet
   case rel => exact ⟨hR5.1, hlo5⟩
  go_simp
  have hlo2 : Below W1.heap.size W1 (W1.alloc (Obj.cells #[.int .i64 (m : Int)] 3)).drew := (fun (h : Below W1.heap.size W1 (W1.alloc (Obj.cells #[.int .i64 (m : Int)] 3))) => ⟨h.os, h.tape, h.output, h.size, h.block⟩) (lowAlloc W1 (Obj.cells #[.int .i64 (m : Int)] 3))
  have hbk2 : Blk (W1.alloc (Obj.cells #[.int .i64 (m : Int)] 3)).drew W1.heap.size 3 #[.int .i64 (m : Int)] := Blk.new W1 3 #[.int .i64 (m : Int)]
  generalize (W1.alloc (Obj.cells #[.int .i64 (m : Int)] 3)).drew = V2 at *
  refine hK.out _ _ ?_ (fun hHeld => ?_)
  ·
   trivial
  clear hK K
  try simp only [Act.put, zA, zB, zC]
  refine wpAnyH_ready (rs := [1]) (by kernel_rfl) (by simp) ?_
  refine AllReadyH.cons (o := ⟨some 10, _, _, _, _, _⟩) rfl (fun K hK => ?_) AllReadyH.nil
  go_simp
  refine (HCL.out V2 hlo2).mono ?_
  rintro e w2 ⟨v1, rfl, hrow0, _, hlow⟩
  have hlo : Below W1.heap.size W1 w2 := hlo2.trans (hlow.mono hlo2.size)
  have hrow : w2.ownsRow W1.heap.size 3 1 v1 1 [.int .i64 (x : Int)] := row_mono hrow0 hlo2.size
  have hbk := hbk2.below hlow hbk2.lt
  clear hlow hrow0
  refine hK.out _ _ ?_ (fun hHeld => ?_)
  ·
   trivial
  clear hK K
  try simp only [Act.put, zA, zB, zC]
  refine wpAnyH_ready (rs := [5]) (by kernel_rfl) (by simp) ?_
  refine AllReadyH.cons (o := ⟨some 14, _, _, _, _, _⟩) rfl (fun K hK => ?_) AllReadyH.nil
  rw [if_pos (by rfl)]
  refine oper_app (.tmp 10) (.tmp 13) 26 rfl v1 (.slice (some ⟨W1.heap.size, 0, none⟩) 1 1) rfl rfl (fun v' w' => w'.ownsRow W1.heap.size 3 1 v' 2 [.int .i64 (x : Int), .int .i64 (m : Int)] ∧ w2.grownBy w' v1.ownBlock) (fun ty => (by obtain ⟨v', w', r1, r2, r3, _⟩ := app_int w2 W1.heap.size ty v1 1 _ hrow W1.heap.size 1 (m : Int) hbk (by omega) hlo.size; exact ⟨v', w', r1, r2, r3⟩)) ?_
  intro v2 w5 hR5
  have hlo5 : Below W1.heap.size W1 w5 := hlo.grown hR5.2 hlo.size (fun k e => row_base hrow k e)
  refine hK.out _ _ ?_ (fun hHeld => ?_)
  ·
   trivial
  clear hK K
  try simp only [Act.put, zA, zB, zC]
  refine wpAnyH_take (i := 6) (oi := ⟨some 8, _, _, _, _, _⟩) (v := ?_) rfl (by kernel_rfl) (by kernel_rfl) (by kernel_rfl) (fun _ _ _ h => h) (Or.inl ⟨by rfl, ?_⟩) hHeld ?_
  rotate_left
  ·
   intro w hSw
   (try dsimp only at hSw)
   first | (go_simp; done) | (go_simp; with_reducible rfl) | with_reducible rfl
  try simp only [Act.put, zA, zB, zC]
  refine wpAnyH_done (by kernel_rfl) ?_ _
  go_wp2
  go_meet
  case rel => exact ⟨hR5.1, hlo5⟩
 obtain ⟨hrow, hlo⟩ := hcut
 have k1 := (hlo.cell (p := ⟨w.heap.size, 1, none⟩) hN).trans c1
 clear c0 c1 hx1 hbx HCL hbN
 have hk3 : k = 0 ∨ k = 1 ∨ k = 2 := by omega
 rcases hk3 with rfl | rfl | rfl
 ·
  have k1' : wc.cell? ⟨w.heap.size, 1, none⟩ = some (.int .i64 0) := k1
  clear k1
  obtain ⟨g, q, rfl, hX⟩ := row_arg (R := R) (ns := [x, m]) (by simp) (by omega) hrow
  have HL := Lib.hid (wline_any R g 0 q bs [x, m] B wc (hW1.below hlo) hX (by intro z hz; simp at hz; omega) (by simp only [List.length_cons, List.length_nil]; omega) (HAM.out _ (hk1.below hlo (Nat.le_of_lt hW1.lt))) hR)
  have hkt := hk1.below hlo (Nat.le_of_lt hW1.lt)
  clear hrow hlo hX hW1 hk1
  go_wp2_with fail
  refine HL.out.mono ?_
  rintro e w6 ⟨rfl, hW6, hk6⟩
  go_wp2
  go_end0
  exact ⟨rfl, hW6, hkt.trans hk6⟩
 ·
  have k1' : wc.cell? ⟨w.heap.size, 1, none⟩ = some (.int .i64 1) := k1
  clear k1
  have hloa := hlo.trans ((lowAlloc wc (Obj.cells #[.int .i64 1] 3)).mono hlo.size)
  have hrowa := World.ownsRow.alloc hrow (Obj.cells #[.int .i64 1] 3)
  have hbk := Blk.new wc 3 #[.int .i64 1]
  have HRUN : Hid (∀ ty, ∃ v' w', (Builtin.append_ #[26, 26] ty #[u8, .slice (some ⟨wc.heap.size, 0, none⟩) 1 1]).run Tryz.prog (wc.alloc (Obj.cells #[.int .i64 1] 3)) = .ok v' w' ∧ (w'.ownsRow W1.heap.size 3 1 v' 3 [.int .i64 (x : Int), .int .i64 (m : Int), .int .i64 1] ∧ (wc.alloc (Obj.cells #[.int .i64 1] 3)).grownBy w' u8.ownBlock)) := fun ty => by
   obtain ⟨v', w', r1, r2, r3, _⟩ := app_int (wc.alloc (Obj.cells #[.int .i64 1] 3)) W1.heap.size ty u8 2 _ hrowa wc.heap.size 1 (1 : Int) hbk (by omega) hloa.size
   exact ⟨v', w', r1, r2, r3⟩
  have HRB := Lib.hid (row_base hrowa)
  clear hbk hrow hrowa hlo
  go_wp2_with (at_builtin; go_loud (refine wpList_app rfl (.tmp 19) (.tmp 20) 26 rfl _ _ rfl rfl _ HRUN.out ?_); intro v3 w5 hR5; obtain ⟨g, q, rfl, hX⟩ := row_arg (R := R) (ns := [x, m, 1]) (by simp) (by omega) hR5.1)
  have hlo5 : Below W1.heap.size W1 w5 := hloa.grown hR5.2 hloa.size (fun k e => HRB.out k e)
  have HL := Lib.hid (wline_any R g 0 q bs [x, m, 1] B w5 (hW1.below hlo5) hX (by intro z hz; simp at hz; omega) (by simp only [List.length_cons, List.length_nil]; omega) (HAM.out _ (hk1.below hlo5 (Nat.le_of_lt hW1.lt))) hR)
  have hkt := hk1.below hlo5 (Nat.le_of_lt hW1.lt)
  clear hX hW1 hk1 hR5 hloa HRUN
  refine HL.out.mono ?_
  rintro e w6 ⟨rfl, hW6, hk6⟩
  go_wp2
  go_end0
  exact ⟨rfl, hW6, hkt.trans hk6⟩
 have k1' : wc.cell? ⟨w.heap.size, 1, none⟩ = some (.int .i64 2) := k1
 clear k1
 have hloa := hlo.trans ((lowAlloc wc (Obj.cells #[.int .i64 (own : Int)] 3)).mono hlo.size)
 have hrowa := World.ownsRow.alloc hrow (Obj.cells #[.int .i64 (own : Int)] 3)
 have hbk := Blk.new wc 3 #[.int .i64 (own : Int)]
 have HRUN : Hid (∀ ty, ∃ v' w', (Builtin.append_ #[26, 26] ty #[u8, .slice (some ⟨wc.heap.size, 0, none⟩) 1 1]).run Tryz.prog (wc.alloc (Obj.cells #[.int .i64 (own : Int)] 3)) = .ok v' w' ∧ (w'.ownsRow W1.heap.size 3 1 v' 3 [.int .i64 (x : Int), .int .i64 (m : Int), .int .i64 (own : Int)] ∧ (wc.alloc (Obj.cells #[.int .i64 (own : Int)] 3)).grownBy w' u8.ownBlock)) := fun ty => by
  obtain ⟨v', w', r1, r2, r3, _⟩ := app_int (wc.alloc (Obj.cells #[.int .i64 (own : Int)] 3)) W1.heap.size ty u8 2 _ hrowa wc.heap.size 1 ((own : Int) : Int) hbk (by omega) hloa.size
  exact ⟨v', w', r1, r2, r3⟩
 have HRB := Lib.hid (row_base hrowa)
 clear hbk hrow hrowa hlo
 go_wp2_with (at_builtin; go_loud (refine wpList_app rfl (.tmp 24) (.tmp 26) 26 rfl _ _ rfl rfl _ HRUN.out ?_); intro v3 w5 hR5; obtain ⟨g, q, rfl, hX⟩ := row_arg (R := R) (ns := [x, m, own]) (by simp) (by omega) hR5.1)
 have hlo5 : Below W1.heap.size W1 w5 := hloa.grown hR5.2 hloa.size (fun k e => HRB.out k e)
 have HL := Lib.hid (wline_any R g 0 q bs [x, m, own] B w5 (hW1.below hlo5) hX (by intro z hz; simp at hz; omega) (by simp only [List.length_cons, List.length_nil]; omega) (HAM.out _ (hk1.below hlo5 (Nat.le_of_lt hW1.lt))) hR)
 have hkt := hk1.below hlo5 (Nat.le_of_lt hW1.lt)
 clear hX hW1 hk1 hR5 hloa HRUN
 refine HL.out.mono ?_
 rintro e w6 ⟨rfl, hW6, hk6⟩
 go_wp2
 go_end0
 exact ⟨rfl, hW6, hkt.trans hk6⟩
end Go.Proofs.YtpejilhdhkmcjaaGreatDoor
/- The writer of texts: the first line. -/
namespace Go.Proofs.YtpejilhdhkmcjaaGreatDoor
open Go.RowKit

theorem sizes_arg (w : World) (R N : Nat) (c : Cir) (hN : c.n = (N : Int)) (hR : w.heap.size ≠ R) : Arg (w.alloc (Obj.cells #[.int .i64 ((N : Int) + (c.ls.length : Int) + (c.gs.length : Int)), .int .i64 (N : Int), .int .i64 (c.ls.length : Int), .int .i64 (c.os.length : Int), .int .i64 (c.gs.length : Int), .int .i64 (c.bs.length : Int), .int .i64 (c.cs.length : Int), .int .i64 0, .int .i64 (c.fs.length : Int)] 87)) R w.heap.size 0 (Ag.sizes c) := by
 refine ⟨_, _, Blk.new w 87 _, hR, by decide, fun j hj => ?_⟩
 have hj9 : j < 9 := hj
 have hn : c.n.toNat = N := by omega
 unfold Ag.sizes
 simp only [hn]
 have : j = 0 ∨ j = 1 ∨ j = 2 ∨ j = 3 ∨ j = 4 ∨ j = 5 ∨ j = 6 ∨ j = 7 ∨ j = 8 := by omega
 rcases this with rfl | rfl | rfl | rfl | rfl | rfl | rfl | rfl | rfl
 ·
  simp
 all_goals rfl
set_option maxRecDepth 10000 in
set_option maxHeartbeats 4000000 in
theorem whead_any (R : Nat) (c : Cir) (bs word : Ag.Bs) (B : Nat) (w : World) (hW : WB w R bs) (hok : Ag.PrintOk c) (hwd : word.length ≤ 100) (hl : bs.length ≤ 800000000) (hA : Amb B w) (hR : B ≤ R) :
  Calls Tryz.prog 22 #[.pointer (some ⟨R, 0, none⟩), .string ⟨word.toArray⟩, .agg #[.int .i64 c.n, .slice c.aL c.ls.length c.cL, .slice c.aG c.gs.length c.cG, .slice c.aO c.os.length c.cO, .slice c.aB c.bs.length c.cB, .slice c.aC c.cs.length c.cC, .slice c.aF c.fs.length c.cF, .slice c.aN c.ns.length c.cN]] w (WrP R w (bs ++ (word ++ 32 :: Ag.lineOf (Ag.sizes c)))) := by
 have HAM : Hid (∀ V, WK R w V → Amb B V) := fun V k => hA.on (k.low.mono hR)
 have hR0 := hW.lt
 have HSF := Lib.hid (Ag.sizes_facts hok)
 have h1 := hok.n0
 have h2 := hok.all
 have l1 : c.ls.length ≤ 2000 := by omega
 have l2 : c.gs.length ≤ 2000 := by omega
 have l3 := hok.o
 have l4 := hok.b
 have l5 := hok.c_
 have l6 := hok.f
 obtain ⟨N, hN⟩ : ∃ N : Nat, c.n = (N : Int) := ⟨c.n.toNat, by omega⟩
 have lN : N ≤ 2000 := by omega
 have HN := Lib.hid hN
 have hbx := Blk.new w 29 #[.int .i64 c.n, .slice c.aL c.ls.length c.cL, .slice c.aG c.gs.length c.cG, .slice c.aO c.os.length c.cO, .slice c.aB c.bs.length c.cB, .slice c.aC c.cs.length c.cC, .slice c.aF c.fs.length c.cF, .slice c.aN c.ns.length c.cN]
 have hW1 := hW.alloc (Obj.cells #[.int .i64 c.n, .slice c.aL c.ls.length c.cL, .slice c.aG c.gs.length c.cG, .slice c.aO c.os.length c.cO, .slice c.aB c.bs.length c.cB, .slice c.aC c.cs.length c.cC, .slice c.aF c.fs.length c.cF, .slice c.aN c.ns.length c.cN] 29)
 have hk1 := (WK.refl R w).alloc (Obj.cells #[.int .i64 c.n, .slice c.aL c.ls.length c.cL, .slice c.aG c.gs.length c.cG, .slice c.aO c.os.length c.cO, .slice c.aB c.bs.length c.cB, .slice c.aC c.cs.length c.cC, .slice c.aF c.fs.length c.cF, .slice c.aN c.ns.length c.cN] 29) (by omega)
 have c0 := hbx.cell 0; have c1 := hbx.cell 1; have c2 := hbx.cell 2; have c3 := hbx.cell 3; have c4 := hbx.cell 4; have c5 := hbx.cell 5; have c6 := hbx.cell 6; have c7 := hbx.cell 7; simp only [zD, zE, zF] at c0 c1 c2 c3 c4 c5 c6 c7
 clear hA hok hW hbx h1 h2 hN
 go_enter Tryz.func22, Tryz.ntmps22
 go_upto_region 1 with fail
 generalize w.alloc (Obj.cells #[.int .i64 c.n, .slice c.aL c.ls.length c.cL, .slice c.aG c.gs.length c.cG, .slice c.aO c.os.length c.cO, .slice c.aB c.bs.length c.cB, .slice c.aC c.cs.length c.cC, .slice c.aF c.fs.length c.cF, .slice c.aN c.ns.length c.cN] 29) = W1 at *
 rw [HN.out] at c0
 go_upto_region 2 with fail
 clear c0 c1 c2 c3 c4 c5 c6 c7
 have hH := sizes_arg W1 R N c HN.out (by have := hW1.lt; omega)
 have hW2 := hW1.alloc (Obj.cells #[.int .i64 ((N : Int) + (c.ls.length : Int) + (c.gs.length : Int)), .int .i64 (N : Int), .int .i64 (c.ls.length : Int), .int .i64 (c.os.length : Int), .int .i64 (c.gs.length : Int), .int .i64 (c.bs.length : Int), .int .i64 (c.cs.length : Int), .int .i64 0, .int .i64 (c.fs.length : Int)] 87)
 have hk2 := hk1.alloc (Obj.cells #[.int .i64 ((N : Int) + (c.ls.length : Int) + (c.gs.length : Int)), .int .i64 (N : Int), .int .i64 (c.ls.length : Int), .int .i64 (c.os.length : Int), .int .i64 (c.gs.length : Int), .int .i64 (c.bs.length : Int), .int .i64 (c.cs.length : Int), .int .i64 0, .int .i64 (c.fs.length : Int)] 87) (Nat.le_of_lt hW1.lt)
 clear hW1 hk1
 generalize W1.alloc (Obj.cells #[.int .i64 ((N : Int) + (c.ls.length : Int) + (c.gs.length : Int)), .int .i64 (N : Int), .int .i64 (c.ls.length : Int), .int .i64 (c.os.length : Int), .int .i64 (c.gs.length : Int), .int .i64 (c.bs.length : Int), .int .i64 (c.cs.length : Int), .int .i64 0, .int .i64 (c.fs.length : Int)] 87) = W2 at *
 generalize W1.heap.size = H at *
 have hcv := string_bytes W2 ⟨word.toArray⟩
 have hbw := Lib.bytesWorld_below W2 5 ⟨word.toArray⟩
 have hsz : (⟨word.toArray⟩ : ByteArray).size = word.length := by simp [ByteArray.size]
 rw [hsz] at hcv
 have HB1 := Lib.hid (wbytes_any R W2.heap.size 0 (grownCap W2 word.length 0 5) bs word (Lib.bytesWorld W2 5 ⟨word.toArray⟩) (hW2.below hbw) (bytes_at W2 ⟨word.toArray⟩) (by omega))
 have hk2a := hk2.below hbw (Nat.le_of_lt hW2.lt)
 have hHa : Arg (Lib.bytesWorld W2 5 ⟨word.toArray⟩) R H 0 (Ag.sizes c) := hH.wk ((WK.refl R W2).below hbw (Nat.le_of_lt hW2.lt))
 clear hW2 hk2 hH hbw hsz
 generalize Lib.bytesWorld W2 5 ⟨word.toArray⟩ = W3 at *
 go_wp2_with fail
 refine HB1.out.mono ?_
 rintro e w4 ⟨rfl, hW4, hk4⟩
 have hk4t := hk2a.trans hk4
 have hH4 := hHa.wk hk4
 clear HB1 hk2a hk4 hHa hcv
 have HB2 := Lib.hid (wbytes_any R w4.heap.size 0 1 (bs ++ word) [32] (w4.alloc (Obj.cells #[.int .u8 (((32 : UInt8).toNat : Nat) : Int)] 5)) (hW4.alloc _) (one_byte w4 32) (by simp only [List.length_append, List.length_cons, List.length_nil]; omega))
 have hk4a := hk4t.alloc (Obj.cells #[.int .u8 (((32 : UInt8).toNat : Nat) : Int)] 5) (Nat.le_of_lt hW4.lt)
 have hH4a := hH4.wk ((WK.refl R w4).alloc (Obj.cells #[.int .u8 (((32 : UInt8).toNat : Nat) : Int)] 5) (Nat.le_of_lt hW4.lt))
 clear hW4 hk4t hH4
 go_wp2_with fail
 refine HB2.out.mono ?_
 rintro e w5 ⟨rfl, hW5, hk5⟩
 have hk5t := hk4a.trans hk5
 have hH5 := hH4a.wk hk5
 have HL := Lib.hid (wline_any R H 0 9 ((bs ++ word) ++ [32]) (Ag.sizes c) B w5 hW5 hH5 (fun n hn => Nat.le_trans (HSF.out n hn) (by omega)) (by simp only [List.length_append, List.length_cons, List.length_nil, Ag.sizes]; omega) (HAM.out _ hk5t) hR)
 clear HB2 hk4a hH4a hk5 hW5 hH5
 go_wp2_with fail
 refine HL.out.mono ?_
 rintro e w6 ⟨rfl, hW6, hk6⟩
 go_wp2
 go_end0
 refine ⟨rfl, ?_, hk5t.trans hk6⟩
 simpa using hW6
end Go.Proofs.YtpejilhdhkmcjaaGreatDoor
