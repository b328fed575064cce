/- The writer of texts: bytes, a number. -/
import Derived.Test.YtpejilhdhkmcjaaGreatDoorJaAl
import Derived.Test.YtpejilhdhkmcjaaGreatDoorJabk
import Derived.Lib.OthersKept
namespace Go.Proofs.YtpejilhdhkmcjaaGreatDoor
open Go.RowKit

/-- A writer in memory: what has been written. -/
def WB (w : World) (R : Nat) (bs : Ag.Bs) : Prop := ∃ v, Blk w R 51 #[v] ∧ w.ownsRow (R + 1) 5 1 v bs.length (Lib.byteCells bs)
/-- All that lies ahead of the writer stays, and all behind it but rows of bytes. -/
structure WK (R : Nat) (w w' : World) : Prop where
 low : Below R w w'
 oth : Lib.OthersKept 5 (some R) w w'
theorem WK.refl (R : Nat) (w : World) : WK R w w := ⟨Below.refl _ _, Lib.OthersKept.refl _ _ _⟩
theorem WK.trans {R : Nat} {a b c : World} (h : WK R a b) (k : WK R b c) : WK R a c := ⟨h.low.trans k.low, h.oth.trans k.oth⟩
theorem WK.alloc {R : Nat} {a b : World} (h : WK R a b) (o : Obj) (hR : R ≤ b.heap.size) : WK R a (b.alloc o) := ⟨h.low.alloc hR o, h.oth.alloc o⟩
theorem WK.blkOf {R g : Nat} {a b : World} {t : TypeId} {cs : Array Value} (h : WK R a b) (k : Blk a g t cs) (hg : g ≠ R) (ht : t ≠ 5) : Blk b g t cs :=
 h.oth g _ k (by intro e; cases e; exact hg rfl) (by rintro c fz e; cases e; exact ht rfl)
theorem WB.lt {w : World} {R : Nat} {bs : Ag.Bs} (h : WB w R bs) : R < w.heap.size := by
 obtain ⟨v, hb, _⟩ := h
 exact hb.lt
theorem WB.alloc {w : World} {R : Nat} {bs : Ag.Bs} (h : WB w R bs) (o : Obj) : WB (w.alloc o) R bs := by
 obtain ⟨v, hb, hr⟩ := h
 exact ⟨v, hb.alloc o, World.ownsRow.alloc hr o⟩
theorem byteCells_app (a b : Ag.Bs) : Lib.byteCells (a ++ b) = Lib.byteCells a ++ Lib.byteCells b := by simp [Lib.byteCells]
theorem app_bytes (w : World) (base : Nat) (ty : TypeId) (v : Value) (n : Nat) (xs : List Value) (hown : w.ownsRow base 5 1 v n xs) (g off c : Nat) (ys : Ag.Bs) (hc : ∀ j (hj : j < ys.length), w.cell? ⟨g, off + j, none⟩ = some (.int .u8 ((ys[j]).toNat : Int))) (hn : n + ys.length ≤ 1000000000) (hbase : base ≤ w.heap.size) :
  ∃ v' w', (Builtin.append_ #[37, 37] ty #[v, .slice (some ⟨g, off, none⟩) ys.length c]).run Tryz.prog w = .ok v' w' ∧ (w'.ownsRow base 5 1 v' (n + ys.length) (xs ++ Lib.byteCells ys) ∧ w.grownBy w' v.ownBlock) := by
 have hcell : ∀ j u, (Lib.byteCells ys)[j]? = some u → w.cell? ((⟨g, off, none⟩ : Addr).add j) = some u := by
  intro j u hj
  have hjl := (List.getElem?_eq_some_iff.1 hj).1
  rw [Lib.byteCells_length] at hjl
  have h1 := hc j hjl
  have h2 : (Lib.byteCells ys)[j]? = some (.int .u8 ((ys[j]).toNat : Int)) := by
   unfold Lib.byteCells
   rw [List.getElem?_map, List.getElem?_eq_getElem hjl]
   rfl
  rw [h2] at hj
  rw [← hj, ← h1]
  simp only [Addr.add]
  split
  ·
   rename_i h0
   rw [h0, Nat.add_zero]
  rfl
 obtain ⟨v', w', r1, r2, r3, _⟩ := run_append_own (P := Tryz.prog) w base 37 ty 5 Tryz.t5 (.int .u8 0) 1 1 Tryz.underlying37 (by kernel_rfl) (by kernel_rfl) (by kernel_rfl) (by kernel_rfl) (by kernel_rfl) (by omega) v n xs hown ⟨g, off, none⟩ ys.length c (Lib.byteCells ys) (by rw [Lib.byteCells_length, Nat.mul_one]) hcell (fun u hu => by
  obtain ⟨b, _, rfl⟩ := List.mem_map.1 hu
  rfl) (by unfold maxLen; omega) (by omega) hbase
 exact ⟨v', w', r1, r2, r3⟩
theorem row_isrow {w : World} {base : Nat} {e : TypeId} {size : Nat} {v : Value} {n : Nat} {xs : List Value} (h : w.ownsRow base e size v n xs) : ∀ g, v.ownBlock = some g → ∃ c fz, w.heap[g]? = some (.cells c e fz) := by
 intro k hk
 rcases h.2 with ⟨rfl, _⟩ | ⟨g, cap, cur, rfl, _, hh, _⟩
 ·
  cases hk
 simp [Value.ownBlock] at hk
 subst hk
 exact ⟨cur, _, hh⟩
theorem oth_some {R : Nat} {w w' : World} (h : Lib.OthersKept 5 none w w') : Lib.OthersKept 5 (some R) w w' := fun k o h1 _ h3 => h k o h1 (by simp) h3
/-- Something has been written. -/
def WrP (R : Nat) (w : World) (bs : Ag.Bs) (e : Ending) (w' : World) : Prop := e = .returned (.tuple #[]) ∧ WB w' R bs ∧ WK R w w'
set_option maxRecDepth 10000 in
set_option maxHeartbeats 4000000 in
theorem wbytes_any (R g off c : Nat) (bs ys : Ag.Bs) (w : World) (hW : WB w R bs) (hc : ∀ j (hj : j < ys.length), w.cell? ⟨g, off + j, none⟩ = some (.int .u8 ((ys[j]).toNat : Int))) (hn : bs.length + ys.length ≤ 1000000000) :
  Calls Tryz.prog 53 #[.pointer (some ⟨R, 0, none⟩), .slice (some ⟨g, off, none⟩) ys.length c] w (WrP R w (bs ++ ys)) := by
 have hR0 := hW.lt
 obtain ⟨v, hb, hrow⟩ := hW
 obtain ⟨A, q, rfl⟩ := row_slice hrow
 have HRUN := Lib.hid (fun ty => app_bytes w (R + 1) ty (.slice A bs.length q) bs.length _ hrow g off c ys hc hn (by omega))
 have c0 := hb.cell 0
 simp only [zD, zE] at c0
 have HRB := Lib.hid (row_base hrow)
 have HIS := Lib.hid (row_isrow hrow)
 have HBL := Lib.hid hb
 clear hc hrow hb
 go_enter Tryz.func53, Tryz.ntmps53
 go_wp2_with (at_builtin; go_loud (refine wpList_app rfl (.tmp 8) (.tmp 9) 37 rfl _ _ rfl rfl _ HRUN.out ?_); intro v' W4 hR4; obtain ⟨A4, q4, rfl⟩ := row_slice hR4.1; have hb4 := HBL.out.grown hR4.2 (fun e => by have := HRB.out _ e.symm; omega); have c4 := hb4.cell 0; have f4 := hb4.frozen 0; simp only [zD, zE] at c4)
 have hb5 := hb4.put 0 (.slice A4 (bs.length + ys.length) q4)
 simp only [List.setIfInBounds_toArray, List.set_cons_zero] at hb5
 have hrow5 := row_set hR4.1 (p := ⟨R, 0, none⟩) (by simp) (.slice A4 (bs.length + ys.length) q4)
 have hlow : Below R w W4 := (Below.refl R w).grown hR4.2 (by omega) (fun k e => by have := HRB.out k e; omega)
 have hoth : Lib.OthersKept 5 (some R) w W4 := (Lib.OthersKept.refl _ _ w).grown hR4.2 HIS.out
 go_end0
 refine ⟨rfl, ⟨_, hb5, ?_⟩, ⟨hlow.setCell (p := ⟨R, 0, none⟩) (Nat.le_refl _) _, hoth.setCell ⟨R, 0, none⟩ rfl _⟩⟩
 rw [List.length_append, byteCells_app]
 exact hrow5
theorem itoa_num (n : Nat) : Lib.itoa (n : Int) = Ag.num n := Lib.itoa_nonneg n
set_option maxRecDepth 10000 in
set_option maxHeartbeats 4000000 in
theorem wnumber_any (R : Nat) (bs : Ag.Bs) (n B : Nat) (w : World) (hW : WB w R bs) (hl : bs.length ≤ 1000000000) (hn : n ≤ 999999) (hA : Amb B w) (hR : B ≤ R) :
  Calls Tryz.prog 54 #[.pointer (some ⟨R, 0, none⟩), .int .i64 (n : Int)] w (WrP R w (bs ++ Ag.num n)) := by
 have hR0 := hW.lt
 obtain ⟨v, hb, hrow⟩ := hW
 obtain ⟨A, q, rfl⟩ := row_slice hrow
 have HAI := Lib.hid (Tryz.strconv_AppendInt_10 (R + 1) bs.length (n : Int) (by omega) (by omega) _ _ w hrow (by omega) (by omega) (fun w' h' => hA.tab w' (h'.mono (by omega))))
 rw [itoa_num] at HAI
 have c0 := hb.cell 0
 simp only [zD, zE] at c0
 have HBL := Lib.hid hb
 clear hrow hb hA
 go_enter Tryz.func54, Tryz.ntmps54
 go_wp2_with fail
 refine HAI.out.mono ?_
 rintro e w2 ⟨v', rfl, hrow2, hlow, hoth⟩
 obtain ⟨A4, q4, rfl⟩ := row_slice hrow2
 have hb4 := HBL.out.below hlow (by omega)
 have c4 := hb4.cell 0
 have f4 := hb4.frozen 0
 simp only [zD, zE] at c4
 have hb5 := hb4.put 0 (.slice A4 (bs.length + (Ag.num n).length) q4)
 simp only [List.setIfInBounds_toArray, List.set_cons_zero] at hb5
 have hrow5 := row_set hrow2 (p := ⟨R, 0, none⟩) (by simp) (.slice A4 (bs.length + (Ag.num n).length) q4)
 go_wp2
 go_end0
 refine ⟨rfl, ⟨_, hb5, ?_⟩, ⟨(hlow.mono (Nat.le_succ R)).setCell (p := ⟨R, 0, none⟩) (Nat.le_refl _) _, (oth_some hoth).setCell ⟨R, 0, none⟩ rfl _⟩⟩
 rw [List.length_append, byteCells_app]
 exact hrow5
end Go.Proofs.YtpejilhdhkmcjaaGreatDoor
/- The writer of texts: a line of numbers. -/
namespace Go.Proofs.YtpejilhdhkmcjaaGreatDoor
open Go.RowKit

theorem spell_snoc (ns : List Nat) (n : Nat) : Ag.spell (ns ++ [n]) = if ns.length = 0 then Ag.num n else (Ag.spell ns ++ [32]) ++ Ag.num n := by
 induction ns with
 | nil => rfl
 | cons a t ih =>
  cases t with
  | nil =>
   simp [Ag.spell]
  | cons b t =>
   rw [List.cons_append, List.cons_append, Ag.spell_two, ← List.cons_append, ih, Ag.spell_two]
   simp
theorem spell_take (ns : List Nat) (j : Nat) (h : j < ns.length) : Ag.spell (ns.take (j + 1)) = if j = 0 then Ag.num ns[j] else (Ag.spell (ns.take j) ++ [32]) ++ Ag.num ns[j] := by
 rw [List.take_succ_eq_append_getElem h, spell_snoc]
 have e : (ns.take j).length = j := by rw [List.length_take]; omega
 rw [e]
/-- A list of numbers in some block that is none of bytes. -/
def Arg (w : World) (R g off : Nat) (ns : List Nat) : Prop := ∃ (t : TypeId) (cs : Array Value), Blk w g t cs ∧ g ≠ R ∧ t ≠ 5 ∧ ∀ j (hj : j < ns.length), cs[off + j]? = some (.int .i64 ((ns[j] : Nat) : Int))
theorem Arg.wk {w w' : World} {R g off : Nat} {ns : List Nat} (h : Arg w R g off ns) (hk : WK R w w') : Arg w' R g off ns := by
 obtain ⟨t, cs, hb, h1, h2, h3⟩ := h
 exact ⟨t, cs, hk.blkOf hb h1 h2, h1, h2, h3⟩
theorem Arg.at {w : World} {R g off : Nat} {ns : List Nat} (h : Arg w R g off ns) (j : Nat) (hj : j < ns.length) : w.cell? ⟨g, off + j, none⟩ = some (.int .i64 ((ns[j] : Nat) : Int)) := by
 obtain ⟨t, cs, hb, h1, h2, h3⟩ := h
 rw [hb.cell]
 exact h3 j hj
theorem one_byte (w : World) (b : UInt8) : ∀ j (hj : j < [b].length), (w.alloc (Obj.cells #[.int .u8 ((b.toNat : Nat) : Int)] 5)).cell? ⟨w.heap.size, 0 + j, none⟩ = some (.int .u8 ((([b] : Ag.Bs)[j]).toNat : Int)) := by
 intro j hj
 have : j = 0 := by simpa using hj
 subst this
 exact (Blk.new w 5 #[.int .u8 ((b.toNat : Nat) : Int)]).cell 0
set_option maxRecDepth 10000 in
set_option maxHeartbeats 4000000 in
theorem wline_any (R g off c : Nat) (bs : Ag.Bs) (ns : List Nat) (B : Nat) (w : World) (hW : WB w R bs) (hX : Arg w R g off ns) (hn : ∀ n ∈ ns, n ≤ 999999) (hl : bs.length + 890 * ns.length + 8 ≤ 890000000) (hA : Amb B w) (hR : B ≤ R) :
  Calls Tryz.prog 23 #[.pointer (some ⟨R, 0, none⟩), .slice (some ⟨g, off, none⟩) ns.length c] w (WrP R w (bs ++ Ag.lineOf ns)) := by
 have HAM : Hid (∀ V, WK R w V → Amb B V) := fun V k => hA.on (k.low.mono hR)
 have HLN : Hid (∀ j, (Ag.spell (ns.take j)).length ≤ 7 * ns.length) := by
  intro j
  have := Ag.spell_len (ns.take j) (fun n h => hn n (List.mem_of_mem_take h))
  rw [List.length_take] at this
  omega
 have HX := Lib.hid hX
 have HN := Lib.hid hn
 clear hA hX hn
 go_enter Tryz.func23, Tryz.ntmps23
 go_wp2
 go_loopw [4, 5, 8] (fun _ _ i wr => ∃ j : Nat, j ≤ ns.length ∧ i = .int .i64 (j : Int) ∧ WB wr R (bs ++ Ag.spell (ns.take j)) ∧ WK R w wr) (fun _ _ i _ => ns.length - (intOf i).toNat)
 case atStart => exact ⟨0, Nat.zero_le _, rfl, by simpa [Ag.spell] using hW, WK.refl _ _⟩
 clear hW
 obtain ⟨j, hj, rfl, hW, hk⟩ := hrel
 have hwR := hW.lt
 by_cases hlt : j < ns.length
 ·
  have hjz : (j : Int) < (ns.length : Int) := by omega
  have cj := (HX.out.wk hk).at j hlt
  have hix := ixI g off ns.length c j (by omega) hlt
  have HST := Lib.hid (spell_take ns j hlt)
  have hnj := HN.out ns[j] (List.getElem_mem hlt)
  have hlj := HLN.out j
  generalize ns[j] = n at *
  by_cases h0 : j = 0
  ·
   subst h0
   have cj0 : wr.cell? ⟨g, off, none⟩ = some (.int .i64 ((n : Nat) : Int)) := cj
   have hix0 : ∀ w, (Instr.indexAt 26 (.slice (some ⟨g, off, none⟩) ns.length c) (.int .i64 0)).run Tryz.prog w = .ok (.pointer (some ⟨g, off, none⟩)) w := hix
   clear cj hix
   have HNU := Lib.hid (wnumber_any R (bs ++ Ag.spell (ns.take 0)) n B wr hW (by rw [List.length_append]; omega) hnj (HAM.out _ hk) hR)
   clear hW
   go_wp2_with fail
   refine HNU.out.mono ?_
   rintro e w2 ⟨rfl, hW2, hk2⟩
   go_wp2
   go_roundw
   case rel => exact ⟨0 + 1, by omega, by go_num, by rw [HST.out, if_pos (by trivial)]; simpa [Ag.spell] using hW2, hk.trans hk2⟩
   case measure => simp [intOf]; omega
  have h0z : (0 : Int) < (j : Int) := by omega
  have HBY := Lib.hid (wbytes_any R wr.heap.size 0 1 (bs ++ Ag.spell (ns.take j)) [32] (wr.alloc (Obj.cells #[.int .u8 (((32 : UInt8).toNat : Nat) : Int)] 5)) (hW.alloc _) (one_byte wr 32) (by rw [List.length_append]; simp only [List.length_cons, List.length_nil]; omega))
  have hka := hk.alloc (Obj.cells #[.int .u8 (((32 : UInt8).toNat : Nat) : Int)] 5) (by omega)
  clear hW
  go_wp2_with fail
  refine HBY.out.mono ?_
  rintro e w2 ⟨rfl, hW2, hk2⟩
  have HNU := Lib.hid (wnumber_any R ((bs ++ Ag.spell (ns.take j)) ++ [32]) n B w2 hW2 (by rw [List.length_append, List.length_append]; simp only [List.length_cons, List.length_nil]; omega) hnj (HAM.out _ (hka.trans hk2)) hR)
  clear HBY hW2
  go_wp2_with fail
  refine HNU.out.mono ?_
  rintro e w3 ⟨rfl, hW3, hk3⟩
  go_wp2
  go_roundw
  case rel => exact ⟨j + 1, by omega, by go_num, by rw [HST.out, if_neg h0]; simpa using hW3, (hka.trans hk2).trans hk3⟩
  case measure => simp [intOf]; omega
 obtain rfl : j = ns.length := by omega
 have hlj := HLN.out ns.length
 have HBY := Lib.hid (wbytes_any R wr.heap.size 0 1 (bs ++ Ag.spell (ns.take ns.length)) [10] (wr.alloc (Obj.cells #[.int .u8 (((10 : UInt8).toNat : Nat) : Int)] 5)) (hW.alloc _) (one_byte wr 10) (by rw [List.length_append]; simp only [List.length_cons, List.length_nil]; omega))
 have hka := hk.alloc (Obj.cells #[.int .u8 (((10 : UInt8).toNat : Nat) : Int)] 5) (by omega)
 clear hW
 go_wp2_with fail
 refine HBY.out.mono ?_
 rintro e w2 ⟨rfl, hW2, hk2⟩
 go_wp2
 go_end0
 refine ⟨rfl, ?_, hka.trans hk2⟩
 rw [List.take_length, List.append_assoc] at hW2
 exact hW2
end Go.Proofs.YtpejilhdhkmcjaaGreatDoor
