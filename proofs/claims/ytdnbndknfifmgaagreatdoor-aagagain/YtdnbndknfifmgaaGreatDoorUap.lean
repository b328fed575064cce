/- The writer of texts: a line of numbers. -/
import Derived.Test.YtdnbndknfifmgaaGreatDoorUao
import Derived.Lib.ConvBytes
namespace Go.Proofs.YtdnbndknfifmgaaGreatDoor
open Go.RowKit

theorem spell_snoc (ns : List Nat) (n : Nat) : Ag.spell (ns ++ [n]) = if ns.length = 0 then Ag.num n else (Ag.spell ns ++ [32]) ++ Ag.num n := by
  induction ns with
  | nil => rfl
  | cons a t ih =>
    cases t with
    | nil =>
      simp [Ag.spell]
    | cons b t =>
      rw [List.cons_append, List.cons_append, Ag.spell_two, ← List.cons_append, ih, Ag.spell_two]
      simp
theorem spell_take (ns : List Nat) (j : Nat) (h : j < ns.length) : Ag.spell (ns.take (j + 1)) = if j = 0 then Ag.num ns[j] else (Ag.spell (ns.take j) ++ [32]) ++ Ag.num ns[j] := by
  rw [List.take_succ_eq_append_getElem h, spell_snoc]
  have e : (ns.take j).length = j := by rw [List.length_take]; omega
  rw [e]
/-- A list of numbers in some block that is none of bytes. -/
def Arg (w : World) (R g off : Nat) (ns : List Nat) : Prop := ∃ (t : TypeId) (cs : Array Value), Blk w g t cs ∧ g ≠ R ∧ t ≠ 5 ∧ ∀ j (hj : j < ns.length), cs[off + j]? = some (.int .i64 ((ns[j] : Nat) : Int))
theorem Arg.wk {w w' : World} {R g off : Nat} {ns : List Nat} (h : Arg w R g off ns) (hk : WK R w w') : Arg w' R g off ns := by
  obtain ⟨t, cs, hb, h1, h2, h3⟩ := h
  exact ⟨t, cs, hk.blkOf hb h1 h2, h1, h2, h3⟩
theorem Arg.at {w : World} {R g off : Nat} {ns : List Nat} (h : Arg w R g off ns) (j : Nat) (hj : j < ns.length) : w.cell? ⟨g, off + j, none⟩ = some (.int .i64 ((ns[j] : Nat) : Int)) := by
  obtain ⟨t, cs, hb, h1, h2, h3⟩ := h
  rw [hb.cell]
  exact h3 j hj
theorem one_byte (w : World) (b : UInt8) : ∀ j (hj : j < [b].length), (w.alloc (Obj.cells #[.int .u8 ((b.toNat : Nat) : Int)] 5)).cell? ⟨w.heap.size, 0 + j, none⟩ = some (.int .u8 ((([b] : Ag.Bs)[j]).toNat : Int)) := by
  intro j hj
  have : j = 0 := by simpa using hj
  subst this
  exact (Blk.new w 5 #[.int .u8 ((b.toNat : Nat) : Int)]).cell 0
set_option maxRecDepth 10000 in
set_option maxHeartbeats 4000000 in
theorem wline_any (R g off c : Nat) (bs : Ag.Bs) (ns : List Nat) (B : Nat) (w : World) (hW : WB w R bs) (hX : Arg w R g off ns) (hn : ∀ n ∈ ns, n ≤ 999999) (hl : bs.length + 8 * ns.length + 8 ≤ 7000000) (hA : Amb B w) (hR : B ≤ R) :
    Calls Tryz.prog 23 #[.pointer (some ⟨R, 0, none⟩), .slice (some ⟨g, off, none⟩) ns.length c] w (WrP R w (bs ++ Ag.lineOf ns)) := by
  have HAM : Hid (∀ V, WK R w V → Amb B V) := fun V k => hA.on (k.low.mono hR)
  have HLN : Hid (∀ j, (Ag.spell (ns.take j)).length ≤ 7 * ns.length) := by
    intro j
    have := Ag.spell_len (ns.take j) (fun n h => hn n (List.mem_of_mem_take h))
    rw [List.length_take] at this
    omega
  have HX := Lib.hid hX
  have HN := Lib.hid hn
  clear hA hX hn
  go_enter Tryz.func23, Tryz.ntmps23
  go_wp2
  go_loopw [4, 5, 8] (fun _ _ i wr => ∃ j : Nat, j ≤ ns.length ∧ i = .int .i64 (j : Int) ∧ WB wr R (bs ++ Ag.spell (ns.take j)) ∧ WK R w wr) (fun _ _ i _ => ns.length - (intOf i).toNat)
  case atStart => exact ⟨0, Nat.zero_le _, rfl, by simpa [Ag.spell] using hW, WK.refl _ _⟩
  case round =>
    clear hW
    obtain ⟨j, hj, rfl, hW, hk⟩ := hrel
    have hwR := hW.lt
    by_cases hlt : j < ns.length
    · have hjz : (j : Int) < (ns.length : Int) := by omega
      have cj := (HX.out.wk hk).at j hlt
      have hix := ixI g off ns.length c j (by omega) hlt
      have HST := Lib.hid (spell_take ns j hlt)
      have hnj := HN.out ns[j] (List.getElem_mem hlt)
      have hlj := HLN.out j
      generalize ns[j] = n at *
      by_cases h0 : j = 0
      · subst h0
        have cj0 : wr.cell? ⟨g, off, none⟩ = some (.int .i64 ((n : Nat) : Int)) := cj
        have hix0 : ∀ w, (Instr.indexAt 26 (.slice (some ⟨g, off, none⟩) ns.length c) (.int .i64 0)).run Tryz.prog w = .ok (.pointer (some ⟨g, off, none⟩)) w := hix
        clear cj hix
        have HNU := Lib.hid (wnumber_any R (bs ++ Ag.spell (ns.take 0)) n B wr hW (by rw [List.length_append]; omega) hnj (HAM.out _ hk) hR)
        clear hW
        go_wp2_with fail
        refine HNU.out.mono ?_
        rintro e w2 ⟨rfl, hW2, hk2⟩
        go_wp2
        go_roundw
        case rel => exact ⟨0 + 1, by omega, by go_num, by rw [HST.out, if_pos (by trivial)]; simpa [Ag.spell] using hW2, hk.trans hk2⟩
        case measure => simp [intOf]; omega
      · have h0z : (0 : Int) < (j : Int) := by omega
        have HBY := Lib.hid (wbytes_any R wr.heap.size 0 1 (bs ++ Ag.spell (ns.take j)) [32] (wr.alloc (Obj.cells #[.int .u8 (((32 : UInt8).toNat : Nat) : Int)] 5)) (hW.alloc _) (one_byte wr 32) (by rw [List.length_append]; simp only [List.length_cons, List.length_nil]; omega))
        have hka := hk.alloc (Obj.cells #[.int .u8 (((32 : UInt8).toNat : Nat) : Int)] 5) (by omega)
        clear hW
        go_wp2_with fail
        refine HBY.out.mono ?_
        rintro e w2 ⟨rfl, hW2, hk2⟩
        have HNU := Lib.hid (wnumber_any R ((bs ++ Ag.spell (ns.take j)) ++ [32]) n B w2 hW2 (by rw [List.length_append, List.length_append]; simp only [List.length_cons, List.length_nil]; omega) hnj (HAM.out _ (hka.trans hk2)) hR)
        clear HBY hW2
        go_wp2_with fail
        refine HNU.out.mono ?_
        rintro e w3 ⟨rfl, hW3, hk3⟩
        go_wp2
        go_roundw
        case rel => exact ⟨j + 1, by omega, by go_num, by rw [HST.out, if_neg h0]; simpa using hW3, (hka.trans hk2).trans hk3⟩
        case measure => simp [intOf]; omega
    · obtain rfl : j = ns.length := by omega
      have hlj := HLN.out ns.length
      have HBY := Lib.hid (wbytes_any R wr.heap.size 0 1 (bs ++ Ag.spell (ns.take ns.length)) [10] (wr.alloc (Obj.cells #[.int .u8 (((10 : UInt8).toNat : Nat) : Int)] 5)) (hW.alloc _) (one_byte wr 10) (by rw [List.length_append]; simp only [List.length_cons, List.length_nil]; omega))
      have hka := hk.alloc (Obj.cells #[.int .u8 (((10 : UInt8).toNat : Nat) : Int)] 5) (by omega)
      clear hW
      go_wp2_with fail
      refine HBY.out.mono ?_
      rintro e w2 ⟨rfl, hW2, hk2⟩
      go_wp2
      go_end0
      refine ⟨rfl, ?_, hka.trans hk2⟩
      rw [List.take_length, List.append_assoc] at hW2
      exact hW2
end Go.Proofs.YtdnbndknfifmgaaGreatDoor
/- The writer of texts: the names; the text. -/
namespace Go.Proofs.YtdnbndknfifmgaaGreatDoor
open Go.RowKit

theorem namesP_app (xs ys : List Nm) : Ag.namesP (xs ++ ys) = Ag.namesP xs ++ Ag.namesP ys := by
  induction xs with
  | nil => rfl
  | cons x r ih => simp [Ag.namesP, ih]
theorem namesP_take (ns : List Nm) (j : Nat) (h : j < ns.length) : Ag.namesP (ns.take (j + 1)) = Ag.namesP (ns.take j) ++ (Ag.nameP ns[j] ++ [10]) := by
  rw [List.take_succ_eq_append_getElem h, namesP_app]
  simp [Ag.namesP]
theorem namesP_len (ns : List Nm) (j : Nat) : (Ag.namesP (ns.take j)).length ≤ (Ag.namesP ns).length := by
  have h : Ag.namesP ns = Ag.namesP (ns.take j) ++ Ag.namesP (ns.drop j) := by rw [← namesP_app, List.take_append_drop]
  rw [h, List.length_append]
  omega
theorem ixNm (b off n c r : Nat) (hn : n ≤ 1000000) (hr : r < n) (w : World) : (Instr.indexAt 27 (.slice (some ⟨b, off, none⟩) n c) (.int .i64 (r : Int))).run Tryz.prog w = .ok (.pointer (some ⟨b, off + r * 3, none⟩)) w := by go_simp
theorem one_byte2 (w : World) (b : UInt8) (z : Int) (hz : ((b.toNat : Nat) : Int) = z) : ∀ j (hj : j < [b].length), (w.alloc (Obj.cells #[.int .u8 z] 5)).cell? ⟨w.heap.size, 0 + j, none⟩ = some (.int .u8 ((([b] : Ag.Bs)[j]).toNat : Int)) := by
  subst hz
  exact one_byte w b
theorem string_bytes (w : World) (s : ByteArray) : (convert 9 37 (.string s)).run Tryz.prog w = .ok (.slice (some ⟨w.heap.size, 0, none⟩) s.size (grownCap w s.size 0 5)) (Lib.bytesWorld w 5 s) :=
  Lib.run_convert_string_bytes w 9 37 5 s Tryz.underlying9 Tryz.underlying37 Tryz.underlying5
theorem bytes_at (w : World) (s : ByteArray) : ∀ j (hj : j < s.data.toList.length), (Lib.bytesWorld w 5 s).cell? ⟨w.heap.size, 0 + j, none⟩ = some (.int .u8 (((s.data.toList)[j]).toNat : Int)) := by
  intro j hj
  have hj2 : j < s.size := by rw [Array.length_toList] at hj; exact hj
  rw [Nat.zero_add, Lib.bytesWorld_cell w _ s j hj2, List.getD_eq_getElem?_getD, List.getElem?_eq_getElem hj]
  rfl
theorem WB.below {w w' : World} {R : Nat} {bs : Ag.Bs} (h : WB w R bs) (hb : Below w.heap.size w w') : WB w' R bs := by
  obtain ⟨v, hbk, hr⟩ := h
  exact ⟨v, hbk.below hb hbk.lt, row_low hr hb⟩
theorem WK.below {R : Nat} {a b c : World} (h : WK R a b) (k : Below b.heap.size b c) (hR : R ≤ b.heap.size) : WK R a c :=
  ⟨h.low.trans (k.mono hR), fun g o h1 h2 h3 => by
    have h4 := h.oth g o h1 h2 h3
    have hl : g < b.heap.size := (Array.getElem?_eq_some_iff.1 h4).1
    exact (k.block g hl).trans h4⟩
set_option maxRecDepth 10000 in
set_option maxHeartbeats 8000000 in
theorem wnames_any (R : Nat) (A : Option Addr) (c : Nat) (bs : Ag.Bs) (ns : List Nm) (B : Nat) (w : World) (hW : WB w R bs) (hX : Ns w R A ns) (hn : ∀ x ∈ ns, Ag.NameOk x) (hl : bs.length + (Ag.namesP ns).length ≤ 7000000) (hnl : ns.length ≤ 1000000) (hA : Amb B w) (hR : B ≤ R) :
    Calls Tryz.prog 27 #[.pointer (some ⟨R, 0, none⟩), .slice A ns.length c] w (WrP R w (bs ++ Ag.namesP ns)) := by
  have HAM : Hid (∀ V, WK R w V → Amb B V) := fun V k => hA.on (k.low.mono hR)
  have HX := Lib.hid hX
  have HN := Lib.hid hn
  clear hA hX hn
  go_enter Tryz.func27, Tryz.ntmps27
  go_wp2
  go_loopw [5, 8] (fun _ i wr => ∃ j : Nat, j ≤ ns.length ∧ i = .int .i64 (j : Int) ∧ WB wr R (bs ++ Ag.namesP (ns.take j)) ∧ WK R w wr) (fun _ i _ => ns.length - (intOf i).toNat)
  case atStart => exact ⟨0, Nat.zero_le _, rfl, by simpa [Ag.namesP] using hW, WK.refl _ _⟩
  case round =>
    clear hW
    obtain ⟨j, hj, rfl, hW, hk⟩ := hrel
    have hwR := hW.lt
    by_cases hlt : j < ns.length
    · have hjz : (j : Int) < (ns.length : Int) := by omega
      obtain ⟨b, off, hAe, hbR, n0, n1, n2⟩ := (HX.out.below hk.low (Nat.le_refl _)) j hlt
      subst hAe
      have hix := ixNm b off ns.length c j hnl hlt
      have HST := Lib.hid (namesP_take ns j hlt)
      have hok := HN.out ns[j] (List.getElem_mem hlt)
      have hl1 := namesP_len ns (j + 1)
      rw [HST.out] at hl1
      simp only [List.length_append, List.length_cons, List.length_nil] at hl1
      generalize ns[j] = x at *
      obtain ⟨z, a, s⟩ := x
      obtain ⟨⟨z0, z1, _, _⟩, ⟨a0, a1⟩, _⟩ := hok
      simp only at z0 z1 a0 a1 n0 n1 n2
      have hnp : (Ag.nameP (z, a, s)).length = 1 + (Ag.num a.toNat).length + 1 + s.data.toList.length := by
        simp [Ag.nameP]
        omega
      rw [hnp] at hl1
      clear hnp
      have HNP : Hid (Ag.nameP (z, a, s) = UInt8.ofNat z.toNat :: (Ag.num a.toNat ++ 32 :: s.data.toList)) := rfl
      have hkb := Ag.ofNat_kind (k := z) ⟨z0, z1⟩
      generalize UInt8.ofNat z.toNat = kb at *
      obtain ⟨m, rfl⟩ : ∃ m : Nat, a = (m : Int) := ⟨a.toNat, by omega⟩
      rw [Int.toNat_natCast] at hl1 HNP
      generalize hP : bs ++ Ag.namesP (ns.take j) = P at *
      have hPl := congrArg List.length hP
      rw [List.length_append] at hPl
      have HPE := Lib.hid hP
      have hpl : P.length + (1 + (Ag.num m).length + 1 + s.data.toList.length + 1) ≤ 7000000 := by omega
      clear hP hPl hl1
      have hB1 := Blk.new wr 69 #[.int .u8 z, .int .i64 (m : Int), .string s]
      have hW1 := hW.alloc (Obj.cells #[.int .u8 z, .int .i64 (m : Int), .string s] 69)
      have hk1 := hk.alloc (Obj.cells #[.int .u8 z, .int .i64 (m : Int), .string s] 69) (by omega)
      clear hW hk
      go_upto_region 3 with fail
      clear n0 n1 n2 hix
      have hne : wr.heap.size ≠ R := by omega
      generalize wr.alloc (Obj.cells #[.int .u8 z, .int .i64 (m : Int), .string s] 69) = W1 at *
      generalize wr.heap.size = N at *
      have q0 := hB1.cell 0
      simp only [List.getElem?_toArray, List.getElem?_cons_zero] at q0
      have HB1 := Lib.hid (wbytes_any R W1.heap.size 0 1 P [kb] (W1.alloc (Obj.cells #[.int .u8 z] 5)) (hW1.alloc _) (one_byte2 W1 kb z hkb) (by simp only [List.length_cons, List.length_nil]; omega))
      have hk1a := hk1.alloc (Obj.cells #[.int .u8 z] 5) (Nat.le_of_lt hW1.lt)
      have hB1a := hB1.alloc (Obj.cells #[.int .u8 z] 5)
      clear hW1 hk1 hB1
      go_wp2_with fail
      refine HB1.out.mono ?_
      rintro e w2 ⟨rfl, hW2, hk2⟩
      have hB2 := hk2.blkOf hB1a hne (by decide)
      have hk2t := hk1a.trans hk2
      clear HB1 hB1a hk1a hk2 q0
      have q1 := hB2.cell 1
      simp only [List.getElem?_toArray, List.getElem?_cons_zero, List.getElem?_cons_succ] at q1
      have HB2 := Lib.hid (wnumber_any R (P ++ [kb]) m B w2 hW2 (by rw [List.length_append]; simp only [List.length_cons, List.length_nil]; omega) (by omega) (HAM.out _ hk2t) hR)
      clear hW2
      go_wp2_with fail
      refine HB2.out.mono ?_
      rintro e w3 ⟨rfl, hW3, hk3⟩
      have hB3 := hk3.blkOf hB2 hne (by decide)
      have hk3t := hk2t.trans hk3
      clear HB2 hB2 hk2t hk3 q1
      have HB3 := Lib.hid (wbytes_any R w3.heap.size 0 1 ((P ++ [kb]) ++ Ag.num m) [32] (w3.alloc (Obj.cells #[.int .u8 (((32 : UInt8).toNat : Nat) : Int)] 5)) (hW3.alloc _) (one_byte w3 32) (by simp only [List.length_append, List.length_cons, List.length_nil]; omega))
      have hk3a := hk3t.alloc (Obj.cells #[.int .u8 (((32 : UInt8).toNat : Nat) : Int)] 5) (Nat.le_of_lt hW3.lt)
      have hB3a := hB3.alloc (Obj.cells #[.int .u8 (((32 : UInt8).toNat : Nat) : Int)] 5)
      clear hW3 hk3t hB3
      go_wp2_with fail
      refine HB3.out.mono ?_
      rintro e w4 ⟨rfl, hW4, hk4⟩
      have hB4 := hk4.blkOf hB3a hne (by decide)
      have hk4t := hk3a.trans hk4
      clear HB3 hB3a hk3a hk4
      have q2 := hB4.cell 2
      simp only [List.getElem?_toArray, List.getElem?_cons_zero, List.getElem?_cons_succ] at q2
      have hcv := string_bytes w4 s
      have hbw := Lib.bytesWorld_below w4 5 s
      have hsz : s.size = s.data.toList.length := by rw [Array.length_toList]; rfl
      rw [hsz] at hcv
      have HB4 := Lib.hid (wbytes_any R w4.heap.size 0 (grownCap w4 s.data.toList.length 0 5) (((P ++ [kb]) ++ Ag.num m) ++ [32]) s.data.toList (Lib.bytesWorld w4 5 s) (hW4.below hbw) (bytes_at w4 s) (by simp only [List.length_append, List.length_cons, List.length_nil]; omega))
      have hk4a := hk4t.below hbw (Nat.le_of_lt hW4.lt)
      clear hW4 hk4t hB4 hsz hbw
      generalize Lib.bytesWorld w4 5 s = W5 at *
      go_wp2_with fail
      refine HB4.out.mono ?_
      rintro e w6 ⟨rfl, hW6, hk6⟩
      have hk6t := hk4a.trans hk6
      clear HB4 hk4a hk6 hcv q2
      have HB5 := Lib.hid (wbytes_any R w6.heap.size 0 1 ((((P ++ [kb]) ++ Ag.num m) ++ [32]) ++ s.data.toList) [10] (w6.alloc (Obj.cells #[.int .u8 (((10 : UInt8).toNat : Nat) : Int)] 5)) (hW6.alloc _) (one_byte w6 10) (by simp only [List.length_append, List.length_cons, List.length_nil]; omega))
      have hk6a := hk6t.alloc (Obj.cells #[.int .u8 (((10 : UInt8).toNat : Nat) : Int)] 5) (Nat.le_of_lt hW6.lt)
      clear hW6 hk6t
      go_wp2_with fail
      refine HB5.out.mono ?_
      rintro e w7 ⟨rfl, hW7, hk7⟩
      have hk7t := hk6a.trans hk7
      clear HB5 hk6a hk7
      go_wp2
      go_roundw
      case rel =>
        refine ⟨j + 1, by omega, by go_num, ?_, hk7t⟩
        rw [HST.out, ← List.append_assoc, HPE.out, HNP.out]
        simpa using hW7
      case measure => simp [intOf]; omega
    · obtain rfl : j = ns.length := by omega
      go_wp2
      go_end0
      rw [List.take_length] at hW
      exact ⟨rfl, hW, hk⟩
set_option maxHeartbeats 2000000 in
theorem wtext_any (R : Nat) (bs : Ag.Bs) (w : World) (hW : WB w R bs) : Calls Tryz.prog 28 #[.pointer (some ⟨R, 0, none⟩)] w fun e w' => e = .returned (.string ⟨bs.toArray⟩) ∧ w = w' := by
  obtain ⟨v, hb, hrow⟩ := hW
  have c0 := hb.cell 0
  simp only [List.getElem?_toArray, List.getElem?_cons_zero] at c0
  have hcv := row_string hrow
  obtain ⟨A, q, rfl⟩ := row_slice hrow
  clear hrow hb
  go_enter Tryz.func28, Tryz.ntmps28
  go_wp2
  go_ret
  exact ⟨rfl, rfl⟩
end Go.Proofs.YtdnbndknfifmgaaGreatDoor
/- The writer of texts: the signals that are literals and no more. -/
namespace Go.Proofs.YtdnbndknfifmgaaGreatDoor
open Go.RowKit

theorem colP_app (xs ys : List Int) : Ag.colP (xs ++ ys) = Ag.colP xs ++ Ag.colP ys := by
  induction xs with
  | nil => rfl
  | cons x r ih => simp [Ag.colP, ih]
theorem colP_take (zs : List Int) (j : Nat) (h : j < zs.length) : Ag.colP (zs.take (j + 1)) = Ag.colP (zs.take j) ++ Ag.lineOf [zs[j].toNat] := by
  rw [List.take_succ_eq_append_getElem h, colP_app]
  simp [Ag.colP]
theorem colP_len (zs : List Int) (j : Nat) : (Ag.colP (zs.take j)).length ≤ (Ag.colP zs).length := by
  have h : Ag.colP zs = Ag.colP (zs.take j) ++ Ag.colP (zs.drop j) := by rw [← colP_app, List.take_append_drop]
  rw [h, List.length_append]
  omega
/-- The first few lists' lines. -/
def sigK (c : Cir) : Nat → Ag.Bs
  | 0 => []
  | 1 => Ag.colP c.os
  | 2 => Ag.colP c.os ++ Ag.colP c.bs
  | 3 => (Ag.colP c.os ++ Ag.colP c.bs) ++ Ag.colP c.cs
  | _ => ((Ag.colP c.os ++ Ag.colP c.bs) ++ Ag.colP c.cs) ++ Ag.colP c.fs
theorem sigK_all (c : Cir) : sigK c 4 = Ag.sigsP c := by simp [sigK, Ag.sigsP]
theorem sigK_len (c : Cir) (k : Nat) (h : k ≤ 4) : (sigK c k).length ≤ (Ag.sigsP c).length := by
  rw [← sigK_all]
  have : k = 0 ∨ k = 1 ∨ k = 2 ∨ k = 3 ∨ k = 4 := by omega
  rcases this with rfl | rfl | rfl | rfl | rfl <;> simp [sigK] <;> omega
def sigT (c : Cir) : Array Value := #[.slice c.aO c.os.length c.cO, .slice c.aB c.bs.length c.cB, .slice c.aC c.cs.length c.cC, .slice c.aF c.fs.length c.cF]
theorem sig_at {w : World} {R : Nat} {c : Cir} (hM : CirM w R c) (hok : Ag.PrintOk c) (k : Nat) (hk : k < 4) : ∃ A q zs, (sigT c)[k]? = some (.slice A zs.length q) ∧ Vs w R A (iv zs) ∧ (∀ z ∈ zs, 0 ≤ z ∧ z ≤ 999999) ∧ zs.length ≤ 2000 ∧ sigK c (k + 1) = sigK c k ++ Ag.colP zs := by
  have : k = 0 ∨ k = 1 ∨ k = 2 ∨ k = 3 := by omega
  rcases this with rfl | rfl | rfl | rfl
  · exact ⟨_, _, c.os, rfl, hM.ho, hok.os, hok.o, rfl⟩
  · exact ⟨_, _, c.bs, rfl, hM.hb, hok.bs, hok.b, rfl⟩
  · exact ⟨_, _, c.cs, rfl, hM.hc, hok.cs, hok.c_, rfl⟩
  · exact ⟨_, _, c.fs, rfl, hM.hf, hok.fs, hok.f, rfl⟩
theorem ixSS (b r : Nat) (hr : r < 4) (w : World) : (Instr.indexAt 91 (.slice (some ⟨b, 0, none⟩) 4 4) (.int .i64 (r : Int))).run Tryz.prog w = .ok (.pointer (some ⟨b, r, none⟩)) w := by
  have h1 : (r : Int) < 4 := by omega
  go_simp
theorem vs_num {w : World} {R : Nat} {A : Option Addr} {zs : List Int} (h : Vs w R A (iv zs)) (j : Nat) (hj : j < zs.length) : ∃ b off, A = some ⟨b, off, none⟩ ∧ w.cell? ⟨b, off + j, none⟩ = some (.int .i64 zs[j]) := by
  obtain ⟨b, off, e, hl, hc⟩ := h j (by simpa [iv] using hj)
  exact ⟨b, off, e, by rw [hc]; simp [iv]⟩
theorem arg_one (w : World) (R n : Nat) (hR : w.heap.size ≠ R) (z : Int) (hz : ((n : Nat) : Int) = z) : Arg (w.alloc (Obj.cells #[.int .i64 z] 3)) R w.heap.size 0 [n] := by
  refine ⟨_, _, Blk.new w 3 #[.int .i64 z], hR, by decide, fun j hj => ?_⟩
  have : j = 0 := by simpa using hj
  subst this
  subst hz
  rfl
set_option maxRecDepth 10000 in
set_option maxHeartbeats 2000000 in
theorem wsignals_any (R : Nat) (c : Cir) (bs : Ag.Bs) (B : Nat) (w : World) (hW : WB w R bs) (hM : CirM w R c) (hok : Ag.PrintOk c) (hl : bs.length + (Ag.sigsP c).length ≤ 6000000) (hA : Amb B w) (hR : B ≤ R) :
    Calls Tryz.prog 26 #[.pointer (some ⟨R, 0, none⟩), .agg #[.int .i64 c.n, .slice c.aL c.ls.length c.cL, .slice c.aG c.gs.length c.cG, .slice c.aO c.os.length c.cO, .slice c.aB c.bs.length c.cB, .slice c.aC c.cs.length c.cC, .slice c.aF c.fs.length c.cF, .slice c.aN c.ns.length c.cN]] w (WrP R w (bs ++ Ag.sigsP c)) := by
  have HAM : Hid (∀ V, WK R w V → Amb B V) := fun V k => hA.on (k.low.mono hR)
  have hR0 := hW.lt
  have HSA := Lib.hid (fun k hk => sig_at hM hok k hk)
  have HSL := Lib.hid (fun k hk => sigK_len c k hk)
  have hbx := Blk.new w 29 #[.int .i64 c.n, .slice c.aL c.ls.length c.cL, .slice c.aG c.gs.length c.cG, .slice c.aO c.os.length c.cO, .slice c.aB c.bs.length c.cB, .slice c.aC c.cs.length c.cC, .slice c.aF c.fs.length c.cF, .slice c.aN c.ns.length c.cN]
  have hW1 := hW.alloc (Obj.cells #[.int .i64 c.n, .slice c.aL c.ls.length c.cL, .slice c.aG c.gs.length c.cG, .slice c.aO c.os.length c.cO, .slice c.aB c.bs.length c.cB, .slice c.aC c.cs.length c.cC, .slice c.aF c.fs.length c.cF, .slice c.aN c.ns.length c.cN] 29)
  have hk1 := (WK.refl R w).alloc (Obj.cells #[.int .i64 c.n, .slice c.aL c.ls.length c.cL, .slice c.aG c.gs.length c.cG, .slice c.aO c.os.length c.cO, .slice c.aB c.bs.length c.cB, .slice c.aC c.cs.length c.cC, .slice c.aF c.fs.length c.cF, .slice c.aN c.ns.length c.cN] 29) (by omega)
  have c0 := hbx.cell 0; have c1 := hbx.cell 1; have c2 := hbx.cell 2; have c3 := hbx.cell 3; have c4 := hbx.cell 4; have c5 := hbx.cell 5; have c6 := hbx.cell 6; have c7 := hbx.cell 7; simp only [List.getElem?_toArray, List.getElem?_cons_zero, List.getElem?_cons_succ] at c0 c1 c2 c3 c4 c5 c6 c7
  clear hA hM hok hW hbx
  go_enter Tryz.func26, Tryz.ntmps26
  go_upto_region 1 with fail
  generalize w.alloc (Obj.cells #[.int .i64 c.n, .slice c.aL c.ls.length c.cL, .slice c.aG c.gs.length c.cG, .slice c.aO c.os.length c.cO, .slice c.aB c.bs.length c.cB, .slice c.aC c.cs.length c.cC, .slice c.aF c.fs.length c.cF, .slice c.aN c.ns.length c.cN] 29) = W1 at *
  go_upto_region 2 with fail
  clear c0 c1 c2 c3 c4 c5 c6 c7
  have hT : Blk (W1.alloc (Obj.cells #[.slice c.aO c.os.length c.cO, .slice c.aB c.bs.length c.cB, .slice c.aC c.cs.length c.cC, .slice c.aF c.fs.length c.cF] 26)) W1.heap.size 26 (sigT c) := Blk.new W1 26 (sigT c)
  have hW2 := hW1.alloc (Obj.cells #[.slice c.aO c.os.length c.cO, .slice c.aB c.bs.length c.cB, .slice c.aC c.cs.length c.cC, .slice c.aF c.fs.length c.cF] 26)
  have hk2 := hk1.alloc (Obj.cells #[.slice c.aO c.os.length c.cO, .slice c.aB c.bs.length c.cB, .slice c.aC c.cs.length c.cC, .slice c.aF c.fs.length c.cF] 26) (Nat.le_of_lt hW1.lt)
  have hne : W1.heap.size ≠ R := by have := hW1.lt; omega
  clear hW1 hk1
  generalize W1.alloc (Obj.cells #[.slice c.aO c.os.length c.cO, .slice c.aB c.bs.length c.cB, .slice c.aC c.cs.length c.cC, .slice c.aF c.fs.length c.cF] 26) = W2 at *
  generalize W1.heap.size = L at *
  go_loopw [5, 7, 18] (fun _ _ i wr => ∃ k : Nat, k ≤ 4 ∧ i = .int .i64 (k : Int) ∧ WB wr R (bs ++ sigK c k) ∧ WK R w wr ∧ Blk wr L 26 (sigT c)) (fun _ _ i _ => 4 - (intOf i).toNat)
  case atStart => exact ⟨0, Nat.zero_le _, rfl, by simpa [sigK] using hW2, hk2, hT⟩
  case round =>
    clear hW2 hk2 hT
    obtain ⟨k, hk4, rfl, hW, hk, hT⟩ := hrel
    by_cases hlt : k < 4
    · have hkz : (k : Int) < 4 := by omega
      obtain ⟨A, q, zs, t1, t2, t3, t4, t5⟩ := HSA.out k hlt
      have ck := (hT.cell k).trans t1
      have hix := ixSS L k hlt
      have HZ := Lib.hid t3
      have HV := Lib.hid t2
      have HT5 := Lib.hid t5
      have hl5 := HSL.out (k + 1) (by omega)
      rw [t5, List.length_append] at hl5
      have HLC := Lib.hid (colP_len zs)
      have HL5 := Lib.hid hl5
      have HHT := Lib.hid hT
      clear t1 t2 t3 t5 hl5 hT
      go_wp2
      clear ck hix
      have HK0 := Lib.hid hk
      have HW0 := Lib.hid hW
      go_loopw [7, 24] (fun _ i V => ∃ j : Nat, j ≤ zs.length ∧ i = .int .i64 (j : Int) ∧ WB V R ((bs ++ sigK c k) ++ Ag.colP (zs.take j)) ∧ WK R wr V) (fun _ i _ => zs.length - (intOf i).toNat)
      case atStart => exact ⟨0, Nat.zero_le _, rfl, by simpa [Ag.colP] using HW0.out, WK.refl _ _⟩
      case round =>
        obtain ⟨j, hj, rfl, hWv, hkv⟩ := hrel
        by_cases hjl : j < zs.length
        · have hjz : (j : Int) < (zs.length : Int) := by omega
          obtain ⟨b, off, hAe, cj⟩ := vs_num ((HV.out.below HK0.out.low (Nat.le_refl _)).below hkv.low (Nat.le_refl _)) j hjl
          subst hAe
          have hix := ixI b off zs.length q j (by omega) hjl
          have HST := Lib.hid (colP_take zs j hjl)
          have hz := HZ.out zs[j] (List.getElem_mem hjl)
          have hlj := HLC.out (j + 1)
          rw [HST.out, List.length_append] at hlj
          have HL := Lib.hid (HLC.out j)
          generalize zs[j] = z at *
          obtain ⟨m, rfl⟩ : ∃ m : Nat, z = (m : Int) := ⟨z.toNat, by omega⟩
          rw [Int.toNat_natCast] at HST hlj
          have hwR := hWv.lt
          have hka := hkv.alloc (Obj.cells #[.int .i64 (m : Int)] 3) (Nat.le_of_lt hwR)
          have HLN := Lib.hid (wline_any R wr.heap.size 0 1 ((bs ++ sigK c k) ++ Ag.colP (zs.take j)) [m] B (wr.alloc (Obj.cells #[.int .i64 (m : Int)] 3)) (hWv.alloc _) (arg_one wr R m (by omega) (m : Int) rfl) (by intro n hn; simp at hn; omega) (by have := HL5.out; have := HL.out; simp only [List.length_append, List.length_cons, List.length_nil]; omega) (HAM.out _ (HK0.out.trans hka)) hR)
          clear hWv hkv hlj
          go_wp2_with fail
          refine HLN.out.mono ?_
          rintro e w3 ⟨rfl, hW3, hk3⟩
          go_wp2
          go_roundw
          case rel => exact ⟨j + 1, by omega, by go_num, by rw [HST.out, ← List.append_assoc]; exact hW3, hka.trans hk3⟩
          case measure => simp [intOf]; omega
        · obtain rfl : j = zs.length := by omega
          rw [List.take_length, List.append_assoc, ← HT5.out] at hWv
          have hT2 := hkv.blkOf HHT.out hne (by decide)
          have hkt := HK0.out.trans hkv
          go_wp2
          go_roundw
          case rel => exact ⟨k + 1, by omega, by go_num, hWv, hkt, hT2⟩
          case measure => simp [intOf]; omega
    · obtain rfl : k = 4 := by omega
      go_wp2
      go_end0
      rw [sigK_all] at hW
      exact ⟨rfl, hW, hk⟩
end Go.Proofs.YtdnbndknfifmgaaGreatDoor
/- The writer of texts: a latch. -/
namespace Go.Proofs.YtdnbndknfifmgaaGreatDoor
open Go.RowKit

theorem row_mono {w : World} {base lo : Nat} {e : TypeId} {size : Nat} {v : Value} {n : Nat} {xs : List Value} (h : w.ownsRow base e size v n xs) (hl : lo ≤ base) : w.ownsRow lo e size v n xs := by
  refine ⟨h.1, ?_⟩
  rcases h.2 with h2 | ⟨g, cap, cur, he, hbs, r⟩
  · exact Or.inl h2
  · exact Or.inr ⟨g, cap, cur, he, Nat.le_trans hl hbs, r⟩
theorem row_arg {w : World} {R base : Nat} {v : Value} {ns : List Nat} (hne : ns ≠ []) (hR : R < base) (h : w.ownsRow base 3 1 v ns.length (iv (natV ns))) : ∃ g c, v = .slice (some ⟨g, 0, none⟩) ns.length c ∧ Arg w R g 0 ns := by
  rcases h.2 with ⟨_, h0⟩ | ⟨g, cap, cur, rfl, hb, hh, hn, _, _, ht⟩
  · exact absurd (List.length_eq_zero_iff.1 h0) hne
  · refine ⟨g, cap, rfl, _, cur, hh, by omega, by decide, fun j hj => ?_⟩
    have f1 : (iv (natV ns))[j]? = some (.int .i64 ((ns[j] : Nat) : Int)) := by
      simp [iv, natV, List.getElem?_eq_getElem hj]
    rw [← ht, List.getElem?_take_of_lt (by omega)] at f1
    rw [Nat.zero_add, ← Array.getElem?_toList]
    exact f1
set_option maxRecDepth 10000 in
set_option maxHeartbeats 4000000 in
theorem wlatch_any (R b off cb x m k own : Nat) (bs : Ag.Bs) (B : Nat) (w : World) (hW : WB w R bs) (hX : Arg w R b off [x]) (hb : b < w.heap.size) (hx : x ≤ 999999) (hm : m ≤ 999999) (hk : k ≤ 2) (ho : own ≤ 999999) (hl : bs.length ≤ 6900000) (hA : Amb B w) (hR : B ≤ R) :
    Calls Tryz.prog 25 #[.pointer (some ⟨R, 0, none⟩), .agg #[.int .i64 (m : Int), .int .i64 (k : Int)], .int .i64 (own : Int), .slice (some ⟨b, off, none⟩) 1 cb] w (WrP R w (bs ++ Ag.lineOf (x :: m :: (if k = 1 then [1] else if k = 2 then [own] else [])))) := by
  have HAM : Hid (∀ V, WK R w V → Amb B V) := fun V k => hA.on (k.low.mono hR)
  have hR0 := hW.lt
  have hx0 := hX.at 0 (by simp)
  have hbx := Blk.new w 49 #[.int .i64 (m : Int), .int .i64 (k : Int)]
  have hW1 := hW.alloc (Obj.cells #[.int .i64 (m : Int), .int .i64 (k : Int)] 49)
  have hk1 := (WK.refl R w).alloc (Obj.cells #[.int .i64 (m : Int), .int .i64 (k : Int)] 49) (by omega)
  have hx1 := (World.cell?_alloc_lt w (Obj.cells #[.int .i64 (m : Int), .int .i64 (k : Int)] 49) ⟨b, off, none⟩ hb).trans hx0
  have hsz : (w.alloc (Obj.cells #[.int .i64 (m : Int), .int .i64 (k : Int)] 49)).heap.size = w.heap.size + 1 := by simp
  clear hA hW hX hx0
  go_enter Tryz.func25, Tryz.ntmps25
  go_upto_region 1 with fail
  generalize w.alloc (Obj.cells #[.int .i64 (m : Int), .int .i64 (k : Int)] 49) = W1 at *
  have hN : w.heap.size < W1.heap.size := by omega
  have hbN : b < W1.heap.size := by omega
  have HSZ := Lib.hid hsz
  clear hsz
  have c0 := hbx.cell 0
  have c1 := hbx.cell 1
  simp only [List.getElem?_toArray, List.getElem?_cons_zero, List.getElem?_cons_succ] at c0 c1
  have HCL : Hid (∀ V, Below W1.heap.size W1 V → Calls Tryz.prog 55 #[.slice (some ⟨b, off, none⟩) 1 cb] V fun e w' => ∃ v', e = .returned v' ∧ w'.ownsRow V.heap.size 3 1 v' 1 [.int .i64 (x : Int)] ∧ v' ≠ .slice none 0 0 ∧ Below V.heap.size V w') := by
    intro V hV
    have h := Tryz.slices_Clone_int b off 1 cb [(x : Int)] V (by simp) (by omega) (fun j hj => by
      have : j = 0 := by simpa using hj
      subst this
      exact (hV.cell (p := ⟨b, off, none⟩) hbN).trans hx1)
    exact h
  go_cut [8] from 9 (fun s8 wx => wx.ownsRow W1.heap.size 3 1 s8 2 [.int .i64 (x : Int), .int .i64 (m : Int)] ∧ Below W1.heap.size W1 wx)
  case first =>
    refine wp_region_held_drew (S := fun _ => True) (by kernel_rfl) trivial (fun hHeld => ?_)
    refine wpAnyH_take (i := 0) (oi := ⟨some 9, _, _, _, _, _⟩) (v := ?_) rfl (by kernel_rfl) (by kernel_rfl) (by kernel_rfl) (fun _ _ _ h => h) (Or.inl ⟨by rfl, ?_⟩) hHeld ?_
    rotate_left
    · intro w hSw
      (try dsimp only at hSw)
      first | (go_simp; done) | (go_simp; with_reducible rfl) | with_reducible rfl
    try simp only [Act.put, List.setIfInBounds_toArray, List.set_cons_zero, List.set_cons_succ]
    refine wpAnyH_take (i := 2) (oi := ⟨some 11, _, _, _, _, _⟩) (v := ?_) rfl (by kernel_rfl) (by kernel_rfl) (by kernel_rfl) (fun _ _ _ h => h) (Or.inl ⟨by rfl, ?_⟩) hHeld ?_
    rotate_left
    · intro w hSw
      (try dsimp only at hSw)
      first | (go_simp; done) | (go_simp; with_reducible rfl) | with_reducible rfl
    try simp only [Act.put, List.setIfInBounds_toArray, List.set_cons_zero, List.set_cons_succ]
    refine wpAnyH_ready (rs := [1, 3]) (by kernel_rfl) (by simp) ?_
    refine (AllReadyH.cons (o := ⟨some 10, _, _, _, _, _⟩) rfl (fun K hK => ?_) (AllReadyH.cons (o := ⟨some 12, _, _, _, _, _⟩) rfl (fun K hK => ?_) AllReadyH.nil))
    · go_simp
      refine (HCL.out W1.drew (Below.refl W1.heap.size W1).drew).mono ?_
      rintro e w2 ⟨v1, rfl, hrow, _, hlow⟩
      have hlo : Below W1.heap.size W1 w2 := ⟨hlow.os, hlow.tape, hlow.output, hlow.size, hlow.block⟩
      replace hrow : w2.ownsRow W1.heap.size 3 1 v1 1 [.int .i64 (x : Int)] := hrow
      have k0 := (hlo.cell (p := ⟨w.heap.size, 0, none⟩) hN).trans c0
      clear hlow
      refine hK.out _ _ ?_ (fun hHeld => ?_)
      · trivial
      clear hK K
      try simp only [Act.put, List.setIfInBounds_toArray, List.set_cons_zero, List.set_cons_succ]
      refine wpAnyH_ready (rs := [3]) (by kernel_rfl) (by simp) ?_
      refine AllReadyH.cons (o := ⟨some 12, _, _, _, _, _⟩) rfl (fun K hK => ?_) AllReadyH.nil
      go_simp
      refine hK.out _ _ ?_ (fun hHeld => ?_)
      · trivial
      clear hK K
      try simp only [Act.put, List.setIfInBounds_toArray, List.set_cons_zero, List.set_cons_succ]
      refine wpAnyH_ready (rs := [4]) (by kernel_rfl) (by simp) ?_
      refine AllReadyH.cons (o := ⟨some 13, _, _, _, _, _⟩) rfl (fun K hK => ?_) AllReadyH.nil
      go_simp
      have hlob := lowAlloc w2 (Obj.cells #[.int .i64 (m : Int)] 3)
      have hbk := Blk.new w2 3 #[.int .i64 (m : Int)]
      replace hrow := World.ownsRow.alloc hrow (Obj.cells #[.int .i64 (m : Int)] 3)
      replace hlo := hlo.trans (hlob.mono hlo.size)
      clear hlob k0
      generalize hwb : w2.heap.size = nb at *
      generalize w2.alloc (Obj.cells #[.int .i64 (m : Int)] 3) = w3 at *
      refine hK.out _ _ ?_ (fun hHeld => ?_)
      · trivial
      clear hK K
      try simp only [Act.put, List.setIfInBounds_toArray, List.set_cons_zero, List.set_cons_succ]
      refine wpAnyH_ready (rs := [5]) (by kernel_rfl) (by simp) ?_
      refine AllReadyH.cons (o := ⟨some 14, _, _, _, _, _⟩) rfl (fun K hK => ?_) AllReadyH.nil
      rw [if_pos (by rfl)]
      refine oper_app (.tmp 10) (.tmp 13) 26 rfl v1 (.slice (some ⟨nb, 0, none⟩) 1 1) rfl rfl (fun v' w' => w'.ownsRow W1.heap.size 3 1 v' 2 [.int .i64 (x : Int), .int .i64 (m : Int)] ∧ w3.grownBy w' v1.ownBlock) (fun ty => (by obtain ⟨v', w', r1, r2, r3, _⟩ := app_int w3 W1.heap.size ty v1 1 _ hrow nb 1 (m : Int) hbk (by omega) hlo.size; exact ⟨v', w', r1, r2, r3⟩)) ?_
      intro v2 w5 hR5
      have hlo5 : Below W1.heap.size W1 w5 := hlo.grown hR5.2 hlo.size (fun k e => row_base hrow k e)
      refine hK.out _ _ ?_ (fun hHeld => ?_)
      · trivial
      clear hK K
      try simp only [Act.put, List.setIfInBounds_toArray, List.set_cons_zero, List.set_cons_succ]
      refine wpAnyH_take (i := 6) (oi := ⟨some 8, _, _, _, _, _⟩) (v := ?_) rfl (by kernel_rfl) (by kernel_rfl) (by kernel_rfl) (fun _ _ _ h => h) (Or.inl ⟨by rfl, ?_⟩) hHeld ?_
      rotate_left
      · intro w hSw
        (try dsimp only at hSw)
        first | (go_simp; done) | (go_simp; with_reducible rfl) | with_reducible rfl
      try simp only [Act.put, List.setIfInBounds_toArray, List.set_cons_zero, List.set_cons_succ]
      refine wpAnyH_done (by kernel_rfl) ?_ _
      go_wp2
      go_meet
      case rel => exact ⟨hR5.1, hlo5⟩
    · go_simp
      refine hK.out _ _ ?_ (fun hHeld => ?_)
      · trivial
      clear hK K
      try simp only [Act.put, List.setIfInBounds_toArray, List.set_cons_zero, List.set_cons_succ]
      refine wpAnyH_ready (rs := [1, 4]) (by kernel_rfl) (by simp) ?_
      refine (AllReadyH.cons (o := ⟨some 10, _, _, _, _, _⟩) rfl (fun K hK => ?_) (AllReadyH.cons (o := ⟨some 13, _, _, _, _, _⟩) rfl (fun K hK => ?_) AllReadyH.nil))
      · go_simp
        refine (HCL.out W1.drew (Below.refl W1.heap.size W1).drew).mono ?_
        rintro e w2 ⟨v1, rfl, hrow, _, hlow⟩
        have hlo : Below W1.heap.size W1 w2 := ⟨hlow.os, hlow.tape, hlow.output, hlow.size, hlow.block⟩
        replace hrow : w2.ownsRow W1.heap.size 3 1 v1 1 [.int .i64 (x : Int)] := hrow
        have k0 := (hlo.cell (p := ⟨w.heap.size, 0, none⟩) hN).trans c0
        clear hlow
        refine hK.out _ _ ?_ (fun hHeld => ?_)
        · trivial
        clear hK K
        try simp only [Act.put, List.setIfInBounds_toArray, List.set_cons_zero, List.set_cons_succ]
        refine wpAnyH_ready (rs := [4]) (by kernel_rfl) (by simp) ?_
        refine AllReadyH.cons (o := ⟨some 13, _, _, _, _, _⟩) rfl (fun K hK => ?_) AllReadyH.nil
        go_simp
        have hlob := lowAlloc w2 (Obj.cells #[.int .i64 (m : Int)] 3)
        have hbk := Blk.new w2 3 #[.int .i64 (m : Int)]
        replace hrow := World.ownsRow.alloc hrow (Obj.cells #[.int .i64 (m : Int)] 3)
        replace hlo := hlo.trans (hlob.mono hlo.size)
        clear hlob k0
        generalize hwb : w2.heap.size = nb at *
        generalize w2.alloc (Obj.cells #[.int .i64 (m : Int)] 3) = w3 at *
        refine hK.out _ _ ?_ (fun hHeld => ?_)
        · trivial
        clear hK K
        try simp only [Act.put, List.setIfInBounds_toArray, List.set_cons_zero, List.set_cons_succ]
        refine wpAnyH_ready (rs := [5]) (by kernel_rfl) (by simp) ?_
        refine AllReadyH.cons (o := ⟨some 14, _, _, _, _, _⟩) rfl (fun K hK => ?_) AllReadyH.nil
        rw [if_pos (by rfl)]
        refine oper_app (.tmp 10) (.tmp 13) 26 rfl v1 (.slice (some ⟨nb, 0, none⟩) 1 1) rfl rfl (fun v' w' => w'.ownsRow W1.heap.size 3 1 v' 2 [.int .i64 (x : Int), .int .i64 (m : Int)] ∧ w3.grownBy w' v1.ownBlock) (fun ty => (by obtain ⟨v', w', r1, r2, r3, _⟩ := app_int w3 W1.heap.size ty v1 1 _ hrow nb 1 (m : Int) hbk (by omega) hlo.size; exact ⟨v', w', r1, r2, r3⟩)) ?_
        intro v2 w5 hR5
        have hlo5 : Below W1.heap.size W1 w5 := hlo.grown hR5.2 hlo.size (fun k e => row_base hrow k e)
        refine hK.out _ _ ?_ (fun hHeld => ?_)
        · trivial
        clear hK K
        try simp only [Act.put, List.setIfInBounds_toArray, List.set_cons_zero, List.set_cons_succ]
        refine wpAnyH_take (i := 6) (oi := ⟨some 8, _, _, _, _, _⟩) (v := ?_) rfl (by kernel_rfl) (by kernel_rfl) (by kernel_rfl) (fun _ _ _ h => h) (Or.inl ⟨by rfl, ?_⟩) hHeld ?_
        rotate_left
        · intro w hSw
          (try dsimp only at hSw)
          first | (go_simp; done) | (go_simp; with_reducible rfl) | with_reducible rfl
        try simp only [Act.put, List.setIfInBounds_toArray, List.set_cons_zero, List.set_cons_succ]
        refine wpAnyH_done (by kernel_rfl) ?_ _
        go_wp2
        go_meet
        case rel => exact ⟨hR5.1, hlo5⟩
      · go_simp
        have hlo2 : Below W1.heap.size W1 (W1.alloc (Obj.cells #[.int .i64 (m : Int)] 3)).drew := (fun (h : Below W1.heap.size W1 (W1.alloc (Obj.cells #[.int .i64 (m : Int)] 3))) => ⟨h.os, h.tape, h.output, h.size, h.block⟩) (lowAlloc W1 (Obj.cells #[.int .i64 (m : Int)] 3))
        have hbk2 : Blk (W1.alloc (Obj.cells #[.int .i64 (m : Int)] 3)).drew W1.heap.size 3 #[.int .i64 (m : Int)] := Blk.new W1 3 #[.int .i64 (m : Int)]
        generalize (W1.alloc (Obj.cells #[.int .i64 (m : Int)] 3)).drew = V2 at *
        refine hK.out _ _ ?_ (fun hHeld => ?_)
        · trivial
        clear hK K
        try simp only [Act.put, List.setIfInBounds_toArray, List.set_cons_zero, List.set_cons_succ]
        refine wpAnyH_ready (rs := [1]) (by kernel_rfl) (by simp) ?_
        refine AllReadyH.cons (o := ⟨some 10, _, _, _, _, _⟩) rfl (fun K hK => ?_) AllReadyH.nil
        go_simp
        refine (HCL.out V2 hlo2).mono ?_
        rintro e w2 ⟨v1, rfl, hrow0, _, hlow⟩
        have hlo : Below W1.heap.size W1 w2 := hlo2.trans (hlow.mono hlo2.size)
        have hrow : w2.ownsRow W1.heap.size 3 1 v1 1 [.int .i64 (x : Int)] := row_mono hrow0 hlo2.size
        have hbk := hbk2.below hlow hbk2.lt
        clear hlow hrow0
        refine hK.out _ _ ?_ (fun hHeld => ?_)
        · trivial
        clear hK K
        try simp only [Act.put, List.setIfInBounds_toArray, List.set_cons_zero, List.set_cons_succ]
        refine wpAnyH_ready (rs := [5]) (by kernel_rfl) (by simp) ?_
        refine AllReadyH.cons (o := ⟨some 14, _, _, _, _, _⟩) rfl (fun K hK => ?_) AllReadyH.nil
        rw [if_pos (by rfl)]
        refine oper_app (.tmp 10) (.tmp 13) 26 rfl v1 (.slice (some ⟨W1.heap.size, 0, none⟩) 1 1) rfl rfl (fun v' w' => w'.ownsRow W1.heap.size 3 1 v' 2 [.int .i64 (x : Int), .int .i64 (m : Int)] ∧ w2.grownBy w' v1.ownBlock) (fun ty => (by obtain ⟨v', w', r1, r2, r3, _⟩ := app_int w2 W1.heap.size ty v1 1 _ hrow W1.heap.size 1 (m : Int) hbk (by omega) hlo.size; exact ⟨v', w', r1, r2, r3⟩)) ?_
        intro v2 w5 hR5
        have hlo5 : Below W1.heap.size W1 w5 := hlo.grown hR5.2 hlo.size (fun k e => row_base hrow k e)
        refine hK.out _ _ ?_ (fun hHeld => ?_)
        · trivial
        clear hK K
        try simp only [Act.put, List.setIfInBounds_toArray, List.set_cons_zero, List.set_cons_succ]
        refine wpAnyH_take (i := 6) (oi := ⟨some 8, _, _, _, _, _⟩) (v := ?_) rfl (by kernel_rfl) (by kernel_rfl) (by kernel_rfl) (fun _ _ _ h => h) (Or.inl ⟨by rfl, ?_⟩) hHeld ?_
        rotate_left
        · intro w hSw
          (try dsimp only at hSw)
          first | (go_simp; done) | (go_simp; with_reducible rfl) | with_reducible rfl
        try simp only [Act.put, List.setIfInBounds_toArray, List.set_cons_zero, List.set_cons_succ]
        refine wpAnyH_done (by kernel_rfl) ?_ _
        go_wp2
        go_meet
        case rel => exact ⟨hR5.1, hlo5⟩
  case rest =>
    obtain ⟨hrow, hlo⟩ := hcut
    have k1 := (hlo.cell (p := ⟨w.heap.size, 1, none⟩) hN).trans c1
    clear c0 c1 hx1 hbx HCL hbN
    have hk3 : k = 0 ∨ k = 1 ∨ k = 2 := by omega
    rcases hk3 with rfl | rfl | rfl
    · have k1' : wc.cell? ⟨w.heap.size, 1, none⟩ = some (.int .i64 0) := k1
      clear k1
      obtain ⟨g, q, rfl, hX⟩ := row_arg (R := R) (ns := [x, m]) (by simp) (by omega) hrow
      have HL := Lib.hid (wline_any R g 0 q bs [x, m] B wc (hW1.below hlo) hX (by intro z hz; simp at hz; omega) (by simp only [List.length_cons, List.length_nil]; omega) (HAM.out _ (hk1.below hlo (Nat.le_of_lt hW1.lt))) hR)
      have hkt := hk1.below hlo (Nat.le_of_lt hW1.lt)
      clear hrow hlo hX hW1 hk1
      go_wp2_with fail
      refine HL.out.mono ?_
      rintro e w6 ⟨rfl, hW6, hk6⟩
      go_wp2
      go_end0
      exact ⟨rfl, hW6, hkt.trans hk6⟩
    · have k1' : wc.cell? ⟨w.heap.size, 1, none⟩ = some (.int .i64 1) := k1
      clear k1
      have hloa := hlo.trans ((lowAlloc wc (Obj.cells #[.int .i64 1] 3)).mono hlo.size)
      have hrowa := World.ownsRow.alloc hrow (Obj.cells #[.int .i64 1] 3)
      have hbk := Blk.new wc 3 #[.int .i64 1]
      have HRUN : Hid (∀ ty, ∃ v' w', (Builtin.append_ #[26, 26] ty #[u8, .slice (some ⟨wc.heap.size, 0, none⟩) 1 1]).run Tryz.prog (wc.alloc (Obj.cells #[.int .i64 1] 3)) = .ok v' w' ∧ (w'.ownsRow W1.heap.size 3 1 v' 3 [.int .i64 (x : Int), .int .i64 (m : Int), .int .i64 1] ∧ (wc.alloc (Obj.cells #[.int .i64 1] 3)).grownBy w' u8.ownBlock)) := fun ty => by
        obtain ⟨v', w', r1, r2, r3, _⟩ := app_int (wc.alloc (Obj.cells #[.int .i64 1] 3)) W1.heap.size ty u8 2 _ hrowa wc.heap.size 1 (1 : Int) hbk (by omega) hloa.size
        exact ⟨v', w', r1, r2, r3⟩
      have HRB := Lib.hid (row_base hrowa)
      clear hbk hrow hrowa hlo
      go_wp2_with (at_builtin; go_loud (refine wpList_app rfl (.tmp 19) (.tmp 20) 26 rfl _ _ rfl rfl _ HRUN.out ?_); intro v3 w5 hR5; obtain ⟨g, q, rfl, hX⟩ := row_arg (R := R) (ns := [x, m, 1]) (by simp) (by omega) hR5.1)
      have hlo5 : Below W1.heap.size W1 w5 := hloa.grown hR5.2 hloa.size (fun k e => HRB.out k e)
      have HL := Lib.hid (wline_any R g 0 q bs [x, m, 1] B w5 (hW1.below hlo5) hX (by intro z hz; simp at hz; omega) (by simp only [List.length_cons, List.length_nil]; omega) (HAM.out _ (hk1.below hlo5 (Nat.le_of_lt hW1.lt))) hR)
      have hkt := hk1.below hlo5 (Nat.le_of_lt hW1.lt)
      clear hX hW1 hk1 hR5 hloa HRUN
      refine HL.out.mono ?_
      rintro e w6 ⟨rfl, hW6, hk6⟩
      go_wp2
      go_end0
      exact ⟨rfl, hW6, hkt.trans hk6⟩
    · have k1' : wc.cell? ⟨w.heap.size, 1, none⟩ = some (.int .i64 2) := k1
      clear k1
      have hloa := hlo.trans ((lowAlloc wc (Obj.cells #[.int .i64 (own : Int)] 3)).mono hlo.size)
      have hrowa := World.ownsRow.alloc hrow (Obj.cells #[.int .i64 (own : Int)] 3)
      have hbk := Blk.new wc 3 #[.int .i64 (own : Int)]
      have HRUN : Hid (∀ ty, ∃ v' w', (Builtin.append_ #[26, 26] ty #[u8, .slice (some ⟨wc.heap.size, 0, none⟩) 1 1]).run Tryz.prog (wc.alloc (Obj.cells #[.int .i64 (own : Int)] 3)) = .ok v' w' ∧ (w'.ownsRow W1.heap.size 3 1 v' 3 [.int .i64 (x : Int), .int .i64 (m : Int), .int .i64 (own : Int)] ∧ (wc.alloc (Obj.cells #[.int .i64 (own : Int)] 3)).grownBy w' u8.ownBlock)) := fun ty => by
        obtain ⟨v', w', r1, r2, r3, _⟩ := app_int (wc.alloc (Obj.cells #[.int .i64 (own : Int)] 3)) W1.heap.size ty u8 2 _ hrowa wc.heap.size 1 ((own : Int) : Int) hbk (by omega) hloa.size
        exact ⟨v', w', r1, r2, r3⟩
      have HRB := Lib.hid (row_base hrowa)
      clear hbk hrow hrowa hlo
      go_wp2_with (at_builtin; go_loud (refine wpList_app rfl (.tmp 24) (.tmp 26) 26 rfl _ _ rfl rfl _ HRUN.out ?_); intro v3 w5 hR5; obtain ⟨g, q, rfl, hX⟩ := row_arg (R := R) (ns := [x, m, own]) (by simp) (by omega) hR5.1)
      have hlo5 : Below W1.heap.size W1 w5 := hloa.grown hR5.2 hloa.size (fun k e => HRB.out k e)
      have HL := Lib.hid (wline_any R g 0 q bs [x, m, own] B w5 (hW1.below hlo5) hX (by intro z hz; simp at hz; omega) (by simp only [List.length_cons, List.length_nil]; omega) (HAM.out _ (hk1.below hlo5 (Nat.le_of_lt hW1.lt))) hR)
      have hkt := hk1.below hlo5 (Nat.le_of_lt hW1.lt)
      clear hX hW1 hk1 hR5 hloa HRUN
      refine HL.out.mono ?_
      rintro e w6 ⟨rfl, hW6, hk6⟩
      go_wp2
      go_end0
      exact ⟨rfl, hW6, hkt.trans hk6⟩
end Go.Proofs.YtdnbndknfifmgaaGreatDoor
/- The writer of texts: the first line. -/
namespace Go.Proofs.YtdnbndknfifmgaaGreatDoor
open Go.RowKit

theorem sizes_arg (w : World) (R N : Nat) (c : Cir) (hN : c.n = (N : Int)) (hR : w.heap.size ≠ R) : Arg (w.alloc (Obj.cells #[.int .i64 ((N : Int) + (c.ls.length : Int) + (c.gs.length : Int)), .int .i64 (N : Int), .int .i64 (c.ls.length : Int), .int .i64 (c.os.length : Int), .int .i64 (c.gs.length : Int), .int .i64 (c.bs.length : Int), .int .i64 (c.cs.length : Int), .int .i64 0, .int .i64 (c.fs.length : Int)] 87)) R w.heap.size 0 (Ag.sizes c) := by
  refine ⟨_, _, Blk.new w 87 _, hR, by decide, fun j hj => ?_⟩
  have hj9 : j < 9 := hj
  have hn : c.n.toNat = N := by omega
  unfold Ag.sizes
  simp only [hn]
  have : j = 0 ∨ j = 1 ∨ j = 2 ∨ j = 3 ∨ j = 4 ∨ j = 5 ∨ j = 6 ∨ j = 7 ∨ j = 8 := by omega
  rcases this with rfl | rfl | rfl | rfl | rfl | rfl | rfl | rfl | rfl
  · simp
  all_goals rfl
set_option maxRecDepth 10000 in
set_option maxHeartbeats 4000000 in
theorem whead_any (R : Nat) (c : Cir) (bs word : Ag.Bs) (B : Nat) (w : World) (hW : WB w R bs) (hok : Ag.PrintOk c) (hwd : word.length ≤ 100) (hl : bs.length ≤ 1000000) (hA : Amb B w) (hR : B ≤ R) :
    Calls Tryz.prog 22 #[.pointer (some ⟨R, 0, none⟩), .string ⟨word.toArray⟩, .agg #[.int .i64 c.n, .slice c.aL c.ls.length c.cL, .slice c.aG c.gs.length c.cG, .slice c.aO c.os.length c.cO, .slice c.aB c.bs.length c.cB, .slice c.aC c.cs.length c.cC, .slice c.aF c.fs.length c.cF, .slice c.aN c.ns.length c.cN]] w (WrP R w (bs ++ (word ++ 32 :: Ag.lineOf (Ag.sizes c)))) := by
  have HAM : Hid (∀ V, WK R w V → Amb B V) := fun V k => hA.on (k.low.mono hR)
  have hR0 := hW.lt
  have HSF := Lib.hid (Ag.sizes_facts hok)
  have h1 := hok.n0
  have h2 := hok.all
  have l1 : c.ls.length ≤ 2000 := by omega
  have l2 : c.gs.length ≤ 2000 := by omega
  have l3 := hok.o
  have l4 := hok.b
  have l5 := hok.c_
  have l6 := hok.f
  obtain ⟨N, hN⟩ : ∃ N : Nat, c.n = (N : Int) := ⟨c.n.toNat, by omega⟩
  have lN : N ≤ 2000 := by omega
  have HN := Lib.hid hN
  have hbx := Blk.new w 29 #[.int .i64 c.n, .slice c.aL c.ls.length c.cL, .slice c.aG c.gs.length c.cG, .slice c.aO c.os.length c.cO, .slice c.aB c.bs.length c.cB, .slice c.aC c.cs.length c.cC, .slice c.aF c.fs.length c.cF, .slice c.aN c.ns.length c.cN]
  have hW1 := hW.alloc (Obj.cells #[.int .i64 c.n, .slice c.aL c.ls.length c.cL, .slice c.aG c.gs.length c.cG, .slice c.aO c.os.length c.cO, .slice c.aB c.bs.length c.cB, .slice c.aC c.cs.length c.cC, .slice c.aF c.fs.length c.cF, .slice c.aN c.ns.length c.cN] 29)
  have hk1 := (WK.refl R w).alloc (Obj.cells #[.int .i64 c.n, .slice c.aL c.ls.length c.cL, .slice c.aG c.gs.length c.cG, .slice c.aO c.os.length c.cO, .slice c.aB c.bs.length c.cB, .slice c.aC c.cs.length c.cC, .slice c.aF c.fs.length c.cF, .slice c.aN c.ns.length c.cN] 29) (by omega)
  have c0 := hbx.cell 0; have c1 := hbx.cell 1; have c2 := hbx.cell 2; have c3 := hbx.cell 3; have c4 := hbx.cell 4; have c5 := hbx.cell 5; have c6 := hbx.cell 6; have c7 := hbx.cell 7; simp only [List.getElem?_toArray, List.getElem?_cons_zero, List.getElem?_cons_succ] at c0 c1 c2 c3 c4 c5 c6 c7
  clear hA hok hW hbx h1 h2 hN
  go_enter Tryz.func22, Tryz.ntmps22
  go_upto_region 1 with fail
  generalize w.alloc (Obj.cells #[.int .i64 c.n, .slice c.aL c.ls.length c.cL, .slice c.aG c.gs.length c.cG, .slice c.aO c.os.length c.cO, .slice c.aB c.bs.length c.cB, .slice c.aC c.cs.length c.cC, .slice c.aF c.fs.length c.cF, .slice c.aN c.ns.length c.cN] 29) = W1 at *
  rw [HN.out] at c0
  go_upto_region 2 with fail
  clear c0 c1 c2 c3 c4 c5 c6 c7
  have hH := sizes_arg W1 R N c HN.out (by have := hW1.lt; omega)
  have hW2 := hW1.alloc (Obj.cells #[.int .i64 ((N : Int) + (c.ls.length : Int) + (c.gs.length : Int)), .int .i64 (N : Int), .int .i64 (c.ls.length : Int), .int .i64 (c.os.length : Int), .int .i64 (c.gs.length : Int), .int .i64 (c.bs.length : Int), .int .i64 (c.cs.length : Int), .int .i64 0, .int .i64 (c.fs.length : Int)] 87)
  have hk2 := hk1.alloc (Obj.cells #[.int .i64 ((N : Int) + (c.ls.length : Int) + (c.gs.length : Int)), .int .i64 (N : Int), .int .i64 (c.ls.length : Int), .int .i64 (c.os.length : Int), .int .i64 (c.gs.length : Int), .int .i64 (c.bs.length : Int), .int .i64 (c.cs.length : Int), .int .i64 0, .int .i64 (c.fs.length : Int)] 87) (Nat.le_of_lt hW1.lt)
  clear hW1 hk1
  generalize W1.alloc (Obj.cells #[.int .i64 ((N : Int) + (c.ls.length : Int) + (c.gs.length : Int)), .int .i64 (N : Int), .int .i64 (c.ls.length : Int), .int .i64 (c.os.length : Int), .int .i64 (c.gs.length : Int), .int .i64 (c.bs.length : Int), .int .i64 (c.cs.length : Int), .int .i64 0, .int .i64 (c.fs.length : Int)] 87) = W2 at *
  generalize W1.heap.size = H at *
  have hcv := string_bytes W2 ⟨word.toArray⟩
  have hbw := Lib.bytesWorld_below W2 5 ⟨word.toArray⟩
  have hsz : (⟨word.toArray⟩ : ByteArray).size = word.length := by simp [ByteArray.size]
  rw [hsz] at hcv
  have HB1 := Lib.hid (wbytes_any R W2.heap.size 0 (grownCap W2 word.length 0 5) bs word (Lib.bytesWorld W2 5 ⟨word.toArray⟩) (hW2.below hbw) (bytes_at W2 ⟨word.toArray⟩) (by omega))
  have hk2a := hk2.below hbw (Nat.le_of_lt hW2.lt)
  have hHa : Arg (Lib.bytesWorld W2 5 ⟨word.toArray⟩) R H 0 (Ag.sizes c) := hH.wk ((WK.refl R W2).below hbw (Nat.le_of_lt hW2.lt))
  clear hW2 hk2 hH hbw hsz
  generalize Lib.bytesWorld W2 5 ⟨word.toArray⟩ = W3 at *
  go_wp2_with fail
  refine HB1.out.mono ?_
  rintro e w4 ⟨rfl, hW4, hk4⟩
  have hk4t := hk2a.trans hk4
  have hH4 := hHa.wk hk4
  clear HB1 hk2a hk4 hHa hcv
  have HB2 := Lib.hid (wbytes_any R w4.heap.size 0 1 (bs ++ word) [32] (w4.alloc (Obj.cells #[.int .u8 (((32 : UInt8).toNat : Nat) : Int)] 5)) (hW4.alloc _) (one_byte w4 32) (by simp only [List.length_append, List.length_cons, List.length_nil]; omega))
  have hk4a := hk4t.alloc (Obj.cells #[.int .u8 (((32 : UInt8).toNat : Nat) : Int)] 5) (Nat.le_of_lt hW4.lt)
  have hH4a := hH4.wk ((WK.refl R w4).alloc (Obj.cells #[.int .u8 (((32 : UInt8).toNat : Nat) : Int)] 5) (Nat.le_of_lt hW4.lt))
  clear hW4 hk4t hH4
  go_wp2_with fail
  refine HB2.out.mono ?_
  rintro e w5 ⟨rfl, hW5, hk5⟩
  have hk5t := hk4a.trans hk5
  have hH5 := hH4a.wk hk5
  have HL := Lib.hid (wline_any R H 0 9 ((bs ++ word) ++ [32]) (Ag.sizes c) B w5 hW5 hH5 (fun n hn => Nat.le_trans (HSF.out n hn) (by omega)) (by simp only [List.length_append, List.length_cons, List.length_nil, Ag.sizes]; omega) (HAM.out _ hk5t) hR)
  clear HB2 hk4a hH4a hk5 hW5 hH5
  go_wp2_with fail
  refine HL.out.mono ?_
  rintro e w6 ⟨rfl, hW6, hk6⟩
  go_wp2
  go_end0
  refine ⟨rfl, ?_, hk5t.trans hk6⟩
  simpa using hW6
end Go.Proofs.YtdnbndknfifmgaaGreatDoor
