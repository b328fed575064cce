/- Formulas by numbers: Made. -/
import Derived.Test.YtlddnejjpekgeaaDoorQba
import Derived.Laws.EntriesVeiled
import Derived.Test.YtlddnejjpekgeaaDoorQar
set_option linter.unusedSimpArgs false
set_option linter.unusedVariables false
namespace Go.Proofs.YtlddnejjpekgeaaDoor
open Go.RowKit

/-- The formula that Made makes. -/
def madeF (zs : List Int) : Fm.F := (Fm.makeS (zs.map Int.toNat) 6 0).1
theorem made_valid (zs : List Int) : Fm.validB (madeF zs) = true ∧ (madeF zs).text.length ≤ 2794 := Fm.make_valid _
set_option maxHeartbeats 4000000 in
theorem made_start (A : Option Addr) (c : Nat) (zs : List Int) (w : World) (hml : zs.length ≤ maxLen) (hU : Ub w w.heap.size A zs) :
    MK (((((w.alloc (Obj.cells #[.slice A zs.length c] 29)).alloc (Obj.cells #[.int .i64 0, .string ⟨#[]⟩, .int .i64 0, .slice none 0 0] 24)).alloc (Obj.cells #[.int .i64 0] 3)).alloc (Obj.cells #[.func (.func 34) #[] #[.pointer (some ⟨w.heap.size + 1 + 1, 0, none⟩), .pointer (some ⟨w.heap.size, 0, none⟩)]] 62)).alloc (Obj.cells #[.func (.func 35) #[] #[.pointer (some ⟨w.heap.size + 1 + 1 + 1, 0, none⟩), .pointer (some ⟨w.heap.size + 1 + 1, 0, none⟩), .pointer (some ⟨w.heap.size, 0, none⟩), .pointer (some ⟨w.heap.size + 1 + 1 + 1 + 1, 0, none⟩)]] 63)) w.heap.size w.heap.size (w.heap.size + 1 + 1) (w.heap.size + 1 + 1 + 1) (w.heap.size + 1 + 1 + 1 + 1) A c zs 0 ∧ Blk (((((w.alloc (Obj.cells #[.slice A zs.length c] 29)).alloc (Obj.cells #[.int .i64 0, .string ⟨#[]⟩, .int .i64 0, .slice none 0 0] 24)).alloc (Obj.cells #[.int .i64 0] 3)).alloc (Obj.cells #[.func (.func 34) #[] #[.pointer (some ⟨w.heap.size + 1 + 1, 0, none⟩), .pointer (some ⟨w.heap.size, 0, none⟩)]] 62)).alloc (Obj.cells #[.func (.func 35) #[] #[.pointer (some ⟨w.heap.size + 1 + 1 + 1, 0, none⟩), .pointer (some ⟨w.heap.size + 1 + 1, 0, none⟩), .pointer (some ⟨w.heap.size, 0, none⟩), .pointer (some ⟨w.heap.size + 1 + 1 + 1 + 1, 0, none⟩)]] 63)) (w.heap.size + 1) 24 #[.int .i64 0, .string ⟨#[]⟩, .int .i64 0, .slice none 0 0] ∧ Below w.heap.size w (((((w.alloc (Obj.cells #[.slice A zs.length c] 29)).alloc (Obj.cells #[.int .i64 0, .string ⟨#[]⟩, .int .i64 0, .slice none 0 0] 24)).alloc (Obj.cells #[.int .i64 0] 3)).alloc (Obj.cells #[.func (.func 34) #[] #[.pointer (some ⟨w.heap.size + 1 + 1, 0, none⟩), .pointer (some ⟨w.heap.size, 0, none⟩)]] 62)).alloc (Obj.cells #[.func (.func 35) #[] #[.pointer (some ⟨w.heap.size + 1 + 1 + 1, 0, none⟩), .pointer (some ⟨w.heap.size + 1 + 1, 0, none⟩), .pointer (some ⟨w.heap.size, 0, none⟩), .pointer (some ⟨w.heap.size + 1 + 1 + 1 + 1, 0, none⟩)]] 63)) := by
  have s1 : (w.alloc (Obj.cells #[.slice A zs.length c] 29)).heap.size = w.heap.size + 1 := by simp
  have b0 := Blk.new w 29 #[.slice A zs.length c]
  have l0 := lowAlloc w (Obj.cells #[.slice A zs.length c] 29)
  have s2 : ((w.alloc (Obj.cells #[.slice A zs.length c] 29)).alloc (Obj.cells #[.int .i64 0, .string ⟨#[]⟩, .int .i64 0, .slice none 0 0] 24)).heap.size = w.heap.size + 1 + 1 := by simp
  have b1 := Blk.new (w.alloc (Obj.cells #[.slice A zs.length c] 29)) 24 #[.int .i64 0, .string ⟨#[]⟩, .int .i64 0, .slice none 0 0]
  have l1 := lowAlloc (w.alloc (Obj.cells #[.slice A zs.length c] 29)) (Obj.cells #[.int .i64 0, .string ⟨#[]⟩, .int .i64 0, .slice none 0 0] 24)
  rw [s1] at b1
  have s3 : (((w.alloc (Obj.cells #[.slice A zs.length c] 29)).alloc (Obj.cells #[.int .i64 0, .string ⟨#[]⟩, .int .i64 0, .slice none 0 0] 24)).alloc (Obj.cells #[.int .i64 0] 3)).heap.size = w.heap.size + 1 + 1 + 1 := by simp
  have b2 := Blk.new ((w.alloc (Obj.cells #[.slice A zs.length c] 29)).alloc (Obj.cells #[.int .i64 0, .string ⟨#[]⟩, .int .i64 0, .slice none 0 0] 24)) 3 #[.int .i64 0]
  have l2 := lowAlloc ((w.alloc (Obj.cells #[.slice A zs.length c] 29)).alloc (Obj.cells #[.int .i64 0, .string ⟨#[]⟩, .int .i64 0, .slice none 0 0] 24)) (Obj.cells #[.int .i64 0] 3)
  rw [s2] at b2
  have s4 : ((((w.alloc (Obj.cells #[.slice A zs.length c] 29)).alloc (Obj.cells #[.int .i64 0, .string ⟨#[]⟩, .int .i64 0, .slice none 0 0] 24)).alloc (Obj.cells #[.int .i64 0] 3)).alloc (Obj.cells #[.func (.func 34) #[] #[.pointer (some ⟨w.heap.size + 1 + 1, 0, none⟩), .pointer (some ⟨w.heap.size, 0, none⟩)]] 62)).heap.size = w.heap.size + 1 + 1 + 1 + 1 := by simp
  have b3 := Blk.new (((w.alloc (Obj.cells #[.slice A zs.length c] 29)).alloc (Obj.cells #[.int .i64 0, .string ⟨#[]⟩, .int .i64 0, .slice none 0 0] 24)).alloc (Obj.cells #[.int .i64 0] 3)) 62 #[.func (.func 34) #[] #[.pointer (some ⟨w.heap.size + 1 + 1, 0, none⟩), .pointer (some ⟨w.heap.size, 0, none⟩)]]
  have l3 := lowAlloc (((w.alloc (Obj.cells #[.slice A zs.length c] 29)).alloc (Obj.cells #[.int .i64 0, .string ⟨#[]⟩, .int .i64 0, .slice none 0 0] 24)).alloc (Obj.cells #[.int .i64 0] 3)) (Obj.cells #[.func (.func 34) #[] #[.pointer (some ⟨w.heap.size + 1 + 1, 0, none⟩), .pointer (some ⟨w.heap.size, 0, none⟩)]] 62)
  rw [s3] at b3
  have s5 : (((((w.alloc (Obj.cells #[.slice A zs.length c] 29)).alloc (Obj.cells #[.int .i64 0, .string ⟨#[]⟩, .int .i64 0, .slice none 0 0] 24)).alloc (Obj.cells #[.int .i64 0] 3)).alloc (Obj.cells #[.func (.func 34) #[] #[.pointer (some ⟨w.heap.size + 1 + 1, 0, none⟩), .pointer (some ⟨w.heap.size, 0, none⟩)]] 62)).alloc (Obj.cells #[.func (.func 35) #[] #[.pointer (some ⟨w.heap.size + 1 + 1 + 1, 0, none⟩), .pointer (some ⟨w.heap.size + 1 + 1, 0, none⟩), .pointer (some ⟨w.heap.size, 0, none⟩), .pointer (some ⟨w.heap.size + 1 + 1 + 1 + 1, 0, none⟩)]] 63)).heap.size = w.heap.size + 1 + 1 + 1 + 1 + 1 := by simp
  have b4 := Blk.new ((((w.alloc (Obj.cells #[.slice A zs.length c] 29)).alloc (Obj.cells #[.int .i64 0, .string ⟨#[]⟩, .int .i64 0, .slice none 0 0] 24)).alloc (Obj.cells #[.int .i64 0] 3)).alloc (Obj.cells #[.func (.func 34) #[] #[.pointer (some ⟨w.heap.size + 1 + 1, 0, none⟩), .pointer (some ⟨w.heap.size, 0, none⟩)]] 62)) 63 #[.func (.func 35) #[] #[.pointer (some ⟨w.heap.size + 1 + 1 + 1, 0, none⟩), .pointer (some ⟨w.heap.size + 1 + 1, 0, none⟩), .pointer (some ⟨w.heap.size, 0, none⟩), .pointer (some ⟨w.heap.size + 1 + 1 + 1 + 1, 0, none⟩)]]
  have l4 := lowAlloc ((((w.alloc (Obj.cells #[.slice A zs.length c] 29)).alloc (Obj.cells #[.int .i64 0, .string ⟨#[]⟩, .int .i64 0, .slice none 0 0] 24)).alloc (Obj.cells #[.int .i64 0] 3)).alloc (Obj.cells #[.func (.func 34) #[] #[.pointer (some ⟨w.heap.size + 1 + 1, 0, none⟩), .pointer (some ⟨w.heap.size, 0, none⟩)]] 62)) (Obj.cells #[.func (.func 35) #[] #[.pointer (some ⟨w.heap.size + 1 + 1 + 1, 0, none⟩), .pointer (some ⟨w.heap.size + 1 + 1, 0, none⟩), .pointer (some ⟨w.heap.size, 0, none⟩), .pointer (some ⟨w.heap.size + 1 + 1 + 1 + 1, 0, none⟩)]] 63)
  rw [s4] at b4
  have c0 := ((((b0.below l1 b0.lt).below l2 (b0.below l1 b0.lt).lt).below l3 ((b0.below l1 b0.lt).below l2 (b0.below l1 b0.lt).lt).lt).below l4 (((b0.below l1 b0.lt).below l2 (b0.below l1 b0.lt).lt).below l3 ((b0.below l1 b0.lt).below l2 (b0.below l1 b0.lt).lt).lt).lt)
  have c1 := (((b1.below l2 b1.lt).below l3 (b1.below l2 b1.lt).lt).below l4 ((b1.below l2 b1.lt).below l3 (b1.below l2 b1.lt).lt).lt)
  have c2 := ((b2.below l3 b2.lt).below l4 (b2.below l3 b2.lt).lt)
  have c3 := (b3.below l4 b3.lt)
  have c4 := b4
  have m0 := l0
  have m1 := m0.trans (l1.mono m0.size)
  have m2 := m1.trans (l2.mono m1.size)
  have m3 := m2.trans (l3.mono m2.size)
  have m4 := m3.trans (l4.mono m3.size)
  exact ⟨⟨Nat.le_refl _, by omega, by omega, by omega, hU.below m4 (Nat.le_refl _), hml, c0, c2, c3, c4⟩, c1, m4⟩
set_option maxRecDepth 10000 in
set_option maxHeartbeats 8000000 in
theorem made_reg (A : Option Addr) (c : Nat) (zs : List Int) (w : World) (hml : zs.length ≤ maxLen) (hU : Ub w w.heap.size A zs) :
    Calls Tryd.prog 19 #[.slice A zs.length c] w fun e w' => ∃ v, e = .returned v ∧ FV w' (fun b => Fr w.heap.size w'.heap.size b ∧ Reg w' b) (madeF zs) v ∧ Below w.heap.size w w' := by
  obtain ⟨hM, hbr, hlo⟩ := made_start A c zs w hml hU
  go_enter Tryd.func19, Tryd.ntmps19
  go_upto_region 5 with fail
  generalize (((((w.alloc (Obj.cells #[.slice A zs.length c] 29)).alloc (Obj.cells #[.int .i64 0, .string ⟨#[]⟩, .int .i64 0, .slice none 0 0] 24)).alloc (Obj.cells #[.int .i64 0] 3)).alloc (Obj.cells #[.func (.func 34) #[] #[.pointer (some ⟨w.heap.size + 1 + 1, 0, none⟩), .pointer (some ⟨w.heap.size, 0, none⟩)]] 62)).alloc (Obj.cells #[.func (.func 35) #[] #[.pointer (some ⟨w.heap.size + 1 + 1 + 1, 0, none⟩), .pointer (some ⟨w.heap.size + 1 + 1, 0, none⟩), .pointer (some ⟨w.heap.size, 0, none⟩), .pointer (some ⟨w.heap.size + 1 + 1 + 1 + 1, 0, none⟩)]] 63)) = W5 at *
  have p0 := hM.mb.cell 0
  simp only [List.getElem?_toArray, List.getElem?_cons_zero, List.getElem?_cons_succ] at p0
  have hml5 := hM.mb.lt
  have HC := Lib.hid (make_all _ _ _ _ _ _ _ _ 6 (Nat.le_refl _) W5 0 6 hM (by decide) rfl)
  clear hM
  go_wp2_with fail
  refine HC.out.mono ?_
  rintro e w6 ⟨v, rfl, hF0, _, hk⟩
  obtain ⟨k1, s1, l1, A1, n1, c1, rfl⟩ := hF0.four
  have hF : FV w6 (fun b => Fr W5.heap.size w6.heap.size b ∧ Reg w6 b) (madeF zs) (.agg #[.int .i64 k1, .string s1, .int .i64 l1, .slice A1 n1 c1]) := hF0
  clear HC hF0 p0
  have hbr6 := hk.blkOf hbr (by omega)
  have hlo6 : Below w.heap.size w w6 := hlo.trans (hk.low hlo.size (by omega))
  have hKn : ¬ (Fr W5.heap.size w6.heap.size (w.heap.size + 1) ∧ Reg w6 (w.heap.size + 1)) := fun h => by have := h.1.1; omega
  have hF9 := (((hF.far (p := ⟨w.heap.size + 1, 0, none⟩) hKn (.int .i64 k1)).far (p := ⟨w.heap.size + 1, 1, none⟩) hKn (.string s1)).far (p := ⟨w.heap.size + 1, 2, none⟩) hKn (.int .i64 l1)).far (p := ⟨w.heap.size + 1, 3, none⟩) hKn (.slice A1 n1 c1)
  have hF9b := hF9.more (K' := fun b => Fr w.heap.size (((((w6).setCell ⟨w.heap.size + 1, 0, none⟩ (.int .i64 k1)).setCell ⟨w.heap.size + 1, 1, none⟩ (.string s1)).setCell ⟨w.heap.size + 1, 2, none⟩ (.int .i64 l1)).setCell ⟨w.heap.size + 1, 3, none⟩ (.slice A1 n1 c1)).heap.size b ∧ Reg (((((w6).setCell ⟨w.heap.size + 1, 0, none⟩ (.int .i64 k1)).setCell ⟨w.heap.size + 1, 1, none⟩ (.string s1)).setCell ⟨w.heap.size + 1, 2, none⟩ (.int .i64 l1)).setCell ⟨w.heap.size + 1, 3, none⟩ (.slice A1 n1 c1)) b) (fun b hb => ⟨⟨by have := hb.1.1; omega, by have := hb.1.2; simp; omega⟩, by have := hb.1.1; exact (((hb.2.far (by simp only; omega) _).far (by simp only; omega) _).far (by simp only; omega) _).far (by simp only; omega) _⟩)
  have hL9 : Below w.heap.size w (((((w6).setCell ⟨w.heap.size + 1, 0, none⟩ (.int .i64 k1)).setCell ⟨w.heap.size + 1, 1, none⟩ (.string s1)).setCell ⟨w.heap.size + 1, 2, none⟩ (.int .i64 l1)).setCell ⟨w.heap.size + 1, 3, none⟩ (.slice A1 n1 c1)) := (((hlo6.setCell (p := ⟨w.heap.size + 1, 0, none⟩) (by simp only; omega) _).setCell (p := ⟨w.heap.size + 1, 1, none⟩) (by simp only; omega) _).setCell (p := ⟨w.heap.size + 1, 2, none⟩) (by simp only; omega) _).setCell (p := ⟨w.heap.size + 1, 3, none⟩) (by simp only; omega) _
  have hC9 : Blk (((((w6).setCell ⟨w.heap.size + 1, 0, none⟩ (.int .i64 k1)).setCell ⟨w.heap.size + 1, 1, none⟩ (.string s1)).setCell ⟨w.heap.size + 1, 2, none⟩ (.int .i64 l1)).setCell ⟨w.heap.size + 1, 3, none⟩ (.slice A1 n1 c1)) (w.heap.size + 1) 24 #[.int .i64 k1, .string s1, .int .i64 l1, .slice A1 n1 c1] := by simpa using (((hbr6.put 0 (.int .i64 k1)).put 1 (.string s1)).put 2 (.int .i64 l1)).put 3 (.slice A1 n1 c1)
  have HC9 := Lib.hid hC9
  have HL9 := Lib.hid hL9
  have HF9 := Lib.hid hF9b
  have r0 := hbr6.cell 0
  have r1 := hbr6.cell 1
  have r2 := hbr6.cell 2
  have r3 := hbr6.cell 3
  simp only [List.getElem?_toArray, List.getElem?_cons_zero, List.getElem?_cons_succ] at r0 r1 r2 r3
  have q0 := hbr6.frozen 0
  have q1 := hbr6.frozen 1
  have q2 := hbr6.frozen 2
  have q3 := hbr6.frozen 3
  clear hF hF9 hF9b hL9 hC9 hbr hbr6 hlo hlo6 hKn hk
  go_wp2
  clear r0 r1 r2 r3 q0 q1 q2 q3
  generalize ((((w6).setCell ⟨w.heap.size + 1, 0, none⟩ (.int .i64 k1)).setCell ⟨w.heap.size + 1, 1, none⟩ (.string s1)).setCell ⟨w.heap.size + 1, 2, none⟩ (.int .i64 l1)).setCell ⟨w.heap.size + 1, 3, none⟩ (.slice A1 n1 c1) = V9 at *
  have t0 := HC9.out.cell 0
  have t1 := HC9.out.cell 1
  have t2 := HC9.out.cell 2
  have t3 := HC9.out.cell 3
  simp only [List.getElem?_toArray, List.getElem?_cons_zero, List.getElem?_cons_succ] at t0 t1 t2 t3
  refine bodyPost_ret (v := .agg #[.int .i64 k1, .string s1, .int .i64 l1, .slice A1 n1 c1]) (by simp [results, Tryd.results19, go_sem, t0, t1, t2, t3]) rfl ?_
  exact ⟨_, rfl, HF9.out, HL9.out⟩
theorem made_any (A : Option Addr) (c : Nat) (zs : List Int) (w : World) (hml : zs.length ≤ maxLen) (hU : Ub w w.heap.size A zs) :
    Calls Tryd.prog 19 #[.slice A zs.length c] w fun e w' => ∃ v, e = .returned v ∧ FV w' (Fr w.heap.size w'.heap.size) (madeF zs) v ∧ Below w.heap.size w w' := by
  refine (made_reg A c zs w hml hU).mono ?_
  rintro e w' ⟨v, he, hF, hb⟩
  exact ⟨v, he, hF.more (fun b h => h.1), hb⟩
end Go.Proofs.YtlddnejjpekgeaaDoor
/- Parsing: the law's awake. -/
namespace Go.Proofs.YtlddnejjpekgeaaDoor
open Go.RowKit

namespace Fm
def awA : Tk.Bs := [97, 32, 45, 62, 32, 98, 32, 45, 62, 32, 99, 32, 124, 32, 100, 32, 38, 32, 101]
def awS : Tk.Bs := [97, 32, 45, 62, 32, 40, 98, 32, 45, 62, 32, 40, 99, 32, 124, 32, 40, 100, 32, 38, 32, 101, 41, 41, 41]
def awB : Tk.Bs := [65, 71, 32, 40, 97]
def awC : Tk.Bs := [69, 32, 91, 97, 32, 85, 32, 98]
def at1 (b : UInt8) : F := .mk 3 [b] 0 []
def awF : F := .mk 7 [] 0 [at1 97, .mk 7 [] 0 [at1 98, .mk 6 [] 0 [at1 99, .mk 5 [] 0 [at1 100, at1 101]]]]
theorem awA_is : parseS awA = .ok awF := by rfl
theorem awB_is : parseS awB = .error (41, 5) := by rfl
theorem awC_is : parseS awC = .error (41, 8) := by rfl
theorem awF_ok : validB awF = true := by rfl
theorem awF_text : awF.text = awS := by rfl
end Fm
end Go.Proofs.YtlddnejjpekgeaaDoor
/- Parsing: what the laws ask of Parse and Print; the law's awake; ParseBack. -/
namespace Go.Proofs.YtlddnejjpekgeaaDoor
open Go.RowKit

/-- Parse answers a formula. -/
theorem parse_good {s : Tk.Bs} {f : Fm.F} (h : Fm.parseS s = .ok f) (hs : s.length ≤ 9223372036854775807) (w : World) (hT : Tabs w) :
    Calls Tryd.prog 28 #[.string (bsv s)] w fun e w' => ∃ k1 s1 l1 A1 n1 c1, e = .returned (.tuple #[.agg #[.int .i64 k1, .string s1, .int .i64 l1, .slice A1 n1 c1], .int .i64 0, .int .i64 0]) ∧ FV w' (Lo w'.heap.size) f (.agg #[.int .i64 k1, .string s1, .int .i64 l1, .slice A1 n1 c1]) ∧ Below w.heap.size w w' := by
  have hp := parse_any rightC atom_any s w hs hT.sig hT.lt
  rw [h] at hp
  refine hp.mono ?_
  rintro e w' ⟨v, rfl, hF, hb⟩
  obtain ⟨k1, s1, l1, A1, n1, c1, rfl⟩ := hF.four
  exact ⟨k1, s1, l1, A1, n1, c1, rfl, hF.more (fun b hb => hb.2), hb⟩
/-- Parse refuses. -/
theorem parse_bad {s : Tk.Bs} {k a : Nat} (h : Fm.parseS s = .error (k, a)) (hs : s.length ≤ 9223372036854775807) (w : World) (hT : Tabs w) :
    Calls Tryd.prog 28 #[.string (bsv s)] w fun e w' => e = .returned (.tuple #[.agg #[.int .i64 0, .string ⟨#[]⟩, .int .i64 0, .slice none 0 0], .int .i64 (k : Int), .int .i64 (a : Int)]) ∧ Below w.heap.size w w' := by
  have hp := parse_any rightC atom_any s w hs hT.sig hT.lt
  rw [h] at hp
  exact hp
theorem print_good {f : Fm.F} (h : Fm.validB f = true) (v : Value) (w : World) (hF : FV w (Lo w.heap.size) f v) (hT : Tabs w) :
    Calls Tryd.prog 21 #[v] w fun e w' => e = .returned (.tuple #[.string (bsv f.text), .int .i64 0]) ∧ Below w.heap.size w w' := by
  have hp := Print_any f v w hF hT.sig hT.lt
  rw [printV_ok h] at hp
  exact hp
theorem same_self (f : Fm.F) (hc : f.cnt ≤ 1000000) (v u : Value) (w : World) (hf : FV w (Lo w.heap.size) f v) (hg : FV w (Lo w.heap.size) f u) :
    Calls Tryd.prog 18 #[v, u] w fun e w' => e = .returned (.bool true) ∧ Below w.heap.size w w' := by
  have hp := rsame_all f.dep f f v u w (Nat.le_refl _) hc hf hg
  rw [Fm.eqB_self] at hp
  exact hp
theorem valid_cnt {f : Fm.F} (h : Fm.validB f = true) : f.cnt ≤ 1000000 := by
  unfold Fm.validB at h
  simp only [Bool.and_eq_true, decide_eq_true_eq] at h
  omega
set_option maxRecDepth 10000 in
set_option maxHeartbeats 4000000 in
theorem awake9_any (w : World) (hT : Tabs w) : Calls Tryd.prog 24 #[] w fun e w' => e = .returned (.bool true) ∧ Below w.heap.size w w' := by
  have H1 : Hid (Calls Tryd.prog 28 #[.string ⟨#[97, 32, 45, 62, 32, 98, 32, 45, 62, 32, 99, 32, 124, 32, 100, 32, 38, 32, 101]⟩] w fun e w' => ∃ k1 s1 l1 A1 n1 c1, e = .returned (.tuple #[.agg #[.int .i64 k1, .string s1, .int .i64 l1, .slice A1 n1 c1], .int .i64 0, .int .i64 0]) ∧ FV w' (Lo w'.heap.size) Fm.awF (.agg #[.int .i64 k1, .string s1, .int .i64 l1, .slice A1 n1 c1]) ∧ Below w.heap.size w w') := parse_good Fm.awA_is (by decide) w hT
  go_enter Tryd.func24, Tryd.ntmps24
  go_wp2_with fail
  refine H1.out.mono ?_
  rintro e w1 ⟨k1, s1, l1, A1, n1, c1, rfl, hF, hb1⟩
  have hT1 := hT.below hb1
  clear H1
  have lo1 := lowAlloc w1 (Obj.cells #[.int .i64 k1, .string s1, .int .i64 l1, .slice A1 n1 c1] 24)
  have hx1 := Blk.new w1 24 #[.int .i64 k1, .string s1, .int .i64 l1, .slice A1 n1 c1]
  have hF1 := hF.on lo1
  have hT2 := hT1.below lo1
  have hlo := hb1.trans (lo1.mono hb1.size)
  clear hF hT1 hb1 lo1 hT
  go_upto_region 2 with fail
  generalize w1.alloc (Obj.cells #[.int .i64 k1, .string s1, .int .i64 l1, .slice A1 n1 c1] 24) = W1 at *
  have x0 := hx1.cell 0
  have x1 := hx1.cell 1
  have x2 := hx1.cell 2
  have x3 := hx1.cell 3
  simp only [List.getElem?_toArray, List.getElem?_cons_zero, List.getElem?_cons_succ] at x0 x1 x2 x3
  have H2 : Hid (Calls Tryd.prog 21 #[.agg #[.int .i64 k1, .string s1, .int .i64 l1, .slice A1 n1 c1]] W1 fun e w' => e = .returned (.tuple #[.string ⟨#[97, 32, 45, 62, 32, 40, 98, 32, 45, 62, 32, 40, 99, 32, 124, 32, 40, 100, 32, 38, 32, 101, 41, 41, 41]⟩, .int .i64 0]) ∧ Below W1.heap.size W1 w') := print_good Fm.awF_ok _ W1 hF1 hT2
  go_wp2_with fail
  refine H2.out.mono ?_
  rintro e w2 ⟨rfl, hb2⟩
  have hT3 := hT2.below hb2
  have hlo2 := hlo.trans (hb2.mono hlo.size)
  clear H2 hT2 hlo hb2 hF1 hx1 x0 x1 x2 x3
  have H3 : Hid (Calls Tryd.prog 28 #[.string ⟨#[65, 71, 32, 40, 97]⟩] w2 fun e w' => e = .returned (.tuple #[.agg #[.int .i64 0, .string ⟨#[]⟩, .int .i64 0, .slice none 0 0], .int .i64 41, .int .i64 5]) ∧ Below w2.heap.size w2 w') := parse_bad Fm.awB_is (by decide) w2 hT3
  go_wp2_with fail
  refine H3.out.mono ?_
  rintro e w3 ⟨rfl, hb3⟩
  have lo3 := lowAlloc w3 (Obj.cells #[.int .i64 0, .string ⟨#[]⟩, .int .i64 0, .slice none 0 0] 24)
  have hT4 := (hT3.below hb3).below lo3
  have hlo3 := hlo2.trans (hb3.mono hlo2.size)
  have hlo4 := hlo3.trans (lo3.mono hlo3.size)
  clear H3 hT3 hb3 hlo2 hlo3 lo3
  go_upto_region 4 with fail
  generalize w3.alloc (Obj.cells #[.int .i64 0, .string ⟨#[]⟩, .int .i64 0, .slice none 0 0] 24) = W3 at *
  have H4 : Hid (Calls Tryd.prog 28 #[.string ⟨#[69, 32, 91, 97, 32, 85, 32, 98]⟩] W3 fun e w' => e = .returned (.tuple #[.agg #[.int .i64 0, .string ⟨#[]⟩, .int .i64 0, .slice none 0 0], .int .i64 41, .int .i64 8]) ∧ Below W3.heap.size W3 w') := parse_bad Fm.awC_is (by decide) W3 hT4
  go_wp2_with fail
  refine H4.out.mono ?_
  rintro e w5 ⟨rfl, hb5⟩
  have lo5 := lowAlloc w5 (Obj.cells #[.int .i64 0, .string ⟨#[]⟩, .int .i64 0, .slice none 0 0] 24)
  have hlo5 := hlo4.trans (hb5.mono hlo4.size)
  have hlo6 := hlo5.trans (lo5.mono hlo5.size)
  clear H4 hT4 hb5 hlo4 hlo5 lo5
  go_upto_region 5 with fail
  generalize w5.alloc (Obj.cells #[.int .i64 0, .string ⟨#[]⟩, .int .i64 0, .slice none 0 0] 24) = W5 at *
  go_wp2
  go_ret
  exact ⟨rfl, hlo6⟩
end Go.Proofs.YtlddnejjpekgeaaDoor
/- Parsing: ParseBack. -/
namespace Go.Proofs.YtlddnejjpekgeaaDoor
open Go.RowKit

set_option maxRecDepth 10000 in
set_option maxHeartbeats 8000000 in
theorem parseBack_walk (A : Option Addr) (c : Nat) (zs : List Int) (w : World) (hml : zs.length ≤ maxLen) (hU : Ub w w.heap.size A zs) (hT : Tabs w) :
    Calls Tryd.prog 11 #[.slice A zs.length c] w fun e w' => e = .returned (.bool true) ∧ Below w.heap.size w w' := by
  obtain ⟨hv, htl⟩ := made_valid zs
  have H0 := Lib.hid (awake9_any w hT)
  go_enter Tryd.func11, Tryd.ntmps11
  go_wp2_with fail
  refine H0.out.mono ?_
  rintro e w1 ⟨rfl, hb1⟩
  have hU1 := (hU.below hb1 (Nat.le_refl _)).more hb1.size
  have hT1 := hT.below hb1
  have H1 := Lib.hid (made_any A c zs w1 hml hU1)
  clear H0 hU hU1 hT
  go_wp2_with fail
  refine H1.out.mono ?_
  rintro e w2 ⟨v, rfl, hF0, hb2⟩
  obtain ⟨k1, s1, l1, A1, n1, c1, rfl⟩ := hF0.four
  have lo2 := lowAlloc w2 (Obj.cells #[.int .i64 k1, .string s1, .int .i64 l1, .slice A1 n1 c1] 24)
  have hx1 := Blk.new w2 24 #[.int .i64 k1, .string s1, .int .i64 l1, .slice A1 n1 c1]
  have hF1 := (hF0.more (K' := Lo w2.heap.size) (fun b hb => hb.2)).on lo2
  have hT2 := (hT1.below hb2).below lo2
  have hlo1 := hb1.trans (hb2.mono hb1.size)
  have hlo2 := hlo1.trans (lo2.mono hlo1.size)
  clear H1 hF0 hT1 hb1 hb2 lo2 hlo1
  go_upto_region 5 with fail
  generalize w2.alloc (Obj.cells #[.int .i64 k1, .string s1, .int .i64 l1, .slice A1 n1 c1] 24) = W2 at *
  have x0 := hx1.cell 0
  have x1 := hx1.cell 1
  have x2 := hx1.cell 2
  have x3 := hx1.cell 3
  simp only [List.getElem?_toArray, List.getElem?_cons_zero, List.getElem?_cons_succ] at x0 x1 x2 x3
  have H2 := Lib.hid (print_good hv _ W2 hF1 hT2)
  go_wp2_with fail
  refine H2.out.mono ?_
  rintro e w3 ⟨rfl, hb3⟩
  have hF3 := hF1.on hb3
  have hx3 := hx1.below hb3 hx1.lt
  have hT3 := hT2.below hb3
  have hlo3 := hlo2.trans (hb3.mono hlo2.size)
  have H3 := Lib.hid (parse_good (Fm.parse_text hv (by omega)) (by omega) w3 hT3)
  have hP2 := Fm.parse_text2 hv (by omega)
  have HV := Lib.hid hv
  have HP2 := Lib.hid hP2
  clear H2 hF1 hx1 x0 x1 x2 x3 hT2 hlo2 hb3 hv hP2
  generalize hg : madeF zs = f at *
  have HG := Lib.hid hg
  clear hg
  generalize ht : f.text = t at *
  have HT := Lib.hid ht
  clear ht
  go_wp2_with fail
  refine H3.out.mono ?_
  rintro e w4 ⟨k2, s2, l2, A2, n2, c2, rfl, hG0, hb4⟩
  have lo4 := lowAlloc w4 (Obj.cells #[.int .i64 k2, .string s2, .int .i64 l2, .slice A2 n2 c2] 24)
  have hy := Blk.new w4 24 #[.int .i64 k2, .string s2, .int .i64 l2, .slice A2 n2 c2]
  have hG4 := hG0.on lo4
  have hF4 := (hF3.on hb4).on lo4
  have hx4 := (hx3.below hb4 hx3.lt).below lo4 (hx3.below hb4 hx3.lt).lt
  have hT4 := (hT3.below hb4).below lo4
  have hlo4 := hlo3.trans (hb4.mono hlo3.size)
  have hlo5 := hlo4.trans (lo4.mono hlo4.size)
  clear H3 hG0 hF3 hx3 hT3 hlo3 hlo4 hb4 lo4
  go_upto_region 7 with fail
  generalize w4.alloc (Obj.cells #[.int .i64 k2, .string s2, .int .i64 l2, .slice A2 n2 c2] 24) = W4 at *
  have ad1 : ∀ w, (Op.stringOp .add ⟨#[32, 40, 32, 40]⟩ (bsv t)).run Tryd.prog w = .ok (.string (bsv (Fm.lefT ++ t))) w := addw Fm.lefT t (by simp [Fm.lefT]; omega)
  have ad2 : ∀ w, (Op.stringOp .add (bsv (Fm.lefT ++ t)) ⟨#[41, 10, 41, 32]⟩).run Tryd.prog w = .ok (.string (bsv ((Fm.lefT ++ t) ++ Fm.rigT))) w := addw (Fm.lefT ++ t) Fm.rigT (by simp [Fm.lefT, Fm.rigT]; omega)
  have H4 := Lib.hid (parse_good HP2.out (by simp [Fm.lefT, Fm.rigT]; omega) W4 hT4)
  generalize (Fm.lefT ++ t) ++ Fm.rigT = t2 at *
  generalize Fm.lefT ++ t = t1 at *
  go_wp2_with fail
  refine H4.out.mono ?_
  rintro e w6 ⟨k3, s3, l3, A3, n3, c3, rfl, hJ0, hb6⟩
  have lo6 := lowAlloc w6 (Obj.cells #[.int .i64 k3, .string s3, .int .i64 l3, .slice A3 n3 c3] 24)
  have hz := Blk.new w6 24 #[.int .i64 k3, .string s3, .int .i64 l3, .slice A3 n3 c3]
  have hJ6 := hJ0.on lo6
  have hF6 := (hF4.on hb6).on lo6
  have hG6 := (hG4.on hb6).on lo6
  have hx6 := (hx4.below hb6 hx4.lt).below lo6 (hx4.below hb6 hx4.lt).lt
  have hy6 := (hy.below hb6 hy.lt).below lo6 (hy.below hb6 hy.lt).lt
  have hlo6 := hlo5.trans (hb6.mono hlo5.size)
  have hlo7 := hlo6.trans (lo6.mono hlo6.size)
  clear H4 hJ0 hF4 hG4 hx4 hy hlo5 hlo6 hb6 lo6 hT4 ad1 ad2 HP2
  go_upto_region 8 with fail
  generalize w6.alloc (Obj.cells #[.int .i64 k3, .string s3, .int .i64 l3, .slice A3 n3 c3] 24) = W6 at *
  have x0 := hx6.cell 0
  have x1 := hx6.cell 1
  have x2 := hx6.cell 2
  have x3 := hx6.cell 3
  simp only [List.getElem?_toArray, List.getElem?_cons_zero, List.getElem?_cons_succ] at x0 x1 x2 x3
  have y0 := hy6.cell 0
  have y1 := hy6.cell 1
  have y2 := hy6.cell 2
  have y3 := hy6.cell 3
  simp only [List.getElem?_toArray, List.getElem?_cons_zero, List.getElem?_cons_succ] at y0 y1 y2 y3
  have H5 := Lib.hid (same_self f (valid_cnt HV.out) _ _ W6 hF6 hG6)
  go_wp2_with fail
  refine H5.out.mono ?_
  rintro e w7 ⟨rfl, hb7⟩
  have hx7 := hx6.below hb7 hx6.lt
  have hz7 := hz.below hb7 hz.lt
  have H6 := Lib.hid (same_self f (valid_cnt HV.out) _ _ w7 (hF6.on hb7) (hJ6.on hb7))
  have hlo8 := hlo7.trans (hb7.mono hlo7.size)
  clear H5 x0 x1 x2 x3 y0 y1 y2 y3 hx6 hy6 hz hF6 hG6 hJ6 hlo7 hb7
  have x0 := hx7.cell 0
  have x1 := hx7.cell 1
  have x2 := hx7.cell 2
  have x3 := hx7.cell 3
  simp only [List.getElem?_toArray, List.getElem?_cons_zero, List.getElem?_cons_succ] at x0 x1 x2 x3
  have z0 := hz7.cell 0
  have z1 := hz7.cell 1
  have z2 := hz7.cell 2
  have z3 := hz7.cell 3
  simp only [List.getElem?_toArray, List.getElem?_cons_zero, List.getElem?_cons_succ] at z0 z1 z2 z3
  go_wp2_with fail
  refine H6.out.mono ?_
  rintro e w8 ⟨rfl, hb8⟩
  have hlo9 := hlo8.trans (hb8.mono hlo8.size)
  clear H6 x0 x1 x2 x3 z0 z1 z2 z3 hlo8 hb8
  go_wp2
  go_ret
  exact ⟨rfl, hlo9⟩
end Go.Proofs.YtlddnejjpekgeaaDoor
