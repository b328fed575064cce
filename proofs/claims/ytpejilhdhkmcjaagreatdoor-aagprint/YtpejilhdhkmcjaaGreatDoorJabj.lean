/- The reader of texts: what ends a reading is caught. -/
import Derived.Test.YtpejilhdhkmcjaaGreatDoorJaAl
import Derived.Test.YtpejilhdhkmcjaaGreatDoorJabh
import Derived.Defers
import Derived.Recover
import Derived.Laws.Pointers
namespace Go.Proofs.YtpejilhdhkmcjaaGreatDoor
open Go.RowKit

theorem asFault (v : Value) (w : World) : (Instr.typeAssert (.iface 97 v) 20 97 false).run Tryz.prog w = .ok v w := by kernel_rfl
/-- Beside a circuit's box and the error's all stays. -/
structure TwoKeep (p : Nat) (w w' : World) : Prop where
 os : w'.os = w.os
 tape : w'.tape = w.tape
 output : w'.output = w.output
 size : w'.heap.size = w.heap.size
 blk : ∀ b, b ≠ p → b ≠ p + 1 → w'.heap[b]? = w.heap[b]?
theorem Blk.dr {w : World} {g : Nat} {t : TypeId} {cs : Array Value} (h : Blk w g t cs) : Blk w.drew g t cs := h
theorem TwoKeep.refl (p : Nat) (w : World) : TwoKeep p w w := ⟨rfl, rfl, rfl, rfl, fun _ _ _ => rfl⟩
theorem TwoKeep.set {q : Nat} {a b : World} (h : TwoKeep q a b) {p : Addr} (hp : p.block = q ∨ p.block = q + 1) (u : Value) : TwoKeep q a (b.setCell p u) :=
 ⟨h.os, h.tape, h.output, by simpa using h.size, fun i hi hn => (Below.heap_setCell b p u i (fun e => by rcases hp with hp | hp <;> omega)).trans (h.blk i hi hn)⟩
theorem TwoKeep.drew {q : Nat} {a b : World} (h : TwoKeep q a b) : TwoKeep q a b.drew := ⟨h.os, h.tape, h.output, h.size, h.blk⟩
theorem TwoKeep.rk {q R : Nat} {a b c : World} (h : TwoKeep q b c) (k : RKeep R a b) (hq : a.heap.size ≤ q) : RKeep R a c :=
 ⟨h.os.trans k.os, h.tape.trans k.tape, h.output.trans k.output, by rw [h.size]; exact k.size, fun i hi hn => (h.blk i (by omega) (by omega)).trans (k.blk i hi hn)⟩
set_option maxRecDepth 10000 in
set_option maxHeartbeats 2000000 in
theorem catch_panicking (p : Nat) (x0 x1 x2 x3 x4 x5 x6 x7 y : Value) (k : Int) (older : List PanicEntry) (w : World) (hC : Blk w p 29 #[x0, x1, x2, x3, x4, x5, x6, x7]) (hE : Blk w (p + 1) 30 #[y]) :
  CallsD Tryz.prog 61 #[.pointer (some ⟨p, 0, none⟩), .pointer (some ⟨p + 1, 0, none⟩)] (.panicking ({ v := .iface 97 (.int .i64 k), recovered := false } :: older)) w fun e u' w' =>
   e = .returned (.tuple #[]) ∧ u' = .panicking ({ v := .iface 97 (.int .i64 k), recovered := true } :: older) ∧ Blk w' p 29 #[.int .i64 0, .slice none 0 0, .slice none 0 0, .slice none 0 0, .slice none 0 0, .slice none 0 0, .slice none 0 0, .slice none 0 0] ∧ Blk w' (p + 1) 30 #[.int .i64 k] ∧ TwoKeep p w w' := by
 refine callsD_of_wpS Tryz.func61 rfl fun c₀ cs hu => ?_
 apply wpS_seq
 apply wpS_region
 simp [wpOpsS, go_sem, recoverD, hu, Tryz.ntmps61, Exit.thenS, show Array.replicate 7 undef = #[undef, undef, undef, undef, undef, undef, undef] from rfl]
 apply wpS_seq
 apply wpS_region
 simp [wpOpsS, go_sem, Exit.thenS]
 refine wpS_cond (t := true) (by simp [Act.eval]) ?_
 simp only [if_true]
 refine wpS_of_wp ?_
 have has := asFault (.int .i64 k)
 have c0 := hC.cell 0
 have c1 := hC.cell 1
 have c2 := hC.cell 2
 have c3 := hC.cell 3
 have c4 := hC.cell 4
 have c5 := hC.cell 5
 have c6 := hC.cell 6
 have c7 := hC.cell 7
 have f0 := hC.frozen 0
 have f1 := hC.frozen 1
 have f2 := hC.frozen 2
 have f3 := hC.frozen 3
 have f4 := hC.frozen 4
 have f5 := hC.frozen 5
 have f6 := hC.frozen 6
 have f7 := hC.frozen 7
 have e0 := hE.cell 0
 have g0 := hE.frozen 0
 simp only [zD, zE, zF] at c0 c1 c2 c3 c4 c5 c6 c7 e0
 refine wp_region_held_drew (S := fun _ => True) (by kernel_rfl) trivial (fun hHeld => ?_)
 refine wpAnyH_take (i := 0) (oi := ⟨some 6, _, _, _, _, _⟩) (v := ?_) rfl (by kernel_rfl) (by kernel_rfl) (by kernel_rfl) (fun _ _ _ h => h) (Or.inl ⟨by rfl, ?_⟩) hHeld ?_
 rotate_left
 ·
  intro w hSw
  (try dsimp only at hSw)
  first | (go_simp; done) | (go_simp; with_reducible rfl) | with_reducible rfl
 try simp only [Act.put, zA, zB, zC]
 refine wpAnyH_take (i := 1) (oi := ⟨some 7, _, _, _, _, _⟩) (v := ?_) rfl (by kernel_rfl) (by kernel_rfl) (by kernel_rfl) (fun _ _ _ h => h) (Or.inl ⟨by rfl, ?_⟩) hHeld ?_
 rotate_left
 ·
  intro w hSw
  (try dsimp only at hSw)
  first | (go_simp; done) | (go_simp; with_reducible rfl) | with_reducible rfl
 try simp only [Act.put, zA, zB, zC]
 refine wpAnyH_take (i := 2) (oi := ⟨some 8, _, _, _, _, _⟩) (v := ?_) rfl (by kernel_rfl) (by kernel_rfl) (by kernel_rfl) (fun _ _ _ h => h) (Or.inl ⟨by rfl, ?_⟩) hHeld ?_
 rotate_left
 ·
  intro w hSw
  (try dsimp only at hSw)
  first | (go_simp; done) | (go_simp; with_reducible rfl) | with_reducible rfl
 try simp only [Act.put, zA, zB, zC]
 refine wpAnyH_ready (rs := [3]) (by kernel_rfl) (by simp) ?_
 refine AllReadyH.cons (o := ⟨none, _, _, _, _, _⟩) rfl (fun K hK => ?_) AllReadyH.nil
 go_simp
 refine hK.out _ _ ?_ (fun hHeld => ?_)
 ·
  trivial
 clear hK K
 try simp only [Act.put, zA, zB, zC]
 refine wpAnyH_ready (rs := [4]) (by kernel_rfl) (by simp) ?_
 refine AllReadyH.cons (o := ⟨none, _, _, _, _, _⟩) rfl (fun K hK => ?_) AllReadyH.nil
 go_simp
 refine hK.out _ _ ?_ (fun hHeld => ?_)
 ·
  trivial
 clear hK K
 try simp only [Act.put, zA, zB, zC]
 refine wpAnyH_done (by kernel_rfl) ?_ _
 have hC8 : Blk ((((((((w.setCell ⟨p, 0, none⟩ (.int .i64 0)).setCell ⟨p, 1, none⟩ (.slice none 0 0)).setCell ⟨p, 2, none⟩ (.slice none 0 0)).setCell ⟨p, 3, none⟩ (.slice none 0 0)).setCell ⟨p, 4, none⟩ (.slice none 0 0)).setCell ⟨p, 5, none⟩ (.slice none 0 0)).setCell ⟨p, 6, none⟩ (.slice none 0 0)).setCell ⟨p, 7, none⟩ (.slice none 0 0)) p 29 #[.int .i64 0, .slice none 0 0, .slice none 0 0, .slice none 0 0, .slice none 0 0, .slice none 0 0, .slice none 0 0, .slice none 0 0] := ((((((((hC.put 0 (.int .i64 0)).put 1 (.slice none 0 0)).put 2 (.slice none 0 0)).put 3 (.slice none 0 0)).put 4 (.slice none 0 0)).put 5 (.slice none 0 0)).put 6 (.slice none 0 0)).put 7 (.slice none 0 0))
 have hC9 := (hC8.far (p := ⟨p + 1, 0, none⟩) (by simp) (.int .i64 k)).dr
 have hE9 := (((((((((hE.far (p := ⟨p, 0, none⟩) (by simp) (.int .i64 0)).far (p := ⟨p, 1, none⟩) (by simp) (.slice none 0 0)).far (p := ⟨p, 2, none⟩) (by simp) (.slice none 0 0)).far (p := ⟨p, 3, none⟩) (by simp) (.slice none 0 0)).far (p := ⟨p, 4, none⟩) (by simp) (.slice none 0 0)).far (p := ⟨p, 5, none⟩) (by simp) (.slice none 0 0)).far (p := ⟨p, 6, none⟩) (by simp) (.slice none 0 0)).far (p := ⟨p, 7, none⟩) (by simp) (.slice none 0 0)).put 0 (.int .i64 k)).dr
 simp only [List.setIfInBounds_toArray, List.set_cons_zero] at hE9
 have hK9 := ((((((((((TwoKeep.refl p w).set (p := ⟨p, 0, none⟩) (by simp) (.int .i64 0)).set (p := ⟨p, 1, none⟩) (by simp) (.slice none 0 0)).set (p := ⟨p, 2, none⟩) (by simp) (.slice none 0 0)).set (p := ⟨p, 3, none⟩) (by simp) (.slice none 0 0)).set (p := ⟨p, 4, none⟩) (by simp) (.slice none 0 0)).set (p := ⟨p, 5, none⟩) (by simp) (.slice none 0 0)).set (p := ⟨p, 6, none⟩) (by simp) (.slice none 0 0)).set (p := ⟨p, 7, none⟩) (by simp) (.slice none 0 0)).set (p := ⟨p + 1, 0, none⟩) (by simp) (.int .i64 k)).drew
 simp [bodyPostS, results, Tryz.results61]
 exact ⟨hC9, hE9, hK9⟩
set_option maxHeartbeats 2000000 in
theorem catch_idle (a b : Value) (w : World) :
  CallsD Tryz.prog 61 #[a, b] .returning w fun e u' w' => e = .returned (.tuple #[]) ∧ u' = .returning ∧ w' = w := by
 refine callsD_of_wpS Tryz.func61 rfl fun c₀ cs hu => ?_
 apply wpS_seq
 apply wpS_region
 simp [wpOpsS, go_sem, recoverD, hu, Tryz.ntmps61, Exit.thenS, show Array.replicate 7 undef = #[undef, undef, undef, undef, undef, undef, undef] from rfl]
 apply wpS_seq
 apply wpS_region
 simp [wpOpsS, go_sem, Exit.thenS]
 refine wpS_cond (t := false) (by simp [Act.eval]) ?_
 simp only [Bool.false_eq_true, if_false]
 refine wpS_of_wp (wp_skip ?_)
 cases c₀
 simp_all [bodyPostS, results, Tryz.results61]
end Go.Proofs.YtpejilhdhkmcjaaGreatDoor
/- The reader of texts: Read. -/
namespace Go.Proofs.YtpejilhdhkmcjaaGreatDoor
open Go.RowKit

/-- What a reading comes to, by what its parts come to. -/
def readE (n : Nat) (o : Except Nat Cir) : Except Nat Cir := if 20000 < n then .error 2 else match o with | .error k => .error k | .ok c => if Cm.rightC c = true then .ok c else .error 22
theorem readE_short (n : Nat) (h : ¬ 20000 < n) (o : Except Nat Cir) : readE n o = match o with | .error k => .error k | .ok c => if Cm.rightC c = true then .ok c else .error 22 := by unfold readE; rw [if_neg h]
theorem parse_is (s : Ag.Bs) : Ag.parseS s = readE s.length (linesE s) := by
 unfold Ag.parseS readE linesE
 split
 ·
  rfl
 cases Ag.headS Ag.aagW s with
 | none => rfl
 | some q =>
  obtain ⟨m, r⟩ := q
  simp only
  unfold ofB
  cases Ag.bodyS m r <;> rfl
theorem Vs.farS {w : World} {C : Nat} {A : Option Addr} {vs : List Value} (h : Vs w C A vs) {p : Addr} (hp : ∀ ad, A = some ad → ad.block ≠ p.block) (u : Value) : Vs (w.setCell p u) C A vs := by
 intro k hk
 obtain ⟨b, off, rfl, hb, hc⟩ := h k hk
 exact ⟨b, off, rfl, hb, (World.cell?_of_block (w := w) (a := ⟨b, _, none⟩) (Below.heap_setCell w p u b (hp _ rfl))).trans hc⟩
theorem Ns.farS {w : World} {C : Nat} {A : Option Addr} {ns : List Nm} (h : Ns w C A ns) {p : Addr} (hp : ∀ ad, A = some ad → ad.block ≠ p.block) (u : Value) : Ns (w.setCell p u) C A ns := by
 intro k hk
 obtain ⟨b, off, rfl, hb, h1, h2, h3⟩ := h k hk
 have hq := Below.heap_setCell w p u b (hp _ rfl)
 exact ⟨b, off, rfl, hb, (World.cell?_of_block (w := w) (a := ⟨b, _, none⟩) hq).trans h1, (World.cell?_of_block (w := w) (a := ⟨b, _, none⟩) hq).trans h2, (World.cell?_of_block (w := w) (a := ⟨b, _, none⟩) hq).trans h3⟩
theorem CirM.far {w : World} {B lo : Nat} {c : Cir} (h : CirM w B c) (hf : FreshC lo c) {p : Addr} (hp : p.block < lo) (u : Value) : CirM (w.setCell p u) B c :=
 ⟨h.hl.set (fun ad e => by have := hf.l ad e; omega) u, h.hg.set (fun ad e => by have := hf.g ad e; omega) u, h.ho.farS (fun ad e => by have := hf.o ad e; omega) u, h.hb.farS (fun ad e => by have := hf.b ad e; omega) u,
  h.hc.farS (fun ad e => by have := hf.k ad e; omega) u, h.hf.farS (fun ad e => by have := hf.f ad e; omega) u, h.hn.farS (fun ad e => by have := hf.n ad e; omega) u⟩
/-- A text is read, or it is told what is wrong. -/
def ReadP (R : Nat) (w : World) (o : Except Nat Cir) (e : Ending) (w' : World) : Prop :=
 match o with
 | .error k => e = .returned (.tuple #[.agg #[.int .i64 0, .slice none 0 0, .slice none 0 0, .slice none 0 0, .slice none 0 0, .slice none 0 0, .slice none 0 0, .slice none 0 0], .int .i64 (k : Int)]) ∧ RKeep R w w'
 | .ok c0 => ∃ c : Cir, Ag.strip c = c0 ∧ e = .returned (.tuple #[.agg #[.int .i64 c.n, .slice c.aL c.ls.length c.cL, .slice c.aG c.gs.length c.cG, .slice c.aO c.os.length c.cO, .slice c.aB c.bs.length c.cB, .slice c.aC c.cs.length c.cC, .slice c.aF c.fs.length c.cF, .slice c.aN c.ns.length c.cN], .int .i64 0]) ∧ CirM w' w'.heap.size c ∧ Small c ∧ c.ns.length ≤ c.cN ∧ FreshC w.heap.size c ∧ RKeep R w w'
set_option maxRecDepth 10000 in
set_option maxHeartbeats 8000000 in
theorem rread_any (R : Nat) (s : Ag.Bs) (s0 : ByteArray) (k0 : Int) (B : Nat) (o : Except Nat Cir) (w : World) (h : RB w R s0 k0) (hs : s.length ≤ 9223372036854775807) (hA : Amb B w) (hR : B ≤ R)
  (HPV : ∀ W, RB W R ⟨s.toArray⟩ 20 → s.length ≤ 20000 → Amb B W → Calls Tryz.prog 38 #[.pointer (some ⟨R, 0, none⟩)] W (PartsP R W o)) :
  Calls Tryz.prog 37 #[.pointer (some ⟨R, 0, none⟩), .string ⟨s.toArray⟩, .func (.func 38) #[.pointer (some ⟨R, 0, none⟩)] #[]] w (ReadP R w (readE s.length o)) := by
 have hmf : ∀ (fn : Fn) (first cap : Array Value) (w : World), (Instr.makeFunc fn first cap).run Tryz.prog w = .ok (.func fn first cap) w := fun _ _ _ _ => rfl
 have hR0 : R < w.heap.size := Blk.lt h
 have lo1 := lowAlloc w (Obj.cells #[.int .i64 0, .slice none 0 0, .slice none 0 0, .slice none 0 0, .slice none 0 0, .slice none 0 0, .slice none 0 0, .slice none 0 0] 29)
 have lo2 := lowAlloc (w.alloc (Obj.cells #[.int .i64 0, .slice none 0 0, .slice none 0 0, .slice none 0 0, .slice none 0 0, .slice none 0 0, .slice none 0 0, .slice none 0 0] 29)) (Obj.cells #[.int .i64 0] 30)
 have hC0 := (Blk.new w 29 #[.int .i64 0, .slice none 0 0, .slice none 0 0, .slice none 0 0, .slice none 0 0, .slice none 0 0, .slice none 0 0, .slice none 0 0]).alloc (Obj.cells #[.int .i64 0] 30)
 have hE0 : Blk ((w.alloc (Obj.cells #[.int .i64 0, .slice none 0 0, .slice none 0 0, .slice none 0 0, .slice none 0 0, .slice none 0 0, .slice none 0 0, .slice none 0 0] 29)).alloc (Obj.cells #[.int .i64 0] 30)) (w.heap.size + 1) 30 #[.int .i64 0] := by
  have := Blk.new (w.alloc (Obj.cells #[.int .i64 0, .slice none 0 0, .slice none 0 0, .slice none 0 0, .slice none 0 0, .slice none 0 0, .slice none 0 0, .slice none 0 0] 29)) 30 #[.int .i64 0]
  simpa using this
 have hk0 := ((RKeep.refl R w).below lo1).below lo2
 have h0 : RB ((w.alloc (Obj.cells #[.int .i64 0, .slice none 0 0, .slice none 0 0, .slice none 0 0, .slice none 0 0, .slice none 0 0, .slice none 0 0, .slice none 0 0] 29)).alloc (Obj.cells #[.int .i64 0] 30)) R s0 k0 := Blk.alloc (Blk.alloc h _) _
 have hA0 := (hA.on (lo1.mono hA.le)).on (lo2.mono (hA.on (lo1.mono hA.le)).le)
 have hsz : (⟨s.toArray⟩ : ByteArray).size = s.length := by simp [ByteArray.size]
 by_cases hl : 20000 < s.length
 ·
  have HE : Hid (readE s.length o = .error 2) := by unfold Hid readE; rw [if_pos hl]
  have d1 : decide ((s.length : Int) ≤ 20000) = false := decide_eq_false (by omega)
  have d2 : decide (((⟨s.toArray⟩ : ByteArray).size : Int) ≤ 20000) = false := decide_eq_false (by omega)
  clear lo1 lo2 h HPV hsz
  go_enter_defers Tryz.func37, Tryz.ntmps37
  go_wp2_with fail
  refine (need_bad 2 _).mono ?_
  rintro e w1 ⟨rfl, rfl⟩
  refine leaves_cons (f := 61) (args := #[.pointer (some ⟨w.heap.size, 0, none⟩), .pointer (some ⟨w.heap.size + 1, 0, none⟩)]) (by simp) (by simp [go_sem]) ?_
  refine (catch_panicking w.heap.size _ _ _ _ _ _ _ _ _ 2 [] _ hC0 hE0).mono ?_
  rintro e u' w'' ⟨rfl, rfl, hc, he, hk⟩
  have r0 := hc.cell 0
  have r1 := hc.cell 1
  have r2 := hc.cell 2
  have r3 := hc.cell 3
  have r4 := hc.cell 4
  have r5 := hc.cell 5
  have r6 := hc.cell 6
  have r7 := hc.cell 7
  have re := he.cell 0
  simp only [zD, zE, zF] at r0 r1 r2 r3 r4 r5 r6 r7 re
  refine ⟨.tuple #[.agg #[.int .i64 0, .slice none 0 0, .slice none 0 0, .slice none 0 0, .slice none 0 0, .slice none 0 0, .slice none 0 0, .slice none 0 0], .int .i64 2], by simp [results, Tryz.results37, go_sem, r0, r1, r2, r3, r4, r5, r6, r7, re], ?_⟩
  rw [HE.out]
  exact ⟨rfl, hk.rk hk0 (Nat.le_refl _)⟩
 have HRE := Lib.hid (readE_short s.length hl o)
 have hl2 : s.length ≤ 20000 := by omega
 have d1 : decide ((s.length : Int) ≤ 20000) = true := decide_eq_true (by omega)
 have d2 : decide (((⟨s.toArray⟩ : ByteArray).size : Int) ≤ 20000) = true := decide_eq_true (by omega)
 have b0 := Blk.cell h0 0
 have b1 := Blk.cell h0 1
 have g0 := Blk.frozen h0 0
 have g1 := Blk.frozen h0 1
 simp only [zD, zE, zF] at b0 b1
 have hrb1 : RB ((((w.alloc (Obj.cells #[.int .i64 0, .slice none 0 0, .slice none 0 0, .slice none 0 0, .slice none 0 0, .slice none 0 0, .slice none 0 0, .slice none 0 0] 29)).alloc (Obj.cells #[.int .i64 0] 30)).setCell ⟨R, 0, none⟩ (.string ⟨s.toArray⟩)).setCell ⟨R, 1, none⟩ (.int .i64 20)) R ⟨s.toArray⟩ 20 := (Blk.put h0 0 (.string ⟨s.toArray⟩)).put 1 (.int .i64 20)
 have hC1 := (hC0.far (p := ⟨R, 0, none⟩) (by simp only; omega) (.string ⟨s.toArray⟩)).far (p := ⟨R, 1, none⟩) (by simp only; omega) (.int .i64 20)
 have hE1 := (hE0.far (p := ⟨R, 0, none⟩) (by simp only; omega) (.string ⟨s.toArray⟩)).far (p := ⟨R, 1, none⟩) (by simp only; omega) (.int .i64 20)
 have hk1 := (hk0.set (p := ⟨R, 0, none⟩) rfl (.string ⟨s.toArray⟩)).set (p := ⟨R, 1, none⟩) rfl (.int .i64 20)
 have hA1 : Amb B ((((w.alloc (Obj.cells #[.int .i64 0, .slice none 0 0, .slice none 0 0, .slice none 0 0, .slice none 0 0, .slice none 0 0, .slice none 0 0, .slice none 0 0] 29)).alloc (Obj.cells #[.int .i64 0] 30)).setCell ⟨R, 0, none⟩ (.string ⟨s.toArray⟩)).setCell ⟨R, 1, none⟩ (.int .i64 20)) := hA0.keep (((RKeep.refl R _).set (p := ⟨R, 0, none⟩) rfl (.string ⟨s.toArray⟩)).set (p := ⟨R, 1, none⟩) rfl (.int .i64 20)) hR
 clear lo1 lo2 h hsz hA0 hk0 hC0 hE0
 go_enter_defers Tryz.func37, Tryz.ntmps37
 go_wp2_with fail
 refine (need_ok 2 _).mono ?_
 rintro e w1 ⟨rfl, rfl⟩
 go_upto_region 3 with fail
 generalize ((w.alloc (Obj.cells #[.int .i64 0, .slice none 0 0, .slice none 0 0, .slice none 0 0, .slice none 0 0, .slice none 0 0, .slice none 0 0, .slice none 0 0] 29)).alloc (Obj.cells #[.int .i64 0] 30)) = V0 at *
 go_upto_region 4 with fail
 clear b0 b1 g0 g1 h0 d1 d2
 generalize (V0.setCell ⟨R, 0, none⟩ (.string ⟨s.toArray⟩)).setCell ⟨R, 1, none⟩ (.int .i64 20) = W1 at *
 go_wp2_with fail
 refine (HPV W1 hrb1 hl2 hA1).mono ?_
 intro e w2 hP
 unfold PartsP at hP
 have hN1 := hE1.lt
 cases o with
 | error k =>
  obtain ⟨rfl, hk2⟩ := hP
  have HE : Hid (readE s.length (.error k) = .error k) := HRE.out
  have hC2 := hk2.blkOf hC1 (by omega)
  have hE2 := hk2.blkOf hE1 (by omega)
  have hk3 := hk1.trans hk2
  clear HPV
  refine leaves_cons (f := 61) (args := #[.pointer (some ⟨w.heap.size, 0, none⟩), .pointer (some ⟨w.heap.size + 1, 0, none⟩)]) (by simp) (by simp [go_sem]) ?_
  refine (catch_panicking w.heap.size _ _ _ _ _ _ _ _ _ (k : Int) [] _ hC2 hE2).mono ?_
  rintro e u' w'' ⟨rfl, rfl, hc, he, hk⟩
  have r0 := hc.cell 0
  have r1 := hc.cell 1
  have r2 := hc.cell 2
  have r3 := hc.cell 3
  have r4 := hc.cell 4
  have r5 := hc.cell 5
  have r6 := hc.cell 6
  have r7 := hc.cell 7
  have re := he.cell 0
  simp only [zD, zE, zF] at r0 r1 r2 r3 r4 r5 r6 r7 re
  refine ⟨.tuple #[.agg #[.int .i64 0, .slice none 0 0, .slice none 0 0, .slice none 0 0, .slice none 0 0, .slice none 0 0, .slice none 0 0, .slice none 0 0], .int .i64 (k : Int)], by simp [results, Tryz.results37, go_sem, r0, r1, r2, r3, r4, r5, r6, r7, re], ?_⟩
  rw [HE.out]
  exact ⟨rfl, hk.rk hk3 (Nat.le_refl _)⟩
 | ok c0 =>
  obtain ⟨c, hst, rfl, hM, hS, hcap, hfr0, hk2⟩ := hP
  have hfr := hfr0.more (lo := w.heap.size + 2) (by omega)
  have hC2 := hk2.blkOf hC1 (by omega)
  have hE2 := hk2.blkOf hE1 (by omega)
  have hk3 := hk1.trans hk2
  have hN2 := hE2.lt
  have k0 := hC2.cell 0
  have k1 := hC2.cell 1
  have k2 := hC2.cell 2
  have k3 := hC2.cell 3
  have k4 := hC2.cell 4
  have k5 := hC2.cell 5
  have k6 := hC2.cell 6
  have k7 := hC2.cell 7
  have q0 := hC2.frozen 0
  have q1 := hC2.frozen 1
  have q2 := hC2.frozen 2
  have q3 := hC2.frozen 3
  have q4 := hC2.frozen 4
  have q5 := hC2.frozen 5
  have q6 := hC2.frozen 6
  have q7 := hC2.frozen 7
  simp only [zD, zE, zF] at k0 k1 k2 k3 k4 k5 k6 k7
  have hC3 : Blk ((((((((w2.setCell ⟨w.heap.size, 0, none⟩ (.int .i64 c.n)).setCell ⟨w.heap.size, 1, none⟩ (.slice c.aL c.ls.length c.cL)).setCell ⟨w.heap.size, 2, none⟩ (.slice c.aG c.gs.length c.cG)).setCell ⟨w.heap.size, 3, none⟩ (.slice c.aO c.os.length c.cO)).setCell ⟨w.heap.size, 4, none⟩ (.slice c.aB c.bs.length c.cB)).setCell ⟨w.heap.size, 5, none⟩ (.slice c.aC c.cs.length c.cC)).setCell ⟨w.heap.size, 6, none⟩ (.slice c.aF c.fs.length c.cF)).setCell ⟨w.heap.size, 7, none⟩ (.slice c.aN c.ns.length c.cN)) w.heap.size 29 #[.int .i64 c.n, .slice c.aL c.ls.length c.cL, .slice c.aG c.gs.length c.cG, .slice c.aO c.os.length c.cO, .slice c.aB c.bs.length c.cB, .slice c.aC c.cs.length c.cC, .slice c.aF c.fs.length c.cF, .slice c.aN c.ns.length c.cN] := ((((((((hC2.put 0 (.int .i64 c.n)).put 1 (.slice c.aL c.ls.length c.cL)).put 2 (.slice c.aG c.gs.length c.cG)).put 3 (.slice c.aO c.os.length c.cO)).put 4 (.slice c.aB c.bs.length c.cB)).put 5 (.slice c.aC c.cs.length c.cC)).put 6 (.slice c.aF c.fs.length c.cF)).put 7 (.slice c.aN c.ns.length c.cN))
  have hE3 := ((((((((hE2.far (p := ⟨w.heap.size, 0, none⟩) (by simp) (.int .i64 c.n)).far (p := ⟨w.heap.size, 1, none⟩) (by simp) (.slice c.aL c.ls.length c.cL)).far (p := ⟨w.heap.size, 2, none⟩) (by simp) (.slice c.aG c.gs.length c.cG)).far (p := ⟨w.heap.size, 3, none⟩) (by simp) (.slice c.aO c.os.length c.cO)).far (p := ⟨w.heap.size, 4, none⟩) (by simp) (.slice c.aB c.bs.length c.cB)).far (p := ⟨w.heap.size, 5, none⟩) (by simp) (.slice c.aC c.cs.length c.cC)).far (p := ⟨w.heap.size, 6, none⟩) (by simp) (.slice c.aF c.fs.length c.cF)).far (p := ⟨w.heap.size, 7, none⟩) (by simp) (.slice c.aN c.ns.length c.cN))
  have hk4 := ((((((((hk3.far (p := ⟨w.heap.size, 0, none⟩) (Nat.le_refl _) (.int .i64 c.n)).far (p := ⟨w.heap.size, 1, none⟩) (Nat.le_refl _) (.slice c.aL c.ls.length c.cL)).far (p := ⟨w.heap.size, 2, none⟩) (Nat.le_refl _) (.slice c.aG c.gs.length c.cG)).far (p := ⟨w.heap.size, 3, none⟩) (Nat.le_refl _) (.slice c.aO c.os.length c.cO)).far (p := ⟨w.heap.size, 4, none⟩) (Nat.le_refl _) (.slice c.aB c.bs.length c.cB)).far (p := ⟨w.heap.size, 5, none⟩) (Nat.le_refl _) (.slice c.aC c.cs.length c.cC)).far (p := ⟨w.heap.size, 6, none⟩) (Nat.le_refl _) (.slice c.aF c.fs.length c.cF)).far (p := ⟨w.heap.size, 7, none⟩) (Nat.le_refl _) (.slice c.aN c.ns.length c.cN))
  have hM3 := (CirM.far (CirM.far (CirM.far (CirM.far (CirM.far (CirM.far (CirM.far (CirM.far hM hfr (p := ⟨w.heap.size, 0, none⟩) (by simp only; omega) (.int .i64 c.n)) hfr (p := ⟨w.heap.size, 1, none⟩) (by simp only; omega) (.slice c.aL c.ls.length c.cL)) hfr (p := ⟨w.heap.size, 2, none⟩) (by simp only; omega) (.slice c.aG c.gs.length c.cG)) hfr (p := ⟨w.heap.size, 3, none⟩) (by simp only; omega) (.slice c.aO c.os.length c.cO)) hfr (p := ⟨w.heap.size, 4, none⟩) (by simp only; omega) (.slice c.aB c.bs.length c.cB)) hfr (p := ⟨w.heap.size, 5, none⟩) (by simp only; omega) (.slice c.aC c.cs.length c.cC)) hfr (p := ⟨w.heap.size, 6, none⟩) (by simp only; omega) (.slice c.aF c.fs.length c.cF)) hfr (p := ⟨w.heap.size, 7, none⟩) (by simp only; omega) (.slice c.aN c.ns.length c.cN))
  have hsz3 : ((((((((w2.setCell ⟨w.heap.size, 0, none⟩ (.int .i64 c.n)).setCell ⟨w.heap.size, 1, none⟩ (.slice c.aL c.ls.length c.cL)).setCell ⟨w.heap.size, 2, none⟩ (.slice c.aG c.gs.length c.cG)).setCell ⟨w.heap.size, 3, none⟩ (.slice c.aO c.os.length c.cO)).setCell ⟨w.heap.size, 4, none⟩ (.slice c.aB c.bs.length c.cB)).setCell ⟨w.heap.size, 5, none⟩ (.slice c.aC c.cs.length c.cC)).setCell ⟨w.heap.size, 6, none⟩ (.slice c.aF c.fs.length c.cF)).setCell ⟨w.heap.size, 7, none⟩ (.slice c.aN c.ns.length c.cN)).heap.size = w2.heap.size := by simp
  rw [← hsz3] at hM3
  have HSZ3 := Lib.hid hsz3
  clear hM HPV hsz3 hk2 hk1 hC1 hE1 hC2
  go_upto_region 5 with fail
  clear k0 q0 k1 q1 k2 q2 k3 q3 k4 q4 k5 q5 k6 q6 k7 q7
  generalize ((((((((w2.setCell ⟨w.heap.size, 0, none⟩ (.int .i64 c.n)).setCell ⟨w.heap.size, 1, none⟩ (.slice c.aL c.ls.length c.cL)).setCell ⟨w.heap.size, 2, none⟩ (.slice c.aG c.gs.length c.cG)).setCell ⟨w.heap.size, 3, none⟩ (.slice c.aO c.os.length c.cO)).setCell ⟨w.heap.size, 4, none⟩ (.slice c.aB c.bs.length c.cB)).setCell ⟨w.heap.size, 5, none⟩ (.slice c.aC c.cs.length c.cC)).setCell ⟨w.heap.size, 6, none⟩ (.slice c.aF c.fs.length c.cF)).setCell ⟨w.heap.size, 7, none⟩ (.slice c.aN c.ns.length c.cN)) = W3 at *
  have r0 := hC3.cell 0
  have r1 := hC3.cell 1
  have r2 := hC3.cell 2
  have r3 := hC3.cell 3
  have r4 := hC3.cell 4
  have r5 := hC3.cell 5
  have r6 := hC3.cell 6
  have r7 := hC3.cell 7
  simp only [zD, zE, zF] at r0 r1 r2 r3 r4 r5 r6 r7
  go_wp2_with fail
  refine (Right4_any c W3 hM3 hS.wf hcap).mono ?_
  rintro e w4 ⟨rfl, hb4⟩
  clear r0 r1 r2 r3 r4 r5 r6 r7
  have hC4 := hC3.below hb4 hC3.lt
  have hE4 := hE3.below hb4 hE3.lt
  have hk5 := hk4.below hb4
  have hM4 := (hM3.below hb4 (Nat.le_refl _)).more hb4.size
  cases hr : Cm.rightC c with
  | false =>
   have HE : Hid (readE s.length (.ok c0) = .error 22) := by
    unfold Hid
    rw [HRE.out]
    rw [← hst, Ag.right_strip, hr]
    rfl
   go_wp2_with fail
   refine (need_bad 22 _).mono ?_
   rintro e w5 ⟨rfl, rfl⟩
   refine leaves_cons (f := 61) (args := #[.pointer (some ⟨w.heap.size, 0, none⟩), .pointer (some ⟨w.heap.size + 1, 0, none⟩)]) (by simp) (by simp [go_sem]) ?_
   refine (catch_panicking w.heap.size _ _ _ _ _ _ _ _ _ 22 [] _ hC4 hE4).mono ?_
   rintro e u' w'' ⟨rfl, rfl, hc, he, hk⟩
   have r0 := hc.cell 0
   have r1 := hc.cell 1
   have r2 := hc.cell 2
   have r3 := hc.cell 3
   have r4 := hc.cell 4
   have r5 := hc.cell 5
   have r6 := hc.cell 6
   have r7 := hc.cell 7
   have re := he.cell 0
   simp only [zD, zE, zF] at r0 r1 r2 r3 r4 r5 r6 r7 re
   refine ⟨.tuple #[.agg #[.int .i64 0, .slice none 0 0, .slice none 0 0, .slice none 0 0, .slice none 0 0, .slice none 0 0, .slice none 0 0, .slice none 0 0], .int .i64 22], by simp [results, Tryz.results37, go_sem, r0, r1, r2, r3, r4, r5, r6, r7, re], ?_⟩
   rw [HE.out]
   exact ⟨rfl, hk.rk hk5 (Nat.le_refl _)⟩
  | true =>
   have HE : Hid (readE s.length (.ok c0) = .ok c0) := by
    unfold Hid
    rw [HRE.out]
    rw [← hst, Ag.right_strip, hr]
    rfl
   have ex := hE4.cell 0
   have ef := hE4.frozen 0
   simp only [zD, zE] at ex
   have k0 := hC4.cell 0
   have k1 := hC4.cell 1
   have k2 := hC4.cell 2
   have k3 := hC4.cell 3
   have k4 := hC4.cell 4
   have k5 := hC4.cell 5
   have k6 := hC4.cell 6
   have k7 := hC4.cell 7
   have q0 := hC4.frozen 0
   have q1 := hC4.frozen 1
   have q2 := hC4.frozen 2
   have q3 := hC4.frozen 3
   have q4 := hC4.frozen 4
   have q5 := hC4.frozen 5
   have q6 := hC4.frozen 6
   have q7 := hC4.frozen 7
   simp only [zD, zE, zF] at k0 k1 k2 k3 k4 k5 k6 k7
   have hC6 : Blk ((((((((w4.setCell ⟨w.heap.size, 0, none⟩ (.int .i64 c.n)).setCell ⟨w.heap.size, 1, none⟩ (.slice c.aL c.ls.length c.cL)).setCell ⟨w.heap.size, 2, none⟩ (.slice c.aG c.gs.length c.cG)).setCell ⟨w.heap.size, 3, none⟩ (.slice c.aO c.os.length c.cO)).setCell ⟨w.heap.size, 4, none⟩ (.slice c.aB c.bs.length c.cB)).setCell ⟨w.heap.size, 5, none⟩ (.slice c.aC c.cs.length c.cC)).setCell ⟨w.heap.size, 6, none⟩ (.slice c.aF c.fs.length c.cF)).setCell ⟨w.heap.size, 7, none⟩ (.slice c.aN c.ns.length c.cN)) w.heap.size 29 #[.int .i64 c.n, .slice c.aL c.ls.length c.cL, .slice c.aG c.gs.length c.cG, .slice c.aO c.os.length c.cO, .slice c.aB c.bs.length c.cB, .slice c.aC c.cs.length c.cC, .slice c.aF c.fs.length c.cF, .slice c.aN c.ns.length c.cN] := ((((((((hC4.put 0 (.int .i64 c.n)).put 1 (.slice c.aL c.ls.length c.cL)).put 2 (.slice c.aG c.gs.length c.cG)).put 3 (.slice c.aO c.os.length c.cO)).put 4 (.slice c.aB c.bs.length c.cB)).put 5 (.slice c.aC c.cs.length c.cC)).put 6 (.slice c.aF c.fs.length c.cF)).put 7 (.slice c.aN c.ns.length c.cN))
   have hC7 := hC6.far (p := ⟨w.heap.size + 1, 0, none⟩) (by simp) (.int .i64 0)
   have hE6 := ((((((((hE4.far (p := ⟨w.heap.size, 0, none⟩) (by simp) (.int .i64 c.n)).far (p := ⟨w.heap.size, 1, none⟩) (by simp) (.slice c.aL c.ls.length c.cL)).far (p := ⟨w.heap.size, 2, none⟩) (by simp) (.slice c.aG c.gs.length c.cG)).far (p := ⟨w.heap.size, 3, none⟩) (by simp) (.slice c.aO c.os.length c.cO)).far (p := ⟨w.heap.size, 4, none⟩) (by simp) (.slice c.aB c.bs.length c.cB)).far (p := ⟨w.heap.size, 5, none⟩) (by simp) (.slice c.aC c.cs.length c.cC)).far (p := ⟨w.heap.size, 6, none⟩) (by simp) (.slice c.aF c.fs.length c.cF)).far (p := ⟨w.heap.size, 7, none⟩) (by simp) (.slice c.aN c.ns.length c.cN))
   have hE7 := hE6.put 0 (.int .i64 0)
   simp only [List.setIfInBounds_toArray, List.set_cons_zero] at hE7
   have hk6 := ((((((((hk5.far (p := ⟨w.heap.size, 0, none⟩) (Nat.le_refl _) (.int .i64 c.n)).far (p := ⟨w.heap.size, 1, none⟩) (Nat.le_refl _) (.slice c.aL c.ls.length c.cL)).far (p := ⟨w.heap.size, 2, none⟩) (Nat.le_refl _) (.slice c.aG c.gs.length c.cG)).far (p := ⟨w.heap.size, 3, none⟩) (Nat.le_refl _) (.slice c.aO c.os.length c.cO)).far (p := ⟨w.heap.size, 4, none⟩) (Nat.le_refl _) (.slice c.aB c.bs.length c.cB)).far (p := ⟨w.heap.size, 5, none⟩) (Nat.le_refl _) (.slice c.aC c.cs.length c.cC)).far (p := ⟨w.heap.size, 6, none⟩) (Nat.le_refl _) (.slice c.aF c.fs.length c.cF)).far (p := ⟨w.heap.size, 7, none⟩) (Nat.le_refl _) (.slice c.aN c.ns.length c.cN))
   have hk7 := hk6.far (p := ⟨w.heap.size + 1, 0, none⟩) (by simp) (.int .i64 0)
   have hM6 := (CirM.far (CirM.far (CirM.far (CirM.far (CirM.far (CirM.far (CirM.far (CirM.far hM4 hfr (p := ⟨w.heap.size, 0, none⟩) (by simp only; omega) (.int .i64 c.n)) hfr (p := ⟨w.heap.size, 1, none⟩) (by simp only; omega) (.slice c.aL c.ls.length c.cL)) hfr (p := ⟨w.heap.size, 2, none⟩) (by simp only; omega) (.slice c.aG c.gs.length c.cG)) hfr (p := ⟨w.heap.size, 3, none⟩) (by simp only; omega) (.slice c.aO c.os.length c.cO)) hfr (p := ⟨w.heap.size, 4, none⟩) (by simp only; omega) (.slice c.aB c.bs.length c.cB)) hfr (p := ⟨w.heap.size, 5, none⟩) (by simp only; omega) (.slice c.aC c.cs.length c.cC)) hfr (p := ⟨w.heap.size, 6, none⟩) (by simp only; omega) (.slice c.aF c.fs.length c.cF)) hfr (p := ⟨w.heap.size, 7, none⟩) (by simp only; omega) (.slice c.aN c.ns.length c.cN))
   have hM7 := hM6.far hfr (p := ⟨w.heap.size + 1, 0, none⟩) (by simp only; omega) (.int .i64 0)
   have hsz7 : (((((((((w4.setCell ⟨w.heap.size, 0, none⟩ (.int .i64 c.n)).setCell ⟨w.heap.size, 1, none⟩ (.slice c.aL c.ls.length c.cL)).setCell ⟨w.heap.size, 2, none⟩ (.slice c.aG c.gs.length c.cG)).setCell ⟨w.heap.size, 3, none⟩ (.slice c.aO c.os.length c.cO)).setCell ⟨w.heap.size, 4, none⟩ (.slice c.aB c.bs.length c.cB)).setCell ⟨w.heap.size, 5, none⟩ (.slice c.aC c.cs.length c.cC)).setCell ⟨w.heap.size, 6, none⟩ (.slice c.aF c.fs.length c.cF)).setCell ⟨w.heap.size, 7, none⟩ (.slice c.aN c.ns.length c.cN)).setCell ⟨w.heap.size + 1, 0, none⟩ (.int .i64 0)).heap.size = w4.heap.size := by simp
   rw [← hsz7] at hM7
   clear hsz7 hC6 hE6 hk6 hM6
   go_wp2_with fail
   refine (need_ok 22 _).mono ?_
   rintro e w5 ⟨rfl, rfl⟩
   go_wp2
   generalize ((((((((w4.setCell ⟨w.heap.size, 0, none⟩ (.int .i64 c.n)).setCell ⟨w.heap.size, 1, none⟩ (.slice c.aL c.ls.length c.cL)).setCell ⟨w.heap.size, 2, none⟩ (.slice c.aG c.gs.length c.cG)).setCell ⟨w.heap.size, 3, none⟩ (.slice c.aO c.os.length c.cO)).setCell ⟨w.heap.size, 4, none⟩ (.slice c.aB c.bs.length c.cB)).setCell ⟨w.heap.size, 5, none⟩ (.slice c.aC c.cs.length c.cC)).setCell ⟨w.heap.size, 6, none⟩ (.slice c.aF c.fs.length c.cF)).setCell ⟨w.heap.size, 7, none⟩ (.slice c.aN c.ns.length c.cN)).setCell ⟨w.heap.size + 1, 0, none⟩ (.int .i64 0) = W7 at *
   clear k0 q0 k1 q1 k2 q2 k3 q3 k4 q4 k5 q5 k6 q6 k7 q7 ex ef
   refine leaves_cons (f := 61) (args := #[.pointer (some ⟨w.heap.size, 0, none⟩), .pointer (some ⟨w.heap.size + 1, 0, none⟩)]) (by simp) (by simp [go_sem]) ?_
   refine (catch_idle _ _ _).mono ?_
   rintro e u' w'' ⟨rfl, rfl, rfl⟩
   have r0 := hC7.cell 0
   have r1 := hC7.cell 1
   have r2 := hC7.cell 2
   have r3 := hC7.cell 3
   have r4 := hC7.cell 4
   have r5 := hC7.cell 5
   have r6 := hC7.cell 6
   have r7 := hC7.cell 7
   have re := hE7.cell 0
   simp only [zD, zE, zF] at r0 r1 r2 r3 r4 r5 r6 r7 re
   refine ⟨.tuple #[.agg #[.int .i64 c.n, .slice c.aL c.ls.length c.cL, .slice c.aG c.gs.length c.cG, .slice c.aO c.os.length c.cO, .slice c.aB c.bs.length c.cB, .slice c.aC c.cs.length c.cC, .slice c.aF c.fs.length c.cF, .slice c.aN c.ns.length c.cN], .int .i64 0], by simp [results, Tryz.results37, go_sem, r0, r1, r2, r3, r4, r5, r6, r7, re], ?_⟩
   rw [HE.out]
   exact ⟨c, hst, rfl, hM7, hS, hcap, hfr.more (by omega), hk7⟩
end Go.Proofs.YtpejilhdhkmcjaaGreatDoor
