/- The reader of texts: the lines of a circuit. -/
import Derived.Test.YtpejilhdhkmcjaaGreatDoorJaAl
import Derived.Test.YtpejilhdhkmcjaaGreatDoorJabg
namespace Go.Proofs.YtpejilhdhkmcjaaGreatDoor
open Go.RowKit

set_option maxHeartbeats 1000000 in
theorem aagLit_any (i : Nat) (h : i ≤ 100000) (w : World) : Calls Tryz.prog 24 #[.int .i64 (i : Int)] w fun e w' => e = .returned (.int .i64 ((2 * (i + 1) : Nat) : Int)) ∧ w = w' := by
 go_enter Tryz.func24, Tryz.ntmps24
 go_wp2
 go_ret
 refine ⟨?_, rfl⟩
 have : 2 * ((i : Int) + 1) = ((2 * (i + 1) : Nat) : Int) := by omega
 rw [← this]
 rfl
theorem open_head (x : Nat) (l : Ag.Bs) : Ag.openS [x] l = some [] ↔ Ag.numsS l = some [x] := by
 unfold Ag.openS
 cases Ag.numsS l with
 | none => simp
 | some m =>
  match m with
  | [] => simp
  | [a] =>
   simp
  | a :: b :: t =>
   simp
theorem ins_step (k i : Nat) (s : Ag.Bs) : Ag.insS (k + 1) i s = match Ag.lineS s with | none => none | some (l, r) => match Ag.openS [2 * (i + 1)] l with | some [] => Ag.insS k (i + 1) r | _ => none := by
 rw [Ag.insS]
 cases Ag.lineS s with
 | none => rfl
 | some q =>
  obtain ⟨l, r⟩ := q
  simp only
  by_cases h : Ag.numsS l = some [2 * (i + 1)]
  ·
   rw [if_pos h, (open_head _ l).2 h]
  rw [if_neg h]
  split
  ·
   rename_i h2
   exact absurd ((open_head _ l).1 h2) h
  rfl
def latM (ls : List (Int × Int)) (o : Option (List (Int × Int) × Ag.Bs)) : Option (List (Int × Int) × Ag.Bs) := match o with | none => none | some (qs, r) => some (ls ++ qs, r)
theorem lats_step (ls : List (Int × Int)) (b : Bool) (k i : Nat) (s : Ag.Bs) : latM ls (Ag.latsS b (k + 1) i s) = match Ag.lineS s with | none => none | some (l, r) => match Ag.latS (if b then [2 * (i + 1)] else []) (2 * (i + 1)) l with | none => none | some q => latM (ls ++ [q]) (Ag.latsS b k (i + 1) r) := by
 rw [Ag.latsS]
 cases Ag.lineS s with
 | none => rfl
 | some q =>
  obtain ⟨l, r⟩ := q
  simp only
  cases Ag.latS (if b then [2 * (i + 1)] else []) (2 * (i + 1)) l with
  | none => rfl
  | some q =>
   simp only
   cases Ag.latsS b k (i + 1) r with
   | none => rfl
   | some q2 => simp [latM]
theorem lats_zero (ls : List (Int × Int)) (b : Bool) (i : Nat) (s : Ag.Bs) : latM ls (Ag.latsS b 0 i s) = some (ls, s) := by simp [Ag.latsS, latM]
theorem gats_step (ls : List (Int × Int)) (k i : Nat) (s : Ag.Bs) : latM ls (Ag.gatS (k + 1) i s) = match Ag.lineS s with | none => none | some (l, r) => match Ag.openS [2 * (i + 1)] l with | some [a, b] => latM (ls ++ [((a : Int), (b : Int))]) (Ag.gatS k (i + 1) r) | _ => none := by
 rw [Ag.gatS]
 cases Ag.lineS s with
 | none => rfl
 | some q =>
  obtain ⟨l, r⟩ := q
  simp only
  cases Ag.openS [2 * (i + 1)] l with
  | none => rfl
  | some m =>
   match m with
   | [] => rfl
   | [a] => rfl
   | [a, b] =>
    simp only
    cases Ag.gatS k (i + 1) r with
    | none => rfl
    | some q2 => simp [latM]
   | a :: b :: d :: t => rfl
theorem gats_zero (ls : List (Int × Int)) (i : Nat) (s : Ag.Bs) : latM ls (Ag.gatS 0 i s) = some (ls, s) := by simp [Ag.gatS, latM]
/-- The circuit of the lines, from a place on. -/
def bN (m : List Nat) (ls : List (Int × Int)) (q : List Int × List Int × List Int × List Int) (gs : List (Int × Int)) (r : Ag.Bs) : Option Cir := match Ag.namesF r.length r with | none => none | some ns => some (Ag.mk (Ag.ge m 1 : Nat) ls gs q.1 q.2.1 q.2.2.1 q.2.2.2 ns)
def bG (m : List Nat) (ls : List (Int × Int)) (q : List Int × List Int × List Int × List Int) (o : Option (List (Int × Int) × Ag.Bs)) : Option Cir := match o with | none => none | some (gs, r) => bN m ls q gs r
def bS (m : List Nat) (ls : List (Int × Int)) (r : Ag.Bs) : Option Cir := match Ag.sigsS m r with | none => none | some (q, r) => bG m ls q (Ag.gatS (Ag.ge m 4) (Ag.ge m 1 + Ag.ge m 2) r)
def bL (m : List Nat) (o : Option (List (Int × Int) × Ag.Bs)) : Option Cir := match o with | none => none | some (ls, r) => bS m ls r
def bI (m : List Nat) (o : Option Ag.Bs) : Option Cir := match o with | none => none | some r => bL m (Ag.latsS true (Ag.ge m 2) (Ag.ge m 1) r)
theorem body_bI (m : List Nat) (r : Ag.Bs) : Ag.bodyS m r = bI m (Ag.insS (Ag.ge m 1) 0 r) := by
 unfold Ag.bodyS bI
 cases Ag.insS (Ag.ge m 1) 0 r with
 | none => rfl
 | some r1 =>
  simp only
  unfold bL
  cases Ag.latsS true (Ag.ge m 2) (Ag.ge m 1) r1 with
  | none => rfl
  | some q =>
   obtain ⟨ls, r2⟩ := q
   simp only
   unfold bS
   cases Ag.sigsS m r2 with
   | none => rfl
   | some q =>
    obtain ⟨⟨os, bs, cs, fs⟩, r3⟩ := q
    simp only
    unfold bG
    cases Ag.gatS (Ag.ge m 4) (Ag.ge m 1 + Ag.ge m 2) r3 with
    | none => rfl
    | some q =>
     obtain ⟨gs, r4⟩ := q
     rfl
def ofB (o : Option Cir) : Except Nat Cir := match o with | none => .error 21 | some c => .ok c
/-- The circuit of a text but for whether it is right. -/
def linesE (s : Ag.Bs) : Except Nat Cir := match Ag.headS Ag.aagW s with | none => .error 20 | some (m, r) => ofB (Ag.bodyS m r)
/-- The circuit's lists lie behind a bound. -/
structure FreshC (lo : Nat) (c : Cir) : Prop where
 l : ∀ ad, c.aL = some ad → lo ≤ ad.block
 g : ∀ ad, c.aG = some ad → lo ≤ ad.block
 o : ∀ ad, c.aO = some ad → lo ≤ ad.block
 b : ∀ ad, c.aB = some ad → lo ≤ ad.block
 k : ∀ ad, c.aC = some ad → lo ≤ ad.block
 f : ∀ ad, c.aF = some ad → lo ≤ ad.block
 n : ∀ ad, c.aN = some ad → lo ≤ ad.block
theorem FreshC.more {lo hi : Nat} {c : Cir} (h : FreshC hi c) (hl : lo ≤ hi) : FreshC lo c :=
 ⟨fun ad e => Nat.le_trans hl (h.l ad e), fun ad e => Nat.le_trans hl (h.g ad e), fun ad e => Nat.le_trans hl (h.o ad e), fun ad e => Nat.le_trans hl (h.b ad e), fun ad e => Nat.le_trans hl (h.k ad e), fun ad e => Nat.le_trans hl (h.f ad e), fun ad e => Nat.le_trans hl (h.n ad e)⟩
theorem row_fresh {w : World} {base : Nat} {e : TypeId} {size n m c : Nat} {A : Option Addr} {xs : List Value} (h : w.ownsRow base e size (.slice A n c) m xs) : ∀ ad, A = some ad → base ≤ ad.block := fun ad ha => row_base h ad.block (by rw [ha]; rfl)
theorem nrow_fresh {w : World} {lo n c : Nat} {A : Option Addr} {zs : List Int} (h : NRow w lo (.slice A n c) zs) : ∀ ad, A = some ad → lo ≤ ad.block := by
 obtain ⟨A', c', e, _, hb⟩ := h
 injection e with e1 e2 e3
 subst e1
 exact hb
/-- A circuit is read, or the reading ends. -/
def PartsP (R : Nat) (w : World) (o : Except Nat Cir) (e : Ending) (w' : World) : Prop :=
 match o with
 | .error k => e = faultE (k : Int) ∧ RKeep R w w'
 | .ok c0 => ∃ c : Cir, Ag.strip c = c0 ∧ e = .returned (.agg #[.int .i64 c.n, .slice c.aL c.ls.length c.cL, .slice c.aG c.gs.length c.cG, .slice c.aO c.os.length c.cO, .slice c.aB c.bs.length c.cB, .slice c.aC c.cs.length c.cC, .slice c.aF c.fs.length c.cF, .slice c.aN c.ns.length c.cN]) ∧ CirM w' w'.heap.size c ∧ Small c ∧ c.ns.length ≤ c.cN ∧ FreshC w.heap.size c ∧ RKeep R w w'
theorem RCKeep.grown {R C : Nat} {a b c : World} {row : Option Nat} (h : RCKeep R C a b) (k : b.grownBy c row) (hr : ∀ g, row = some g → a.heap.size ≤ g) : RCKeep R C a c :=
 ⟨k.os.trans h.os, k.tape.trans h.tape, k.output.trans h.output, Nat.le_trans h.size k.size, fun i hi hn hm => (k.block i (Nat.lt_of_lt_of_le hi h.size) (fun e => by have := hr i e.symm; omega)).trans (h.blk i hi hn hm)⟩
theorem RKeep.rc {R C : Nat} {a b c : World} (h : RKeep R a b) (k : RCKeep R C b c) (hC : a.heap.size ≤ C) : RKeep R a c :=
 ⟨k.os.trans h.os, k.tape.trans h.tape, k.output.trans h.output, Nat.le_trans h.size k.size, fun i hi hn => (k.blk i (Nat.lt_of_lt_of_le hi h.size) hn (by omega)).trans (h.blk i hi hn)⟩
theorem RCKeep.blkOf {R C g : Nat} {a b : World} {t : TypeId} {cs : Array Value} (h : RCKeep R C a b) (k : Blk a g t cs) (hn : g ≠ R) (hm : g ≠ C) : Blk b g t cs := k.keep (h.blk g k.lt hn hm)
theorem latS_le {bg : List Nat} {own : Nat} {l : Ag.Bs} {q : Int × Int} (h : Ag.latS bg own l = some q) : (0 ≤ q.1 ∧ q.1 ≤ 999999) ∧ 0 ≤ q.2 ∧ q.2 ≤ 2 := by
 unfold Ag.latS at h
 split at h
 ·
  cases h
 rename_i m hm
 exact Ag.latN_le (Ag.open_small hm) h
theorem row_rc {R C : Nat} {w w' : World} {base : Nat} {e : TypeId} {size : Nat} {v : Value} {n : Nat} {xs : List Value} (h : w.ownsRow base e size v n xs) (hk : RCKeep R C w w') (hR : R < base) (hC : C < base) : w'.ownsRow base e size v n xs := by
 refine ⟨h.1, ?_⟩
 rcases h.2 with h2 | ⟨g, cap, cur, he, hbs, hh, r⟩
 ·
  exact Or.inl h2
 exact Or.inr ⟨g, cap, cur, he, hbs, (hk.blk g (Blk.lt (t := e) hh) (by omega) (by omega)).trans hh, r⟩
theorem nrow_rc {R C lo : Nat} {w w' : World} {v : Value} {zs : List Int} (h : NRow w lo v zs) (hk : RCKeep R C w w') (hR : R < lo) (hC : C < lo) : NRow w' lo v zs := h.kept hk.size (fun b hb hl => hk.blk b hl (by omega) (by omega))
theorem latch_gr2 {w : World} {base : Nat} {A : Option Addr} {c : Nat} {ls : List (Int × Int)} (h : w.ownsRow base 49 2 (.slice A ls.length c) ls.length (flat ls)) : Gr w w.heap.size A ls := by
 obtain ⟨A', c', e, hg⟩ := latch_gr h
 injection e with e1 e2 e3
 subst e1
 exact hg
theorem gate_gr2 {w : World} {base : Nat} {A : Option Addr} {c : Nat} {ls : List (Int × Int)} (h : w.ownsRow base 57 2 (.slice A ls.length c) ls.length (flat ls)) : Gr w w.heap.size A ls := by
 obtain ⟨A', c', e, hg⟩ := Own.gr (show Own w base _ ls from h)
 injection e with e1 e2 e3
 subst e1
 exact hg
theorem name_ns2 {w : World} {base : Nat} {A : Option Addr} {c : Nat} {ns : List Nm} (h : w.ownsRow base 69 3 (.slice A ns.length c) ns.length (flatN ns)) : Ns w w.heap.size A ns ∧ ns.length ≤ c := by
 obtain ⟨A', c', e, hg, hc⟩ := name_ns h
 injection e with e1 e2 e3
 subst e1 e3
 exact ⟨hg, hc⟩
theorem nrow_vs {w : World} {lo : Nat} {A : Option Addr} {c : Nat} {zs : List Int} (h : NRow w lo (.slice A zs.length c) zs) : Vs w w.heap.size A (iv zs) := by
 obtain ⟨A', c', e, hg, _⟩ := h
 injection e with e1 e2 e3
 subst e1
 exact hg
theorem sigs_small {m : List Nat} {r r' : Ag.Bs} {os bs cs fs : List Int} (hm : ∀ x ∈ m, x ≤ 2000) (h : Ag.sigsS m r = some ((os, bs, cs, fs), r')) :
  ((∀ z ∈ os, 0 ≤ z ∧ z ≤ 999999) ∧ (∀ z ∈ bs, 0 ≤ z ∧ z ≤ 999999) ∧ (∀ z ∈ cs, 0 ≤ z ∧ z ≤ 999999) ∧ (∀ z ∈ fs, 0 ≤ z ∧ z ≤ 999999)) ∧ (os.length ≤ 2000 ∧ bs.length ≤ 2000 ∧ cs.length ≤ 2000 ∧ fs.length ≤ 2000) ∧ r'.length ≤ r.length := by
 have b3 := ge_of_all hm 3
 have b5 := ge_of_all hm 5
 have b6 := ge_of_all hm 6
 have b8 := ge_of_all hm 8
 unfold Ag.sigsS at h
 split at h
 ·
  cases h
 rename_i os' r1 h1
 split at h
 ·
  cases h
 rename_i bs' r2 h2
 split at h
 ·
  cases h
 rename_i cs' r3 h3
 split at h
 ·
  cases h
 rename_i fs' r4 h4
 cases h
 have l1 := (Ag.col_eq _ _ _ _ h1).1
 have l2 := (Ag.col_eq _ _ _ _ h2).1
 have l3 := (Ag.col_eq _ _ _ _ h3).1
 have l4 := (Ag.col_eq _ _ _ _ h4).1
 have s1 := col_short h1
 have s2 := col_short h2
 have s3 := col_short h3
 have s4 := col_short h4
 exact ⟨⟨Ag.col_le _ _ _ _ h1, Ag.col_le _ _ _ _ h2, Ag.col_le _ _ _ _ h3, Ag.col_le _ _ _ _ h4⟩, ⟨by omega, by omega, by omega, by omega⟩, by omega⟩
theorem app_gate (w : World) (base : Nat) (ty : TypeId) (v : Value) (n : Nat) (xs : List Value) (hown : w.ownsRow base 57 2 v n xs) (b c : Nat) (x y : Int) (hbk : Blk w b 57 #[.int .i64 x, .int .i64 y]) (hn : n ≤ 100000) (hbase : base ≤ w.heap.size) :
  ∃ v' w', (Builtin.append_ #[25, 25] ty #[v, .slice (some ⟨b, 0, none⟩) 1 c]).run Tryz.prog w = .ok v' w' ∧ w'.ownsRow base 57 2 v' (n + 1) (xs ++ [.int .i64 x, .int .i64 y]) ∧ w.grownBy w' v.ownBlock ∧ (v'.ownBlock = v.ownBlock ∨ v'.ownBlock = some w.heap.size) :=
 app_own w base 25 ty 57 Tryz.t57 (.agg #[.int .i64 0, .int .i64 0]) 2 16 Tryz.underlying25 (by kernel_rfl) (by kernel_rfl) (by kernel_rfl) (by kernel_rfl) (by omega) (by kernel_rfl) (by omega) v n xs hown b c [.int .i64 x, .int .i64 y] hbk rfl (fun u hu => by simp at hu; rcases hu with rfl | rfl <;> rfl) hn hbase
theorem latM_nil (o : Option (List (Int × Int) × Ag.Bs)) : latM [] o = o := by
 cases o with
 | none => rfl
 | some q => simp [latM]
theorem row_rkeep {R : Nat} {w w' : World} {base : Nat} {e : TypeId} {size : Nat} {v : Value} {n : Nat} {xs : List Value} (h : w.ownsRow base e size v n xs) (hk : RKeep R w w') (hR : R < base) : w'.ownsRow base e size v n xs := by
 refine ⟨h.1, ?_⟩
 rcases h.2 with h2 | ⟨g, cap, cur, he, hbs, hh, r⟩
 ·
  exact Or.inl h2
 exact Or.inr ⟨g, cap, cur, he, hbs, (hk.blk g (Blk.lt (t := e) hh) (by omega)).trans hh, r⟩

set_option maxRecDepth 10000 in
set_option maxHeartbeats 8000000 in
theorem rlines_any (R : Nat) (s : Ag.Bs) (B : Nat) (w : World) (h : RB w R ⟨s.toArray⟩ 20) (hs : s.length ≤ 20000) (hA : Amb B w) (hR : B ≤ R) :
  Calls Tryz.prog 38 #[.pointer (some ⟨R, 0, none⟩)] w (PartsP R w (linesE s)) := by
 have hR0 : R < w.heap.size := Blk.lt h
 have lo := lowAlloc w (Obj.cells #[.int .i64 0, .slice none 0 0, .slice none 0 0, .slice none 0 0, .slice none 0 0, .slice none 0 0, .slice none 0 0, .slice none 0 0] 29)
 have hres := Blk.new w 29 #[.int .i64 0, .slice none 0 0, .slice none 0 0, .slice none 0 0, .slice none 0 0, .slice none 0 0, .slice none 0 0, .slice none 0 0]
 have hk0 := (RKeep.refl R w).below lo
 have h0 : RB (w.alloc (Obj.cells #[.int .i64 0, .slice none 0 0, .slice none 0 0, .slice none 0 0, .slice none 0 0, .slice none 0 0, .slice none 0 0, .slice none 0 0] 29)) R ⟨s.toArray⟩ 20 := Blk.alloc h _
 have hA0 := hA.on (lo.mono hA.le)
 have HH := Lib.hid (rhead_any R s Ag.aagW 20 B _ h0 (by omega) hA0 hR)
 have HHE : Hid (∀ m r, Ag.headS Ag.aagW s = some (m, r) → (∀ x ∈ m, x ≤ 2000) ∧ r.length ≤ 20000) := by
  intro m r e
  obtain ⟨e1, _, _, e2, _, _⟩ := Ag.head_eq e
  have := congrArg List.length e1
  simp at this
  exact ⟨e2, by omega⟩
 have HLE : Hid (linesE s = match Ag.headS Ag.aagW s with | none => .error 20 | some (m, r) => ofB (Ag.bodyS m r)) := rfl
 generalize linesE s = o at *
 generalize Ag.headS Ag.aagW s = hd at *
 go_enter Tryz.func38, Tryz.ntmps38
 go_wp2_with fail
 refine HH.out.mono ?_
 intro e w2 hP
 cases hd with
 | none =>
  obtain ⟨rfl, hk⟩ := hP
  have HE : o = .error 20 := HLE.out
  exact ⟨rfl, by rw [HE]; exact ⟨rfl, hk0.trans hk⟩⟩
 | some q =>
  obtain ⟨m, r⟩ := q
  obtain ⟨rfl, hrb, hk⟩ := hP
  obtain ⟨hm2, hrl⟩ := HHE.out m r rfl
  have HO : Hid (o = ofB (bI m (Ag.insS (Ag.ge m 1) 0 r))) := by
   unfold Hid
   rw [HLE.out, ← body_bI]
  have HR1 := Lib.hid (hk.blkOf hres (by omega))
  have hk1 := hk0.trans hk
  have hA1 := hA0.keep hk hR
  have hsw := hk1.size
  have b1 := ge_of_all hm2 1
  have b2 := ge_of_all hm2 2
  have b4 := ge_of_all hm2 4
  have hRlt := HR1.out.lt
  clear HLE HHE HH hk0 hk hA0 h0 hres lo h hA
  have hH := (Blk.new w2 87 #[.int .i64 (Ag.ge m 0 : Nat), .int .i64 (Ag.ge m 1 : Nat), .int .i64 (Ag.ge m 2 : Nat), .int .i64 (Ag.ge m 3 : Nat), .int .i64 (Ag.ge m 4 : Nat), .int .i64 (Ag.ge m 5 : Nat), .int .i64 (Ag.ge m 6 : Nat), .int .i64 (Ag.ge m 7 : Nat), .int .i64 (Ag.ge m 8 : Nat)]).alloc (Obj.cells #[.int .i64 (Ag.ge m 1 : Nat), .slice none 0 0, .slice none 0 0, .slice none 0 0, .slice none 0 0, .slice none 0 0, .slice none 0 0, .slice none 0 0] 29)
  have hC : Blk ((w2.alloc (Obj.cells #[.int .i64 (Ag.ge m 0 : Nat), .int .i64 (Ag.ge m 1 : Nat), .int .i64 (Ag.ge m 2 : Nat), .int .i64 (Ag.ge m 3 : Nat), .int .i64 (Ag.ge m 4 : Nat), .int .i64 (Ag.ge m 5 : Nat), .int .i64 (Ag.ge m 6 : Nat), .int .i64 (Ag.ge m 7 : Nat), .int .i64 (Ag.ge m 8 : Nat)] 87)).alloc (Obj.cells #[.int .i64 (Ag.ge m 1 : Nat), .slice none 0 0, .slice none 0 0, .slice none 0 0, .slice none 0 0, .slice none 0 0, .slice none 0 0, .slice none 0 0] 29)) (w2.heap.size + 1) 29 #[.int .i64 (Ag.ge m 1 : Nat), .slice none 0 0, .slice none 0 0, .slice none 0 0, .slice none 0 0, .slice none 0 0, .slice none 0 0, .slice none 0 0] := by
   have := Blk.new (w2.alloc (Obj.cells #[.int .i64 (Ag.ge m 0 : Nat), .int .i64 (Ag.ge m 1 : Nat), .int .i64 (Ag.ge m 2 : Nat), .int .i64 (Ag.ge m 3 : Nat), .int .i64 (Ag.ge m 4 : Nat), .int .i64 (Ag.ge m 5 : Nat), .int .i64 (Ag.ge m 6 : Nat), .int .i64 (Ag.ge m 7 : Nat), .int .i64 (Ag.ge m 8 : Nat)] 87)) 29 #[.int .i64 (Ag.ge m 1 : Nat), .slice none 0 0, .slice none 0 0, .slice none 0 0, .slice none 0 0, .slice none 0 0, .slice none 0 0, .slice none 0 0]
   simpa using this
  have hrb0 : RB ((w2.alloc (Obj.cells #[.int .i64 (Ag.ge m 0 : Nat), .int .i64 (Ag.ge m 1 : Nat), .int .i64 (Ag.ge m 2 : Nat), .int .i64 (Ag.ge m 3 : Nat), .int .i64 (Ag.ge m 4 : Nat), .int .i64 (Ag.ge m 5 : Nat), .int .i64 (Ag.ge m 6 : Nat), .int .i64 (Ag.ge m 7 : Nat), .int .i64 (Ag.ge m 8 : Nat)] 87)).alloc (Obj.cells #[.int .i64 (Ag.ge m 1 : Nat), .slice none 0 0, .slice none 0 0, .slice none 0 0, .slice none 0 0, .slice none 0 0, .slice none 0 0, .slice none 0 0] 29)) R ⟨r.toArray⟩ 21 := Blk.alloc (Blk.alloc hrb _) _
  have hk0 := (hk1.below (lowAlloc w2 (Obj.cells #[.int .i64 (Ag.ge m 0 : Nat), .int .i64 (Ag.ge m 1 : Nat), .int .i64 (Ag.ge m 2 : Nat), .int .i64 (Ag.ge m 3 : Nat), .int .i64 (Ag.ge m 4 : Nat), .int .i64 (Ag.ge m 5 : Nat), .int .i64 (Ag.ge m 6 : Nat), .int .i64 (Ag.ge m 7 : Nat), .int .i64 (Ag.ge m 8 : Nat)] 87))).below (lowAlloc _ (Obj.cells #[.int .i64 (Ag.ge m 1 : Nat), .slice none 0 0, .slice none 0 0, .slice none 0 0, .slice none 0 0, .slice none 0 0, .slice none 0 0, .slice none 0 0] 29))
  have hA2 := (hA1.on ((lowAlloc w2 (Obj.cells #[.int .i64 (Ag.ge m 0 : Nat), .int .i64 (Ag.ge m 1 : Nat), .int .i64 (Ag.ge m 2 : Nat), .int .i64 (Ag.ge m 3 : Nat), .int .i64 (Ag.ge m 4 : Nat), .int .i64 (Ag.ge m 5 : Nat), .int .i64 (Ag.ge m 6 : Nat), .int .i64 (Ag.ge m 7 : Nat), .int .i64 (Ag.ge m 8 : Nat)] 87)).mono hA1.le)).on ((lowAlloc (w2.alloc (Obj.cells #[.int .i64 (Ag.ge m 0 : Nat), .int .i64 (Ag.ge m 1 : Nat), .int .i64 (Ag.ge m 2 : Nat), .int .i64 (Ag.ge m 3 : Nat), .int .i64 (Ag.ge m 4 : Nat), .int .i64 (Ag.ge m 5 : Nat), .int .i64 (Ag.ge m 6 : Nat), .int .i64 (Ag.ge m 7 : Nat), .int .i64 (Ag.ge m 8 : Nat)] 87)) (Obj.cells #[.int .i64 (Ag.ge m 1 : Nat), .slice none 0 0, .slice none 0 0, .slice none 0 0, .slice none 0 0, .slice none 0 0, .slice none 0 0, .slice none 0 0] 29)).mono (hA1.on ((lowAlloc w2 (Obj.cells #[.int .i64 (Ag.ge m 0 : Nat), .int .i64 (Ag.ge m 1 : Nat), .int .i64 (Ag.ge m 2 : Nat), .int .i64 (Ag.ge m 3 : Nat), .int .i64 (Ag.ge m 4 : Nat), .int .i64 (Ag.ge m 5 : Nat), .int .i64 (Ag.ge m 6 : Nat), .int .i64 (Ag.ge m 7 : Nat), .int .i64 (Ag.ge m 8 : Nat)] 87)).mono hA1.le)).le)
  have hR2 := (HR1.out.alloc (Obj.cells #[.int .i64 (Ag.ge m 0 : Nat), .int .i64 (Ag.ge m 1 : Nat), .int .i64 (Ag.ge m 2 : Nat), .int .i64 (Ag.ge m 3 : Nat), .int .i64 (Ag.ge m 4 : Nat), .int .i64 (Ag.ge m 5 : Nat), .int .i64 (Ag.ge m 6 : Nat), .int .i64 (Ag.ge m 7 : Nat), .int .i64 (Ag.ge m 8 : Nat)] 87)).alloc (Obj.cells #[.int .i64 (Ag.ge m 1 : Nat), .slice none 0 0, .slice none 0 0, .slice none 0 0, .slice none 0 0, .slice none 0 0, .slice none 0 0, .slice none 0 0] 29)
  have hsz : ((w2.alloc (Obj.cells #[.int .i64 (Ag.ge m 0 : Nat), .int .i64 (Ag.ge m 1 : Nat), .int .i64 (Ag.ge m 2 : Nat), .int .i64 (Ag.ge m 3 : Nat), .int .i64 (Ag.ge m 4 : Nat), .int .i64 (Ag.ge m 5 : Nat), .int .i64 (Ag.ge m 6 : Nat), .int .i64 (Ag.ge m 7 : Nat), .int .i64 (Ag.ge m 8 : Nat)] 87)).alloc (Obj.cells #[.int .i64 (Ag.ge m 1 : Nat), .slice none 0 0, .slice none 0 0, .slice none 0 0, .slice none 0 0, .slice none 0 0, .slice none 0 0, .slice none 0 0] 29)).heap.size = w2.heap.size + 1 + 1 := by simp
  have g1 := hH.cell 1
  simp only [zD, zE, zF] at g1
  unfold headV
  go_upto_region 4 with fail
  generalize ((w2.alloc (Obj.cells #[.int .i64 (Ag.ge m 0 : Nat), .int .i64 (Ag.ge m 1 : Nat), .int .i64 (Ag.ge m 2 : Nat), .int .i64 (Ag.ge m 3 : Nat), .int .i64 (Ag.ge m 4 : Nat), .int .i64 (Ag.ge m 5 : Nat), .int .i64 (Ag.ge m 6 : Nat), .int .i64 (Ag.ge m 7 : Nat), .int .i64 (Ag.ge m 8 : Nat)] 87)).alloc (Obj.cells #[.int .i64 (Ag.ge m 1 : Nat), .slice none 0 0, .slice none 0 0, .slice none 0 0, .slice none 0 0, .slice none 0 0, .slice none 0 0, .slice none 0 0] 29)) = W0 at *
  clear g1 hrb hk1 hA1 HR1
  generalize w2.heap.size = H at *
  have HZ0 := Lib.hid hsz
  have HK0 := Lib.hid hk0
  have HA2 := Lib.hid hA2
  have hRH : R < H := by omega
  clear hsz hk0 hA2
  go_loopw [5, 17] (fun _ i wr => ∃ (j : Nat) (s' : Ag.Bs), j ≤ Ag.ge m 1 ∧ i = .int .i64 (j : Int) ∧ o = ofB (bI m (Ag.insS (Ag.ge m 1 - j) j s')) ∧ s'.length ≤ 20000 ∧ RB wr R ⟨s'.toArray⟩ 21 ∧ RKeep R W0 wr) (fun _ i _ => Ag.ge m 1 - (intOf i).toNat)
  case atStart => exact ⟨0, r, Nat.zero_le _, rfl, HO.out, hrl, hrb0, RKeep.refl _ _⟩
  clear hrb0 HO hrl
  obtain ⟨j, s1, hj, rfl, hoj, hs1, hrb, hk⟩ := hrel
  have HOJ := Lib.hid hoj
  clear hoj
  by_cases hlt : j < Ag.ge m 1
  ·
   have hjz : (j : Int) < (Ag.ge m 1 : Nat) := by omega
   have HST : Hid (Ag.insS (Ag.ge m 1 - j) j s1 = match Ag.lineS s1 with | none => none | some (l, r) => match Ag.openS [2 * (j + 1)] l with | some [] => Ag.insS (Ag.ge m 1 - (j + 1)) (j + 1) r | _ => none) := by
    unfold Hid
    obtain ⟨k, hk⟩ : ∃ k, Ag.ge m 1 - j = k + 1 := ⟨Ag.ge m 1 - j - 1, by omega⟩
    rw [hk, ins_step, show Ag.ge m 1 - (j + 1) = k by omega]
   rw [HST.out] at HOJ
   clear HST
   have hbk := Blk.new wr 3 #[.int .i64 ((2 * (j + 1) : Nat) : Int)]
   have HL := Lib.hid (rline_any R s1 21 B [2 * (j + 1)] (some ⟨wr.heap.size, 0, none⟩) 1 0 (wr.alloc (Obj.cells #[.int .i64 ((2 * (j + 1) : Nat) : Int)] 3)) (Blk.alloc hrb _) (by omega) ((HA2.out.keep hk hR).on ((lowAlloc wr _).mono (HA2.out.keep hk hR).le)) hR (Or.inr ⟨2 * (j + 1), wr.heap.size, 0, rfl, rfl, by have := hk.size; have := HZ0.out; omega, hbk.cell 0⟩))
   have hk1 := hk.below (lowAlloc wr (Obj.cells #[.int .i64 ((2 * (j + 1) : Nat) : Int)] 3))
   clear hbk hk hrb
   go_wp2_with fail
   refine (aagLit_any j (by omega) wr).mono ?_
   rintro e w3 ⟨rfl, rfl⟩
   go_wp2_with fail
   refine HL.out.mono ?_
   intro e w3 hP
   unfold LinesP at hP
   cases hli : Ag.lineS s1 with
   | none =>
    rw [hli] at hP HOJ
    obtain ⟨rfl, hk2⟩ := hP
    have HE : Hid (o = .error 21) := HOJ.out
    exact ⟨rfl, by rw [HE.out]; exact ⟨rfl, HK0.out.trans (hk1.trans hk2)⟩⟩
   | some q =>
    obtain ⟨l, r1⟩ := q
    have hll := congrArg List.length (Ag.line_some hli).1
    simp at hll
    rw [hli] at hP HOJ
    simp only at hP HOJ
    cases hop : Ag.openS [2 * (j + 1)] l with
    | none =>
     rw [hop] at hP HOJ
     obtain ⟨rfl, hk2⟩ := hP
     have HE : Hid (o = .error 21) := HOJ.out
     exact ⟨rfl, by rw [HE.out]; exact ⟨rfl, HK0.out.trans (hk1.trans hk2)⟩⟩
    | some ms =>
     rw [hop] at hP HOJ
     simp only at hP
     match ms, hP, HOJ with
     | a :: t, hP, HOJ =>
      rw [if_neg (by simp)] at hP
      obtain ⟨rfl, hk2⟩ := hP
      have HE : Hid (o = .error 21) := HOJ.out
      exact ⟨rfl, by rw [HE.out]; exact ⟨rfl, HK0.out.trans (hk1.trans hk2)⟩⟩
     | [], hP, HOJ =>
      rw [if_pos (by simp)] at hP
      obtain ⟨g, off, c1, rfl, hg, hV, hrb2, hk2⟩ := hP
      have HON : Hid (o = ofB (bI m (Ag.insS (Ag.ge m 1 - (j + 1)) (j + 1) r1))) := HOJ.out
      clear HOJ HL hop hV hg
      go_wp2
      go_roundw
      case rel => exact ⟨j + 1, r1, by omega, by go_num, HON.out, by omega, hrb2, hk1.trans hk2⟩
      case measure => simp [intOf]; omega
  obtain rfl : j = Ag.ge m 1 := by omega
  have HO : Hid (o = ofB (bL m (Ag.latsS true (Ag.ge m 2) (Ag.ge m 1) s1))) := by
   unfold Hid
   rw [HOJ.out, Nat.sub_self]
   rfl
  have hH1 := hk.blkOf hH (by omega)
  have HHD := Lib.hid hH1
  have g2 := hH1.cell 2
  simp only [zD, zE, zF] at g2
  have HKW1 := Lib.hid (HK0.out.trans hk)
  have HAW1 := Lib.hid (HA2.out.keep hk hR)
  have hCw := hk.blkOf hC (by omega)
  have hRw := hk.blkOf hR2 (by omega)
  have hHw := hH1.cell 1
  simp only [zD, zE, zF] at hHw
  have hWs : H + 1 < wr.heap.size := hCw.lt
  have HKC : Hid (RKeep R W0 wr) := hk
  have hrbW := hrb
  clear HOJ hk hC hH hR2 HA2 HK0 hrb hH1
  go_wp2
  clear hHw g2
  generalize wr = W1 at *
  go_loopw [6, 7, 28] (fun _ _ i wr => ∃ (j : Nat) (ls : List (Int × Int)) (vL : Value) (s' : Ag.Bs), j ≤ Ag.ge m 2 ∧ ls.length = j ∧ i = .int .i64 (j : Int) ∧ o = ofB (bL m (latM ls (Ag.latsS true (Ag.ge m 2 - j) (Ag.ge m 1 + j) s'))) ∧ s'.length ≤ 20000 ∧ wr.ownsRow W1.heap.size 49 2 vL ls.length (flat ls) ∧ Blk wr (H + 1) 29 #[.int .i64 (Ag.ge m 1 : Nat), vL, .slice none 0 0, .slice none 0 0, .slice none 0 0, .slice none 0 0, .slice none 0 0, .slice none 0 0] ∧ RB wr R ⟨s'.toArray⟩ 21 ∧ RCKeep R (H + 1) W1 wr ∧ (∀ q ∈ ls, (0 ≤ q.1 ∧ q.1 ≤ 999999) ∧ 0 ≤ q.2 ∧ q.2 ≤ 2)) (fun _ _ i _ => Ag.ge m 2 - (intOf i).toNat)
  case atStart => exact ⟨0, [], .slice none 0 0, s1, Nat.zero_le _, rfl, rfl, by rw [latM_nil]; exact HO.out, hs1, World.ownsRow_nil _ _ _ _, hCw, hrbW, RCKeep.refl _ _ _, fun q hq => by cases hq⟩
  clear hrbW hCw HO hs1
  obtain ⟨j, ls, vL, s1, hj, hll, rfl, hoj, hs1, hrow, hC, hrb, hrk, hlb⟩ := hrel
  have HLB := Lib.hid hlb
  clear hlb
  have HOJ := Lib.hid hoj
  have HLL := Lib.hid hll
  clear hoj hll
  have hHw := hrk.blkOf HHD.out (by omega) (by omega)
  by_cases hlt : j < Ag.ge m 2
  ·
   have hjz : (j : Int) < (Ag.ge m 2 : Nat) := by omega
   have hjl : ls.length ≤ 2000 := by have := HLL.out; omega
   have HST : Hid (latM ls (Ag.latsS true (Ag.ge m 2 - j) (Ag.ge m 1 + j) s1) = match Ag.lineS s1 with | none => none | some (l, r) => match Ag.latS [2 * (Ag.ge m 1 + j + 1)] (2 * (Ag.ge m 1 + j + 1)) l with | none => none | some q => latM (ls ++ [q]) (Ag.latsS true (Ag.ge m 2 - (j + 1)) (Ag.ge m 1 + (j + 1)) r)) := by
    unfold Hid
    obtain ⟨k, hk⟩ : ∃ k, Ag.ge m 2 - j = k + 1 := ⟨Ag.ge m 2 - j - 1, by omega⟩
    rw [hk, lats_step, show Ag.ge m 2 - (j + 1) = k by omega]
    rfl
   rw [HST.out] at HOJ
   clear HST
   have ho1 : 2 ≤ 2 * (Ag.ge m 1 + j + 1) := by omega
   have ho2 : 2 * (Ag.ge m 1 + j + 1) ≤ 100000 := by omega
   have HLT : Hid (∀ w, Calls Tryz.prog 24 #[.int .i64 ((Ag.ge m 1 : Int) + (j : Int))] w fun e w' => e = .returned (.int .i64 ((2 * (Ag.ge m 1 + j + 1) : Nat) : Int)) ∧ w = w') := by
    intro w
    have := aagLit_any (Ag.ge m 1 + j) (by omega) w
    rwa [Int.natCast_add] at this
   generalize 2 * (Ag.ge m 1 + j + 1) = own at *
   have HCASE : Hid (∀ V e w9, LatchP R 21 V [own] own (Ag.lineS s1) e w9 → (e = faultE 21 ∧ Hid (o = .error 21) ∧ RKeep R V w9) ∨ (∃ (q : Int × Int) (r1 : Ag.Bs), e = .returned (.agg #[.int .i64 q.1, .int .i64 q.2]) ∧ RB w9 R ⟨r1.toArray⟩ 21 ∧ RKeep R V w9 ∧ r1.length ≤ 20000 ∧ Hid (∀ z ∈ ls ++ [q], (0 ≤ z.1 ∧ z.1 ≤ 999999) ∧ 0 ≤ z.2 ∧ z.2 ≤ 2) ∧ Hid (o = ofB (bL m (latM (ls ++ [q]) (Ag.latsS true (Ag.ge m 2 - (j + 1)) (Ag.ge m 1 + (j + 1)) r1)))))) := by
    intro V e w9 hP
    have HJ := HOJ.out
    unfold LatchP at hP
    cases hli : Ag.lineS s1 with
    | none =>
     rw [hli] at hP HJ
     exact Or.inl ⟨hP.1, HJ, hP.2⟩
    | some q =>
     obtain ⟨l, r1⟩ := q
     have hll := congrArg List.length (Ag.line_some hli).1
     simp at hll
     rw [hli] at hP HJ
     simp only at hP HJ
     cases hla : Ag.latS [own] own l with
     | none =>
      rw [hla] at hP HJ
      exact Or.inl ⟨hP.1, HJ, hP.2⟩
     | some q =>
      rw [hla] at hP HJ
      refine Or.inr ⟨q, r1, hP.1, hP.2.1, hP.2.2, by omega, fun z hz => ?_, HJ⟩
      rcases List.mem_append.1 hz with hz | hz
      ·
       exact HLB.out z hz
      simp at hz
      subst hz
      exact latS_le hla
   have HKW : Hid (∀ V w9, RCKeep R (H + 1) W1 V → RKeep R V w9 → RKeep R w w9) := fun V w9 k1 k2 => (HKW1.out.rc k1 (by omega)).trans k2
   have HAW : Hid (∀ V, RCKeep R (H + 1) W1 V → Amb B V) := fun V k1 => HAW1.out.on (k1.low HAW1.out.le hR (by omega))
   have g1 := hHw.cell 1
   have c1 := hC.cell 1
   simp only [zD, zE, zF] at g1 c1
   have hwR : R < wr.heap.size := Blk.lt hrb
   clear HOJ
   go_wp2_with fail
   refine (HLT.out wr).mono ?_
   rintro e w3 ⟨rfl, rfl⟩
   clear HLT g1 hHw
   go_upto_region 12 with fail
   replace c1 : wr.drew.cell? ⟨H + 1, 1, none⟩ = some vL := c1
   refine wp_region_held_drew (S := fun _ => True) (by kernel_rfl) trivial (fun hHeld => ?_)
   refine wpAnyH_take (i := 0) (oi := ⟨some 36, _, _, _, _, _⟩) (v := ?_) rfl (by kernel_rfl) (by kernel_rfl) (by kernel_rfl) (fun _ _ _ h => h) (Or.inl ⟨by rfl, ?_⟩) hHeld ?_
   rotate_left
   ·
    intro w hSw
    (try dsimp only at hSw)
    first | (go_simp; done) | (go_simp; with_reducible rfl) | with_reducible rfl
   try simp only [Act.put, zA, zB, zC]
   refine wpAnyH_take (i := 2) (oi := ⟨some 38, _, _, _, _, _⟩) (v := ?_) rfl (by kernel_rfl) (by kernel_rfl) (by kernel_rfl) (fun _ _ _ h => h) (Or.inl ⟨by rfl, ?_⟩) hHeld ?_
   rotate_left
   ·
    intro w hSw
    (try dsimp only at hSw)
    first | (go_simp; done) | (go_simp; with_reducible rfl) | with_reducible rfl
   try simp only [Act.put, zA, zB, zC]
   refine wpAnyH_take (i := 3) (oi := ⟨some 39, _, _, _, _, _⟩) (v := ?_) rfl (by kernel_rfl) (by kernel_rfl) (by kernel_rfl) (fun _ _ _ h => h) (Or.inl ⟨by rfl, ?_⟩) hHeld ?_
   rotate_left
   ·
    intro w hSw
    (try dsimp only at hSw)
    first | (go_simp; done) | (go_simp; with_reducible rfl) | with_reducible rfl
   try simp only [Act.put, zA, zB, zC]
   refine wpAnyH_take (i := 4) (oi := ⟨some 40, _, _, _, _, _⟩) (v := ?_) rfl (by kernel_rfl) (by kernel_rfl) (by kernel_rfl) (fun _ _ _ h => h) (Or.inl ⟨by rfl, ?_⟩) hHeld ?_
   rotate_left
   ·
    intro w hSw
    (try dsimp only at hSw)
    first | (go_simp; done) | (go_simp; with_reducible rfl) | with_reducible rfl
   try simp only [Act.put, zA, zB, zC]
   refine wpAnyH_ready (rs := [1, 5]) (by kernel_rfl) (by simp) ?_
   refine (AllReadyH.cons (o := ⟨some 37, _, _, _, _, _⟩) rfl (fun K hK => ?_) (AllReadyH.cons (o := ⟨some 41, _, _, _, _, _⟩) rfl (fun K hK => ?_) AllReadyH.nil))
   ·
    go_simp
    refine hK.out _ _ ?_ (fun hHeld => ?_)
    ·
     trivial
    clear hK K
    try simp only [Act.put, zA, zB, zC]
    refine wpAnyH_ready (rs := [5]) (by kernel_rfl) (by simp) ?_
    refine AllReadyH.cons (o := ⟨some 41, _, _, _, _, _⟩) rfl (fun K hK => ?_) AllReadyH.nil
    go_simp
    have hb1 := lowAlloc wr (Obj.cells #[.int .i64 (own : Int)] 3)
    have hbk : Blk (wr.alloc (Obj.cells #[.int .i64 (own : Int)] 3)).drew wr.heap.size 3 #[.int .i64 (own : Int)] := Blk.new wr 3 #[.int .i64 (own : Int)]
    replace hC : Blk (wr.alloc (Obj.cells #[.int .i64 (own : Int)] 3)).drew (H + 1) 29 #[.int .i64 (Ag.ge m 1 : Nat), vL, .slice none 0 0, .slice none 0 0, .slice none 0 0, .slice none 0 0, .slice none 0 0, .slice none 0 0] := hC.alloc (Obj.cells #[.int .i64 (own : Int)] 3)
    replace hrow : World.ownsRow (wr.alloc (Obj.cells #[.int .i64 (own : Int)] 3)).drew W1.heap.size 49 2 vL ls.length (flat ls) := World.ownsRow.alloc hrow (Obj.cells #[.int .i64 (own : Int)] 3)
    have hrb1 : RB (wr.alloc (Obj.cells #[.int .i64 (own : Int)] 3)).drew R ⟨s1.toArray⟩ 21 := Blk.alloc hrb (Obj.cells #[.int .i64 (own : Int)] 3)
    replace hrk : RCKeep R (H + 1) W1 (wr.alloc (Obj.cells #[.int .i64 (own : Int)] 3)).drew := (fun (k : RCKeep R (H + 1) W1 (wr.alloc (Obj.cells #[.int .i64 (own : Int)] 3))) => ⟨k.os, k.tape, k.output, k.size, k.blk⟩) (hrk.keep ((RKeep.refl R wr).below hb1))
    have HL := Lib.hid (rlatch_any R s1 21 B [own] (some ⟨wr.heap.size, 0, none⟩) 1 own ((wr.alloc (Obj.cells #[.int .i64 (own : Int)] 3)).drew) hrb1 (by omega) (HAW.out _ hrk) hR ho1 ho2 (Or.inr ⟨own, wr.heap.size, 0, rfl, rfl, (by omega), hbk.cell 0⟩))
    clear hbk hrb1 hb1
    generalize (wr.alloc (Obj.cells #[.int .i64 (own : Int)] 3)).drew = V1 at *
    replace c1 := hC.cell 1
    simp only [zD, zE, zF] at c1
    refine hK.out _ _ ?_ (fun hHeld => ?_)
    ·
     trivial
    clear hK K
    try simp only [Act.put, zA, zB, zC]
    refine wpAnyH_ready (rs := [6]) (by kernel_rfl) (by simp) ?_
    refine AllReadyH.cons (o := ⟨some 42, _, _, _, _, _⟩) rfl (fun K hK => ?_) AllReadyH.nil
    go_simp
    refine HL.out.mono ?_
    intro e w9 hP
    rcases HCASE.out V1 e w9 hP with ⟨rfl, HE, hk9⟩ | ⟨q, r1, rfl, hrb9, hk9, hr1, HLN, HON⟩
    ·
     exact ⟨rfl, by rw [HE.out]; exact ⟨rfl, HKW.out V1 w9 hrk hk9⟩⟩
    replace hC := hk9.blkOf hC (by omega)
    replace hrow := row_rkeep hrow hk9 (by omega)
    replace hrk := hrk.keep hk9
    clear HL hP hk9
    replace c1 := hC.cell 1
    simp only [zD, zE, zF] at c1
    refine hK.out _ _ ?_ (fun hHeld => ?_)
    ·
     trivial
    clear hK K
    try simp only [Act.put, zA, zB, zC]
    refine wpAnyH_ready (rs := [7]) (by kernel_rfl) (by simp) ?_
    refine AllReadyH.cons (o := ⟨some 43, _, _, _, _, _⟩) rfl (fun K hK => ?_) AllReadyH.nil
    go_simp
    have hb2 := lowAlloc w9 (Obj.cells #[.int .i64 q.1, .int .i64 q.2] 49)
    have hbk := Blk.new w9 49 #[.int .i64 q.1, .int .i64 q.2]
    replace hC := hC.alloc (Obj.cells #[.int .i64 q.1, .int .i64 q.2] 49)
    replace hrow := World.ownsRow.alloc hrow (Obj.cells #[.int .i64 q.1, .int .i64 q.2] 49)
    replace hrb9 : RB (w9.alloc (Obj.cells #[.int .i64 q.1, .int .i64 q.2] 49)) R ⟨r1.toArray⟩ 21 := Blk.alloc hrb9 (Obj.cells #[.int .i64 q.1, .int .i64 q.2] 49)
    replace hrk := hrk.keep ((RKeep.refl R w9).below hb2)
    clear hb2
    generalize w9.alloc (Obj.cells #[.int .i64 q.1, .int .i64 q.2] 49) = V9 at *
    replace c1 := hC.cell 1
    simp only [zD, zE, zF] at c1
    refine hK.out _ _ ?_ (fun hHeld => ?_)
    ·
     trivial
    clear hK K
    try simp only [Act.put, zA, zB, zC]
    refine wpAnyH_ready (rs := [8]) (by kernel_rfl) (by simp) ?_
    refine AllReadyH.cons (o := ⟨some 44, _, _, _, _, _⟩) rfl (fun K hK => ?_) AllReadyH.nil
    rw [if_pos (by rfl)]
    refine oper_app (.tmp 37) (.tmp 43) 24 rfl vL (.slice (some ⟨w9.heap.size, 0, none⟩) 1 1) rfl rfl (fun v' w' => w'.ownsRow W1.heap.size 49 2 v' (ls.length + 1) (flat ls ++ [.int .i64 q.1, .int .i64 q.2]) ∧ V9.grownBy w' vL.ownBlock) (fun ty => (by obtain ⟨v', w', r1, r2, r3, _⟩ := app_latch V9 W1.heap.size ty vL ls.length _ hrow w9.heap.size 1 q.1 q.2 hbk (by omega) hrk.size; exact ⟨v', w', r1, r2, r3⟩)) ?_
    intro v' w10 hR10
    obtain ⟨AL, cL, rfl⟩ := row_slice hR10.1
    have HRB := Lib.hid (row_base hrow)
    replace hC := hC.grown hR10.2 (fun e => by have := HRB.out _ e.symm; omega)
    replace hrb9 := hrb9.grown hR10.2 (fun e => by have := HRB.out _ e.symm; omega)
    replace hrk := hrk.grown hR10.2 (fun g e => HRB.out g e)
    have hrow10 := row_set hR10.1 (p := ⟨H + 1, 1, none⟩) (by simp only; omega) (.slice AL (ls.length + 1) cL)
    have hC10 := hC.put 1 (.slice AL (ls.length + 1) cL)
    simp only [List.setIfInBounds_toArray, List.set_cons_zero, List.set_cons_succ] at hC10
    have hrb10 := hrb9.far (p := ⟨H + 1, 1, none⟩) (by simp only; omega) (.slice AL (ls.length + 1) cL)
    have hrk10 := hrk.set (p := ⟨H + 1, 1, none⟩) rfl (.slice AL (ls.length + 1) cL)
    have f1 := hC.frozen 1
    replace c1 := hC.cell 1
    simp only [zD, zE, zF] at c1
    clear hrow hrk hrb9 hbk hR10
    refine hK.out _ _ ?_ (fun hHeld => ?_)
    ·
     trivial
    clear hK K
    try simp only [Act.put, zA, zB, zC]
    refine wpAnyH_take (i := 9) (oi := ⟨some 45, _, _, _, _, _⟩) (v := ?_) rfl (by kernel_rfl) (by kernel_rfl) (by kernel_rfl) (fun _ _ _ h => h) (Or.inl ⟨by rfl, ?_⟩) hHeld ?_
    rotate_left
    ·
     intro w hSw
     (try dsimp only at hSw)
     first | (go_simp; done) | (go_simp; with_reducible rfl) | with_reducible rfl
    try simp only [Act.put, zA, zB, zC]
    refine wpAnyH_ready (rs := [10]) (by kernel_rfl) (by simp) ?_
    refine AllReadyH.cons (o := ⟨none, _, _, _, _, _⟩) rfl (fun K hK => ?_) AllReadyH.nil
    go_simp
    refine hK.out _ _ ?_ (fun hHeld => ?_)
    ·
     trivial
    clear hK K
    try simp only [Act.put, zA, zB, zC]
    refine wpAnyH_done (by kernel_rfl) ?_ _
    go_wp2
    go_roundw
    case rel => exact ⟨j + 1, ls ++ [q], .slice AL (ls.length + 1) cL, r1, by omega, by simp [HLL.out], by go_num, HON.out, hr1, by rw [List.length_append, flat_append]; exact hrow10, hC10, hrb10, hrk10, HLN.out⟩
    case measure => simp [intOf]; omega
   go_simp
   have hb1 := lowAlloc wr (Obj.cells #[.int .i64 (own : Int)] 3)
   have hbk : Blk (wr.alloc (Obj.cells #[.int .i64 (own : Int)] 3)).drew wr.heap.size 3 #[.int .i64 (own : Int)] := Blk.new wr 3 #[.int .i64 (own : Int)]
   replace hC : Blk (wr.alloc (Obj.cells #[.int .i64 (own : Int)] 3)).drew (H + 1) 29 #[.int .i64 (Ag.ge m 1 : Nat), vL, .slice none 0 0, .slice none 0 0, .slice none 0 0, .slice none 0 0, .slice none 0 0, .slice none 0 0] := hC.alloc (Obj.cells #[.int .i64 (own : Int)] 3)
   replace hrow : World.ownsRow (wr.alloc (Obj.cells #[.int .i64 (own : Int)] 3)).drew W1.heap.size 49 2 vL ls.length (flat ls) := World.ownsRow.alloc hrow (Obj.cells #[.int .i64 (own : Int)] 3)
   have hrb1 : RB (wr.alloc (Obj.cells #[.int .i64 (own : Int)] 3)).drew R ⟨s1.toArray⟩ 21 := Blk.alloc hrb (Obj.cells #[.int .i64 (own : Int)] 3)
   replace hrk : RCKeep R (H + 1) W1 (wr.alloc (Obj.cells #[.int .i64 (own : Int)] 3)).drew := (fun (k : RCKeep R (H + 1) W1 (wr.alloc (Obj.cells #[.int .i64 (own : Int)] 3))) => ⟨k.os, k.tape, k.output, k.size, k.blk⟩) (hrk.keep ((RKeep.refl R wr).below hb1))
   have HL := Lib.hid (rlatch_any R s1 21 B [own] (some ⟨wr.heap.size, 0, none⟩) 1 own ((wr.alloc (Obj.cells #[.int .i64 (own : Int)] 3)).drew) hrb1 (by omega) (HAW.out _ hrk) hR ho1 ho2 (Or.inr ⟨own, wr.heap.size, 0, rfl, rfl, (by omega), hbk.cell 0⟩))
   clear hbk hrb1 hb1
   generalize (wr.alloc (Obj.cells #[.int .i64 (own : Int)] 3)).drew = V1 at *
   replace c1 := hC.cell 1
   simp only [zD, zE, zF] at c1
   refine hK.out _ _ ?_ (fun hHeld => ?_)
   ·
    trivial
   clear hK K
   try simp only [Act.put, zA, zB, zC]
   refine wpAnyH_ready (rs := [1, 6]) (by kernel_rfl) (by simp) ?_
   refine (AllReadyH.cons (o := ⟨some 37, _, _, _, _, _⟩) rfl (fun K hK => ?_) (AllReadyH.cons (o := ⟨some 42, _, _, _, _, _⟩) rfl (fun K hK => ?_) AllReadyH.nil))
   ·
    go_simp
    refine hK.out _ _ ?_ (fun hHeld => ?_)
    ·
     trivial
    clear hK K
    try simp only [Act.put, zA, zB, zC]
    refine wpAnyH_ready (rs := [6]) (by kernel_rfl) (by simp) ?_
    refine AllReadyH.cons (o := ⟨some 42, _, _, _, _, _⟩) rfl (fun K hK => ?_) AllReadyH.nil
    go_simp
    refine HL.out.mono ?_
    intro e w9 hP
    rcases HCASE.out V1 e w9 hP with ⟨rfl, HE, hk9⟩ | ⟨q, r1, rfl, hrb9, hk9, hr1, HLN, HON⟩
    ·
     exact ⟨rfl, by rw [HE.out]; exact ⟨rfl, HKW.out V1 w9 hrk hk9⟩⟩
    replace hC := hk9.blkOf hC (by omega)
    replace hrow := row_rkeep hrow hk9 (by omega)
    replace hrk := hrk.keep hk9
    clear HL hP hk9
    replace c1 := hC.cell 1
    simp only [zD, zE, zF] at c1
    refine hK.out _ _ ?_ (fun hHeld => ?_)
    ·
     trivial
    clear hK K
    try simp only [Act.put, zA, zB, zC]
    refine wpAnyH_ready (rs := [7]) (by kernel_rfl) (by simp) ?_
    refine AllReadyH.cons (o := ⟨some 43, _, _, _, _, _⟩) rfl (fun K hK => ?_) AllReadyH.nil
    go_simp
    have hb2 := lowAlloc w9 (Obj.cells #[.int .i64 q.1, .int .i64 q.2] 49)
    have hbk := Blk.new w9 49 #[.int .i64 q.1, .int .i64 q.2]
    replace hC := hC.alloc (Obj.cells #[.int .i64 q.1, .int .i64 q.2] 49)
    replace hrow := World.ownsRow.alloc hrow (Obj.cells #[.int .i64 q.1, .int .i64 q.2] 49)
    replace hrb9 : RB (w9.alloc (Obj.cells #[.int .i64 q.1, .int .i64 q.2] 49)) R ⟨r1.toArray⟩ 21 := Blk.alloc hrb9 (Obj.cells #[.int .i64 q.1, .int .i64 q.2] 49)
    replace hrk := hrk.keep ((RKeep.refl R w9).below hb2)
    clear hb2
    generalize w9.alloc (Obj.cells #[.int .i64 q.1, .int .i64 q.2] 49) = V9 at *
    replace c1 := hC.cell 1
    simp only [zD, zE, zF] at c1
    refine hK.out _ _ ?_ (fun hHeld => ?_)
    ·
     trivial
    clear hK K
    try simp only [Act.put, zA, zB, zC]
    refine wpAnyH_ready (rs := [8]) (by kernel_rfl) (by simp) ?_
    refine AllReadyH.cons (o := ⟨some 44, _, _, _, _, _⟩) rfl (fun K hK => ?_) AllReadyH.nil
    rw [if_pos (by rfl)]
    refine oper_app (.tmp 37) (.tmp 43) 24 rfl vL (.slice (some ⟨w9.heap.size, 0, none⟩) 1 1) rfl rfl (fun v' w' => w'.ownsRow W1.heap.size 49 2 v' (ls.length + 1) (flat ls ++ [.int .i64 q.1, .int .i64 q.2]) ∧ V9.grownBy w' vL.ownBlock) (fun ty => (by obtain ⟨v', w', r1, r2, r3, _⟩ := app_latch V9 W1.heap.size ty vL ls.length _ hrow w9.heap.size 1 q.1 q.2 hbk (by omega) hrk.size; exact ⟨v', w', r1, r2, r3⟩)) ?_
    intro v' w10 hR10
    obtain ⟨AL, cL, rfl⟩ := row_slice hR10.1
    have HRB := Lib.hid (row_base hrow)
    replace hC := hC.grown hR10.2 (fun e => by have := HRB.out _ e.symm; omega)
    replace hrb9 := hrb9.grown hR10.2 (fun e => by have := HRB.out _ e.symm; omega)
    replace hrk := hrk.grown hR10.2 (fun g e => HRB.out g e)
    have hrow10 := row_set hR10.1 (p := ⟨H + 1, 1, none⟩) (by simp only; omega) (.slice AL (ls.length + 1) cL)
    have hC10 := hC.put 1 (.slice AL (ls.length + 1) cL)
    simp only [List.setIfInBounds_toArray, List.set_cons_zero, List.set_cons_succ] at hC10
    have hrb10 := hrb9.far (p := ⟨H + 1, 1, none⟩) (by simp only; omega) (.slice AL (ls.length + 1) cL)
    have hrk10 := hrk.set (p := ⟨H + 1, 1, none⟩) rfl (.slice AL (ls.length + 1) cL)
    have f1 := hC.frozen 1
    replace c1 := hC.cell 1
    simp only [zD, zE, zF] at c1
    clear hrow hrk hrb9 hbk hR10
    refine hK.out _ _ ?_ (fun hHeld => ?_)
    ·
     trivial
    clear hK K
    try simp only [Act.put, zA, zB, zC]
    refine wpAnyH_take (i := 9) (oi := ⟨some 45, _, _, _, _, _⟩) (v := ?_) rfl (by kernel_rfl) (by kernel_rfl) (by kernel_rfl) (fun _ _ _ h => h) (Or.inl ⟨by rfl, ?_⟩) hHeld ?_
    rotate_left
    ·
     intro w hSw
     (try dsimp only at hSw)
     first | (go_simp; done) | (go_simp; with_reducible rfl) | with_reducible rfl
    try simp only [Act.put, zA, zB, zC]
    refine wpAnyH_ready (rs := [10]) (by kernel_rfl) (by simp) ?_
    refine AllReadyH.cons (o := ⟨none, _, _, _, _, _⟩) rfl (fun K hK => ?_) AllReadyH.nil
    go_simp
    refine hK.out _ _ ?_ (fun hHeld => ?_)
    ·
     trivial
    clear hK K
    try simp only [Act.put, zA, zB, zC]
    refine wpAnyH_done (by kernel_rfl) ?_ _
    go_wp2
    go_roundw
    case rel => exact ⟨j + 1, ls ++ [q], .slice AL (ls.length + 1) cL, r1, by omega, by simp [HLL.out], by go_num, HON.out, hr1, by rw [List.length_append, flat_append]; exact hrow10, hC10, hrb10, hrk10, HLN.out⟩
    case measure => simp [intOf]; omega
   go_simp
   refine HL.out.mono ?_
   intro e w9 hP
   rcases HCASE.out V1 e w9 hP with ⟨rfl, HE, hk9⟩ | ⟨q, r1, rfl, hrb9, hk9, hr1, HLN, HON⟩
   ·
    exact ⟨rfl, by rw [HE.out]; exact ⟨rfl, HKW.out V1 w9 hrk hk9⟩⟩
   replace hC := hk9.blkOf hC (by omega)
   replace hrow := row_rkeep hrow hk9 (by omega)
   replace hrk := hrk.keep hk9
   clear HL hP hk9
   replace c1 := hC.cell 1
   simp only [zD, zE, zF] at c1
   refine hK.out _ _ ?_ (fun hHeld => ?_)
   ·
    trivial
   clear hK K
   try simp only [Act.put, zA, zB, zC]
   refine wpAnyH_ready (rs := [1, 7]) (by kernel_rfl) (by simp) ?_
   refine (AllReadyH.cons (o := ⟨some 37, _, _, _, _, _⟩) rfl (fun K hK => ?_) (AllReadyH.cons (o := ⟨some 43, _, _, _, _, _⟩) rfl (fun K hK => ?_) AllReadyH.nil))
   ·
    go_simp
    refine hK.out _ _ ?_ (fun hHeld => ?_)
    ·
     trivial
    clear hK K
    try simp only [Act.put, zA, zB, zC]
    refine wpAnyH_ready (rs := [7]) (by kernel_rfl) (by simp) ?_
    refine AllReadyH.cons (o := ⟨some 43, _, _, _, _, _⟩) rfl (fun K hK => ?_) AllReadyH.nil
    go_simp
    have hb2 := lowAlloc w9 (Obj.cells #[.int .i64 q.1, .int .i64 q.2] 49)
    have hbk := Blk.new w9 49 #[.int .i64 q.1, .int .i64 q.2]
    replace hC := hC.alloc (Obj.cells #[.int .i64 q.1, .int .i64 q.2] 49)
    replace hrow := World.ownsRow.alloc hrow (Obj.cells #[.int .i64 q.1, .int .i64 q.2] 49)
    replace hrb9 : RB (w9.alloc (Obj.cells #[.int .i64 q.1, .int .i64 q.2] 49)) R ⟨r1.toArray⟩ 21 := Blk.alloc hrb9 (Obj.cells #[.int .i64 q.1, .int .i64 q.2] 49)
    replace hrk := hrk.keep ((RKeep.refl R w9).below hb2)
    clear hb2
    generalize w9.alloc (Obj.cells #[.int .i64 q.1, .int .i64 q.2] 49) = V9 at *
    replace c1 := hC.cell 1
    simp only [zD, zE, zF] at c1
    refine hK.out _ _ ?_ (fun hHeld => ?_)
    ·
     trivial
    clear hK K
    try simp only [Act.put, zA, zB, zC]
    refine wpAnyH_ready (rs := [8]) (by kernel_rfl) (by simp) ?_
    refine AllReadyH.cons (o := ⟨some 44, _, _, _, _, _⟩) rfl (fun K hK => ?_) AllReadyH.nil
    rw [if_pos (by rfl)]
    refine oper_app (.tmp 37) (.tmp 43) 24 rfl vL (.slice (some ⟨w9.heap.size, 0, none⟩) 1 1) rfl rfl (fun v' w' => w'.ownsRow W1.heap.size 49 2 v' (ls.length + 1) (flat ls ++ [.int .i64 q.1, .int .i64 q.2]) ∧ V9.grownBy w' vL.ownBlock) (fun ty => (by obtain ⟨v', w', r1, r2, r3, _⟩ := app_latch V9 W1.heap.size ty vL ls.length _ hrow w9.heap.size 1 q.1 q.2 hbk (by omega) hrk.size; exact ⟨v', w', r1, r2, r3⟩)) ?_
    intro v' w10 hR10
    obtain ⟨AL, cL, rfl⟩ := row_slice hR10.1
    have HRB := Lib.hid (row_base hrow)
    replace hC := hC.grown hR10.2 (fun e => by have := HRB.out _ e.symm; omega)
    replace hrb9 := hrb9.grown hR10.2 (fun e => by have := HRB.out _ e.symm; omega)
    replace hrk := hrk.grown hR10.2 (fun g e => HRB.out g e)
    have hrow10 := row_set hR10.1 (p := ⟨H + 1, 1, none⟩) (by simp only; omega) (.slice AL (ls.length + 1) cL)
    have hC10 := hC.put 1 (.slice AL (ls.length + 1) cL)
    simp only [List.setIfInBounds_toArray, List.set_cons_zero, List.set_cons_succ] at hC10
    have hrb10 := hrb9.far (p := ⟨H + 1, 1, none⟩) (by simp only; omega) (.slice AL (ls.length + 1) cL)
    have hrk10 := hrk.set (p := ⟨H + 1, 1, none⟩) rfl (.slice AL (ls.length + 1) cL)
    have f1 := hC.frozen 1
    replace c1 := hC.cell 1
    simp only [zD, zE, zF] at c1
    clear hrow hrk hrb9 hbk hR10
    refine hK.out _ _ ?_ (fun hHeld => ?_)
    ·
     trivial
    clear hK K
    try simp only [Act.put, zA, zB, zC]
    refine wpAnyH_take (i := 9) (oi := ⟨some 45, _, _, _, _, _⟩) (v := ?_) rfl (by kernel_rfl) (by kernel_rfl) (by kernel_rfl) (fun _ _ _ h => h) (Or.inl ⟨by rfl, ?_⟩) hHeld ?_
    rotate_left
    ·
     intro w hSw
     (try dsimp only at hSw)
     first | (go_simp; done) | (go_simp; with_reducible rfl) | with_reducible rfl
    try simp only [Act.put, zA, zB, zC]
    refine wpAnyH_ready (rs := [10]) (by kernel_rfl) (by simp) ?_
    refine AllReadyH.cons (o := ⟨none, _, _, _, _, _⟩) rfl (fun K hK => ?_) AllReadyH.nil
    go_simp
    refine hK.out _ _ ?_ (fun hHeld => ?_)
    ·
     trivial
    clear hK K
    try simp only [Act.put, zA, zB, zC]
    refine wpAnyH_done (by kernel_rfl) ?_ _
    go_wp2
    go_roundw
    case rel => exact ⟨j + 1, ls ++ [q], .slice AL (ls.length + 1) cL, r1, by omega, by simp [HLL.out], by go_num, HON.out, hr1, by rw [List.length_append, flat_append]; exact hrow10, hC10, hrb10, hrk10, HLN.out⟩
    case measure => simp [intOf]; omega
   go_simp
   have hb2 := lowAlloc w9 (Obj.cells #[.int .i64 q.1, .int .i64 q.2] 49)
   have hbk := Blk.new w9 49 #[.int .i64 q.1, .int .i64 q.2]
   replace hC := hC.alloc (Obj.cells #[.int .i64 q.1, .int .i64 q.2] 49)
   replace hrow := World.ownsRow.alloc hrow (Obj.cells #[.int .i64 q.1, .int .i64 q.2] 49)
   replace hrb9 : RB (w9.alloc (Obj.cells #[.int .i64 q.1, .int .i64 q.2] 49)) R ⟨r1.toArray⟩ 21 := Blk.alloc hrb9 (Obj.cells #[.int .i64 q.1, .int .i64 q.2] 49)
   replace hrk := hrk.keep ((RKeep.refl R w9).below hb2)
   clear hb2
   generalize w9.alloc (Obj.cells #[.int .i64 q.1, .int .i64 q.2] 49) = V9 at *
   replace c1 := hC.cell 1
   simp only [zD, zE, zF] at c1
   refine hK.out _ _ ?_ (fun hHeld => ?_)
   ·
    trivial
   clear hK K
   try simp only [Act.put, zA, zB, zC]
   refine wpAnyH_ready (rs := [1]) (by kernel_rfl) (by simp) ?_
   refine AllReadyH.cons (o := ⟨some 37, _, _, _, _, _⟩) rfl (fun K hK => ?_) AllReadyH.nil
   go_simp
   refine hK.out _ _ ?_ (fun hHeld => ?_)
   ·
    trivial
   clear hK K
   try simp only [Act.put, zA, zB, zC]
   refine wpAnyH_ready (rs := [8]) (by kernel_rfl) (by simp) ?_
   refine AllReadyH.cons (o := ⟨some 44, _, _, _, _, _⟩) rfl (fun K hK => ?_) AllReadyH.nil
   rw [if_pos (by rfl)]
   refine oper_app (.tmp 37) (.tmp 43) 24 rfl vL (.slice (some ⟨w9.heap.size, 0, none⟩) 1 1) rfl rfl (fun v' w' => w'.ownsRow W1.heap.size 49 2 v' (ls.length + 1) (flat ls ++ [.int .i64 q.1, .int .i64 q.2]) ∧ V9.grownBy w' vL.ownBlock) (fun ty => (by obtain ⟨v', w', r1, r2, r3, _⟩ := app_latch V9 W1.heap.size ty vL ls.length _ hrow w9.heap.size 1 q.1 q.2 hbk (by omega) hrk.size; exact ⟨v', w', r1, r2, r3⟩)) ?_
   intro v' w10 hR10
   obtain ⟨AL, cL, rfl⟩ := row_slice hR10.1
   have HRB := Lib.hid (row_base hrow)
   replace hC := hC.grown hR10.2 (fun e => by have := HRB.out _ e.symm; omega)
   replace hrb9 := hrb9.grown hR10.2 (fun e => by have := HRB.out _ e.symm; omega)
   replace hrk := hrk.grown hR10.2 (fun g e => HRB.out g e)
   have hrow10 := row_set hR10.1 (p := ⟨H + 1, 1, none⟩) (by simp only; omega) (.slice AL (ls.length + 1) cL)
   have hC10 := hC.put 1 (.slice AL (ls.length + 1) cL)
   simp only [List.setIfInBounds_toArray, List.set_cons_zero, List.set_cons_succ] at hC10
   have hrb10 := hrb9.far (p := ⟨H + 1, 1, none⟩) (by simp only; omega) (.slice AL (ls.length + 1) cL)
   have hrk10 := hrk.set (p := ⟨H + 1, 1, none⟩) rfl (.slice AL (ls.length + 1) cL)
   have f1 := hC.frozen 1
   replace c1 := hC.cell 1
   simp only [zD, zE, zF] at c1
   clear hrow hrk hrb9 hbk hR10
   refine hK.out _ _ ?_ (fun hHeld => ?_)
   ·
    trivial
   clear hK K
   try simp only [Act.put, zA, zB, zC]
   refine wpAnyH_take (i := 9) (oi := ⟨some 45, _, _, _, _, _⟩) (v := ?_) rfl (by kernel_rfl) (by kernel_rfl) (by kernel_rfl) (fun _ _ _ h => h) (Or.inl ⟨by rfl, ?_⟩) hHeld ?_
   rotate_left
   ·
    intro w hSw
    (try dsimp only at hSw)
    first | (go_simp; done) | (go_simp; with_reducible rfl) | with_reducible rfl
   try simp only [Act.put, zA, zB, zC]
   refine wpAnyH_ready (rs := [10]) (by kernel_rfl) (by simp) ?_
   refine AllReadyH.cons (o := ⟨none, _, _, _, _, _⟩) rfl (fun K hK => ?_) AllReadyH.nil
   go_simp
   refine hK.out _ _ ?_ (fun hHeld => ?_)
   ·
    trivial
   clear hK K
   try simp only [Act.put, zA, zB, zC]
   refine wpAnyH_done (by kernel_rfl) ?_ _
   go_wp2
   go_roundw
   case rel => exact ⟨j + 1, ls ++ [q], .slice AL (ls.length + 1) cL, r1, by omega, by simp [HLL.out], by go_num, HON.out, hr1, by rw [List.length_append, flat_append]; exact hrow10, hC10, hrb10, hrk10, HLN.out⟩
   case measure => simp [intOf]; omega
  obtain rfl : j = Ag.ge m 2 := by omega
  have HO2 : Hid (o = ofB (bS m ls s1)) := by
   unfold Hid
   rw [HOJ.out, Nat.sub_self, lats_zero]
   rfl
  have b3 := ge_of_all hm2 3
  have b5 := ge_of_all hm2 5
  have b6 := ge_of_all hm2 6
  have b8 := ge_of_all hm2 8
  have HSG := Lib.hid (rsignals_any R (H + 1) s1 21 B (Ag.ge m 0) (Ag.ge m 1) (Ag.ge m 2) (Ag.ge m 3) (Ag.ge m 4) (Ag.ge m 5) (Ag.ge m 6) (Ag.ge m 7) (Ag.ge m 8) _ _ _ _ _ _ _ _ wr hrb (by omega) (HAW1.out.on (hrk.low HAW1.out.le hR (by omega))) hR (by omega) (by omega) hC b3 b5 b6 b8)
  have HSE : Hid (∀ r, Ag.sigsS [Ag.ge m 0, Ag.ge m 1, Ag.ge m 2, Ag.ge m 3, Ag.ge m 4, Ag.ge m 5, Ag.ge m 6, Ag.ge m 7, Ag.ge m 8] r = Ag.sigsS m r) := fun r => rfl
  rw [HSE.out] at HSG
  have HKW2 : Hid (RKeep R w wr) := HKW1.out.rc hrk (by omega)
  have HAW2 : Hid (Amb B wr) := HAW1.out.on (hrk.low HAW1.out.le hR (by omega))
  obtain ⟨AL, cL, rfl⟩ := row_slice hrow
  have hh0 := hHw.cell 0
  have hh1 := hHw.cell 1
  have hh2 := hHw.cell 2
  have hh3 := hHw.cell 3
  have hh4 := hHw.cell 4
  have hh5 := hHw.cell 5
  have hh6 := hHw.cell 6
  have hh7 := hHw.cell 7
  have hh8 := hHw.cell 8
  simp only [zD, zE, zF] at hh0 hh1 hh2 hh3 hh4 hh5 hh6 hh7 hh8
  have hws := hrk.size
  clear hC HOJ hrb
  go_wp2_with fail
  clear hh0 hh1 hh2 hh3 hh4 hh5 hh6 hh7 hh8
  refine HSG.out.mono ?_
  intro e w3 hP
  unfold SigsP at hP
  cases hsg : Ag.sigsS m s1 with
  | none =>
   rw [hsg] at hP
   obtain ⟨rfl, hk3⟩ := hP
   have HE : Hid (o = .error 21) := by
    unfold Hid
    rw [HO2.out]
    unfold bS
    rw [hsg]
    rfl
   exact ⟨rfl, by rw [HE.out]; exact ⟨rfl, HKW2.out.rc hk3 (by omega)⟩⟩
  | some q =>
   obtain ⟨⟨os, bs, cs, fs⟩, r3⟩ := q
   have HSM := Lib.hid (sigs_small hm2 hsg)
   have hr3 := HSM.out.2.2
   rw [hsg] at hP
   simp only at hP
   obtain ⟨vO, vB, vC, vF, rfl, hC, hnO, hnB, hnC, hnF, hrb, hk3⟩ := hP
   have HO3 : Hid (o = ofB (bG m ls (os, bs, cs, fs) (Ag.gatS (Ag.ge m 4) (Ag.ge m 1 + Ag.ge m 2) r3))) := by
    unfold Hid
    rw [HO2.out]
    unfold bS
    rw [hsg]
   replace hrow := row_rc hrow hk3 (by omega) (by omega)
   have HKW3 : Hid (RKeep R w w3) := HKW2.out.rc hk3 (by omega)
   have HAW3 : Hid (Amb B w3) := HAW2.out.on (hk3.low HAW2.out.le hR (by omega))
   have HHD3 : Hid (Blk w3 H 87 #[.int .i64 (Ag.ge m 0 : Nat), .int .i64 (Ag.ge m 1 : Nat), .int .i64 (Ag.ge m 2 : Nat), .int .i64 (Ag.ge m 3 : Nat), .int .i64 (Ag.ge m 4 : Nat), .int .i64 (Ag.ge m 5 : Nat), .int .i64 (Ag.ge m 6 : Nat), .int .i64 (Ag.ge m 7 : Nat), .int .i64 (Ag.ge m 8 : Nat)]) := hk3.blkOf hHw (by omega) (by omega)
   have HRD3 : Hid (Blk w3 w.heap.size 29 #[.int .i64 0, .slice none 0 0, .slice none 0 0, .slice none 0 0, .slice none 0 0, .slice none 0 0, .slice none 0 0, .slice none 0 0]) := hk3.blkOf (hrk.blkOf hRw (by omega) (by omega)) (by omega) (by omega)
   have HWZ : Hid (W1.heap.size ≤ wr.heap.size) := hws
   have h3s := hk3.size
   obtain ⟨AO, cO, rfl, _, _⟩ := id hnO
   obtain ⟨AB, cB, rfl, _, _⟩ := id hnB
   obtain ⟨AC, cC, rfl, _, _⟩ := id hnC
   obtain ⟨AF, cF, rfl, _, _⟩ := id hnF
   have hh4 := HHD3.out.cell 4
   simp only [zD, zE, zF] at hh4
   clear hsg HSE HSG hHw hrk hk3
   go_wp2
   clear hh4
   have HRK3 := Lib.hid (RCKeep.refl R (H + 1) w3)
   go_loopw [8, 9, 52] (fun _ _ i wr => ∃ (j : Nat) (gs : List (Int × Int)) (vG : Value) (s' : Ag.Bs), j ≤ Ag.ge m 4 ∧ gs.length = j ∧ i = .int .i64 (j : Int) ∧ o = ofB (bG m ls (os, bs, cs, fs) (latM gs (Ag.gatS (Ag.ge m 4 - j) (Ag.ge m 1 + Ag.ge m 2 + j) s'))) ∧ s'.length ≤ 20000 ∧ wr.ownsRow w3.heap.size 57 2 vG gs.length (flat gs) ∧ Blk wr (H + 1) 29 #[.int .i64 (Ag.ge m 1 : Nat), .slice AL ls.length cL, vG, .slice AO os.length cO, .slice AB bs.length cB, .slice AC cs.length cC, .slice AF fs.length cF, .slice none 0 0] ∧ RB wr R ⟨s'.toArray⟩ 21 ∧ RCKeep R (H + 1) w3 wr ∧ (∀ q ∈ gs, (0 ≤ q.1 ∧ q.1 ≤ 999999) ∧ 0 ≤ q.2 ∧ q.2 ≤ 999999)) (fun _ _ i _ => Ag.ge m 4 - (intOf i).toNat)
   case atStart => exact ⟨0, [], .slice none 0 0, r3, Nat.zero_le _, rfl, rfl, by rw [latM_nil]; exact HO3.out, by omega, World.ownsRow_nil _ _ _ _, hC, hrb, HRK3.out, fun q hq => by cases hq⟩
   clear hrb hC HO3 hs1
   obtain ⟨j, gs, vG, s1, hj, hgl, rfl, hoj, hs1, hrow3, hC, hrb, hrk, hgb⟩ := hrel
   have HGB := Lib.hid hgb
   have HOJ := Lib.hid hoj
   have HGL := Lib.hid hgl
   clear hoj hgl hgb
   have hHw := hrk.blkOf HHD3.out (by omega) (by omega)
   by_cases hlt : j < Ag.ge m 4
   ·
    have hjz : (j : Int) < (Ag.ge m 4 : Nat) := by omega
    have hjl : gs.length ≤ 2000 := by have := HGL.out; omega
    have HST : Hid (latM gs (Ag.gatS (Ag.ge m 4 - j) (Ag.ge m 1 + Ag.ge m 2 + j) s1) = match Ag.lineS s1 with | none => none | some (l, r) => match Ag.openS [2 * (Ag.ge m 1 + Ag.ge m 2 + j + 1)] l with | some [a, b] => latM (gs ++ [((a : Int), (b : Int))]) (Ag.gatS (Ag.ge m 4 - (j + 1)) (Ag.ge m 1 + Ag.ge m 2 + (j + 1)) r) | _ => none) := by
     unfold Hid
     obtain ⟨k, hk⟩ : ∃ k, Ag.ge m 4 - j = k + 1 := ⟨Ag.ge m 4 - j - 1, by omega⟩
     rw [hk, gats_step, show Ag.ge m 4 - (j + 1) = k by omega]
     rfl
    rw [HST.out] at HOJ
    clear HST
    have HLT : Hid (∀ w, Calls Tryz.prog 24 #[.int .i64 ((Ag.ge m 1 : Int) + (Ag.ge m 2 : Int) + (j : Int))] w fun e w' => e = .returned (.int .i64 ((2 * (Ag.ge m 1 + Ag.ge m 2 + j + 1) : Nat) : Int)) ∧ w = w') := by
     intro w
     have := aagLit_any (Ag.ge m 1 + Ag.ge m 2 + j) (by omega) w
     rwa [Int.natCast_add, Int.natCast_add] at this
    generalize 2 * (Ag.ge m 1 + Ag.ge m 2 + j + 1) = own at *
    have hbk1 := Blk.new wr 3 #[.int .i64 (own : Int)]
    have hb1 := lowAlloc wr (Obj.cells #[.int .i64 (own : Int)] 3)
    have HAW4 : Amb B wr := HAW3.out.on (hrk.low HAW3.out.le hR (by omega))
    have hwR : R < wr.heap.size := Blk.lt hrb
    have HL := Lib.hid (rline_any R s1 21 B [own] (some ⟨wr.heap.size, 0, none⟩) 1 2 (wr.alloc (Obj.cells #[.int .i64 (own : Int)] 3)) (Blk.alloc hrb _) (by omega) (HAW4.on (hb1.mono HAW4.le)) hR (Or.inr ⟨own, wr.heap.size, 0, rfl, rfl, by omega, hbk1.cell 0⟩))
    have hk1 : RKeep R wr (wr.alloc (Obj.cells #[.int .i64 (own : Int)] 3)) := (RKeep.refl R wr).below hb1
    have g1 := hHw.cell 1
    have g2 := hHw.cell 2
    simp only [zD, zE, zF] at g1 g2
    clear hbk1 hb1 hrb HAW4
    go_wp2_with fail
    refine (HLT.out wr).mono ?_
    rintro e w8 ⟨rfl, rfl⟩
    clear HLT g1 g2 hHw
    go_wp2_with fail
    refine HL.out.mono ?_
    intro e w9 hP
    unfold LinesP at hP
    cases hli : Ag.lineS s1 with
    | none =>
     rw [hli] at hP HOJ
     obtain ⟨rfl, hk2⟩ := hP
     have HE : Hid (o = .error 21) := HOJ.out
     exact ⟨rfl, by rw [HE.out]; exact ⟨rfl, (HKW3.out.rc hrk (by omega)).trans (hk1.trans hk2)⟩⟩
    | some q =>
     obtain ⟨l, r1⟩ := q
     have hll := congrArg List.length (Ag.line_some hli).1
     simp at hll
     rw [hli] at hP HOJ
     simp only at hP HOJ
     cases hop : Ag.openS [own] l with
     | none =>
      rw [hop] at hP HOJ
      obtain ⟨rfl, hk2⟩ := hP
      have HE : Hid (o = .error 21) := HOJ.out
      exact ⟨rfl, by rw [HE.out]; exact ⟨rfl, (HKW3.out.rc hrk (by omega)).trans (hk1.trans hk2)⟩⟩
     | some ms =>
      have hms := Ag.open_small hop
      rw [hop] at hP HOJ
      simp only at hP
      match ms, hms, hP, HOJ with
      | [], _, hP, HOJ =>
       rw [if_neg (by simp)] at hP
       obtain ⟨rfl, hk2⟩ := hP
       have HE : Hid (o = .error 21) := HOJ.out
       exact ⟨rfl, by rw [HE.out]; exact ⟨rfl, (HKW3.out.rc hrk (by omega)).trans (hk1.trans hk2)⟩⟩
      | [a], _, hP, HOJ =>
       rw [if_neg (by simp)] at hP
       obtain ⟨rfl, hk2⟩ := hP
       have HE : Hid (o = .error 21) := HOJ.out
       exact ⟨rfl, by rw [HE.out]; exact ⟨rfl, (HKW3.out.rc hrk (by omega)).trans (hk1.trans hk2)⟩⟩
      | a :: b :: d :: t, _, hP, HOJ =>
       rw [if_neg (by simp)] at hP
       obtain ⟨rfl, hk2⟩ := hP
       have HE : Hid (o = .error 21) := HOJ.out
       exact ⟨rfl, by rw [HE.out]; exact ⟨rfl, (HKW3.out.rc hrk (by omega)).trans (hk1.trans hk2)⟩⟩
      | [a, b], hms, hP, HOJ =>
       rw [if_pos (by simp)] at hP
       obtain ⟨g, off, c1, rfl, hg, hVV, hrb9, hk2⟩ := hP
       have HON : Hid (o = ofB (bG m ls (os, bs, cs, fs) (latM (gs ++ [((a : Int), (b : Int))]) (Ag.gatS (Ag.ge m 4 - (j + 1)) (Ag.ge m 1 + Ag.ge m 2 + (j + 1)) r1)))) := HOJ.out
       have hma := hms a (by simp)
       have hmb := hms b (by simp)
       have HGN : Hid (∀ q ∈ gs ++ [((a : Int), (b : Int))], (0 ≤ q.1 ∧ q.1 ≤ 999999) ∧ 0 ≤ q.2 ∧ q.2 ≤ 999999) := by
        intro z hz
        rcases List.mem_append.1 hz with hz | hz
        ·
         exact HGB.out z hz
        simp at hz
        subst hz
        simp
        omega
       have ga := (vs_at hVV 0 (by simp)).1
       have gb := (vs_at hVV 1 (by simp)).1
       simp only [Nat.add_zero, List.getElem_cons_zero, List.getElem_cons_succ] at ga gb
       have hkt := hk1.trans hk2
       replace hC := hkt.blkOf hC (by omega)
       replace hrow3 := row_rkeep hrow3 hkt (by omega)
       replace hrk := hrk.keep hkt
       have c2 := hC.cell 2
       simp only [zD, zE, zF] at c2
       clear HOJ HL hop hVV hg hk1 hk2 hkt hms
       go_upto_region 19 with fail
       refine wp_region_held_drew (S := fun _ => True) (by kernel_rfl) trivial (fun hHeld => ?_)
       refine wpAnyH_take (i := 0) (oi := ⟨some 66, _, _, _, _, _⟩) (v := ?_) rfl (by kernel_rfl) (by kernel_rfl) (by kernel_rfl) (fun _ _ _ h => h) (Or.inl ⟨by rfl, ?_⟩) hHeld ?_
       rotate_left
       ·
        intro w hSw
        (try dsimp only at hSw)
        first | (go_simp; done) | (go_simp; with_reducible rfl) | with_reducible rfl
       try simp only [Act.put, zA, zB, zC]
       refine wpAnyH_take (i := 2) (oi := ⟨some 68, _, _, _, _, _⟩) (v := ?_) rfl (by kernel_rfl) (by kernel_rfl) (by kernel_rfl) (fun _ _ _ h => h) (Or.inl ⟨by rfl, ?_⟩) hHeld ?_
       rotate_left
       ·
        intro w hSw
        (try dsimp only at hSw)
        first | (go_simp; done) | (go_simp; with_reducible rfl) | with_reducible rfl
       try simp only [Act.put, zA, zB, zC]
       refine wpAnyH_take (i := 3) (oi := ⟨some 69, _, _, _, _, _⟩) (v := ?_) rfl (by kernel_rfl) (by kernel_rfl) (by kernel_rfl) (fun _ _ _ h => h) (Or.inl ⟨by rfl, ?_⟩) hHeld ?_
       rotate_left
       ·
        intro w hSw
        (try dsimp only at hSw)
        first | (go_simp; done) | (go_simp; with_reducible rfl) | with_reducible rfl
       try simp only [Act.put, zA, zB, zC]
       refine wpAnyH_take (i := 5) (oi := ⟨some 71, _, _, _, _, _⟩) (v := ?_) rfl (by kernel_rfl) (by kernel_rfl) (by kernel_rfl) (fun _ _ _ h => h) (Or.inl ⟨by rfl, ?_⟩) hHeld ?_
       rotate_left
       ·
        intro w hSw
        (try dsimp only at hSw)
        first | (go_simp; done) | (go_simp; with_reducible rfl) | with_reducible rfl
       try simp only [Act.put, zA, zB, zC]
       refine wpAnyH_take (i := 6) (oi := ⟨some 72, _, _, _, _, _⟩) (v := ?_) rfl (by kernel_rfl) (by kernel_rfl) (by kernel_rfl) (fun _ _ _ h => h) (Or.inl ⟨by rfl, ?_⟩) hHeld ?_
       rotate_left
       ·
        intro w hSw
        (try dsimp only at hSw)
        first | (go_simp; done) | (go_simp; with_reducible rfl) | with_reducible rfl
       try simp only [Act.put, zA, zB, zC]
       refine wpAnyH_ready (rs := [1, 4, 7]) (by kernel_rfl) (by simp) ?_
       refine (AllReadyH.cons (o := ⟨some 67, _, _, _, _, _⟩) rfl (fun K hK => ?_) (AllReadyH.cons (o := ⟨some 70, _, _, _, _, _⟩) rfl (fun K hK => ?_) (AllReadyH.cons (o := ⟨some 73, _, _, _, _, _⟩) rfl (fun K hK => ?_) AllReadyH.nil)))
       ·
        go_simp
        refine hK.out _ _ ?_ (fun hHeld => ?_)
        ·
         trivial
        clear hK K
        try simp only [Act.put, zA, zB, zC]
        refine wpAnyH_ready (rs := [4, 7]) (by kernel_rfl) (by simp) ?_
        refine (AllReadyH.cons (o := ⟨some 70, _, _, _, _, _⟩) rfl (fun K hK => ?_) (AllReadyH.cons (o := ⟨some 73, _, _, _, _, _⟩) rfl (fun K hK => ?_) AllReadyH.nil))
        ·
         go_simp
         refine hK.out _ _ ?_ (fun hHeld => ?_)
         ·
          trivial
         clear hK K
         try simp only [Act.put, zA, zB, zC]
         refine wpAnyH_ready (rs := [7]) (by kernel_rfl) (by simp) ?_
         refine AllReadyH.cons (o := ⟨some 73, _, _, _, _, _⟩) rfl (fun K hK => ?_) AllReadyH.nil
         go_simp
         refine hK.out _ _ ?_ (fun hHeld => ?_)
         ·
          trivial
         clear hK K
         try simp only [Act.put, zA, zB, zC]
         refine wpAnyH_take (i := 8) (oi := ⟨some 74, _, _, _, _, _⟩) (v := ?_) rfl (by kernel_rfl) (by kernel_rfl) (by kernel_rfl) (fun _ _ _ h => h) (Or.inl ⟨by rfl, ?_⟩) hHeld ?_
         rotate_left
         ·
          intro w hSw
          (try dsimp only at hSw)
          first | (go_simp; done) | (go_simp; with_reducible rfl) | with_reducible rfl
         try simp only [Act.put, zA, zB, zC]
         refine wpAnyH_ready (rs := [9]) (by kernel_rfl) (by simp) ?_
         refine AllReadyH.cons (o := ⟨some 75, _, _, _, _, _⟩) rfl (fun K hK => ?_) AllReadyH.nil
         go_simp
         have hb2 := lowAlloc w9 (Obj.cells #[.int .i64 (a : Int), .int .i64 (b : Int)] 57)
         have hbk : Blk (w9.alloc (Obj.cells #[.int .i64 (a : Int), .int .i64 (b : Int)] 57)).drew w9.heap.size 57 #[.int .i64 (a : Int), .int .i64 (b : Int)] := Blk.new w9 57 #[.int .i64 (a : Int), .int .i64 (b : Int)]
         replace hC : Blk (w9.alloc (Obj.cells #[.int .i64 (a : Int), .int .i64 (b : Int)] 57)).drew (H + 1) 29 #[.int .i64 (Ag.ge m 1 : Nat), .slice AL ls.length cL, vG, .slice AO os.length cO, .slice AB bs.length cB, .slice AC cs.length cC, .slice AF fs.length cF, .slice none 0 0] := hC.alloc (Obj.cells #[.int .i64 (a : Int), .int .i64 (b : Int)] 57)
         replace hrow3 : World.ownsRow (w9.alloc (Obj.cells #[.int .i64 (a : Int), .int .i64 (b : Int)] 57)).drew w3.heap.size 57 2 vG gs.length (flat gs) := World.ownsRow.alloc hrow3 (Obj.cells #[.int .i64 (a : Int), .int .i64 (b : Int)] 57)
         replace hrb9 : RB (w9.alloc (Obj.cells #[.int .i64 (a : Int), .int .i64 (b : Int)] 57)).drew R ⟨r1.toArray⟩ 21 := Blk.alloc hrb9 (Obj.cells #[.int .i64 (a : Int), .int .i64 (b : Int)] 57)
         replace hrk : RCKeep R (H + 1) w3 (w9.alloc (Obj.cells #[.int .i64 (a : Int), .int .i64 (b : Int)] 57)).drew := (fun (k : RCKeep R (H + 1) w3 (w9.alloc (Obj.cells #[.int .i64 (a : Int), .int .i64 (b : Int)] 57))) => ⟨k.os, k.tape, k.output, k.size, k.blk⟩) (hrk.keep ((RKeep.refl R w9).below hb2))
         clear hb2
         generalize (w9.alloc (Obj.cells #[.int .i64 (a : Int), .int .i64 (b : Int)] 57)).drew = V9 at *
         replace c2 := hC.cell 2
         simp only [zD, zE, zF] at c2
         refine hK.out _ _ ?_ (fun hHeld => ?_)
         ·
          trivial
         clear hK K
         try simp only [Act.put, zA, zB, zC]
         refine wpAnyH_ready (rs := [10]) (by kernel_rfl) (by simp) ?_
         refine AllReadyH.cons (o := ⟨some 76, _, _, _, _, _⟩) rfl (fun K hK => ?_) AllReadyH.nil
         rw [if_pos (by rfl)]
         refine oper_app (.tmp 67) (.tmp 75) 25 rfl vG (.slice (some ⟨w9.heap.size, 0, none⟩) 1 1) rfl rfl (fun v' w' => w'.ownsRow w3.heap.size 57 2 v' (gs.length + 1) (flat gs ++ [.int .i64 (a : Int), .int .i64 (b : Int)]) ∧ V9.grownBy w' vG.ownBlock) (fun ty => (by obtain ⟨v', w', r1, r2, r3, _⟩ := app_gate V9 w3.heap.size ty vG gs.length _ hrow3 w9.heap.size 1 (a : Int) (b : Int) hbk (by omega) hrk.size; exact ⟨v', w', r1, r2, r3⟩)) ?_
         intro v' w10 hR10
         obtain ⟨AG, cG, rfl⟩ := row_slice hR10.1
         have HRB := Lib.hid (row_base hrow3)
         replace hC := hC.grown hR10.2 (fun e => by have := HRB.out _ e.symm; omega)
         replace hrb9 := hrb9.grown hR10.2 (fun e => by have := HRB.out _ e.symm; omega)
         replace hrk := hrk.grown hR10.2 (fun g e => HRB.out g e)
         have hrow10 := row_set hR10.1 (p := ⟨H + 1, 2, none⟩) (by simp only; omega) (.slice AG (gs.length + 1) cG)
         have hC10 := hC.put 2 (.slice AG (gs.length + 1) cG)
         simp only [List.setIfInBounds_toArray, List.set_cons_zero, List.set_cons_succ] at hC10
         have hrb10 := hrb9.far (p := ⟨H + 1, 2, none⟩) (by simp only; omega) (.slice AG (gs.length + 1) cG)
         have hrk10 := hrk.set (p := ⟨H + 1, 2, none⟩) rfl (.slice AG (gs.length + 1) cG)
         have f2 := hC.frozen 2
         replace c2 := hC.cell 2
         simp only [zD, zE, zF] at c2
         clear hrow3 hrk hrb9 hbk hR10
         refine hK.out _ _ ?_ (fun hHeld => ?_)
         ·
          trivial
         clear hK K
         try simp only [Act.put, zA, zB, zC]
         refine wpAnyH_take (i := 11) (oi := ⟨some 77, _, _, _, _, _⟩) (v := ?_) rfl (by kernel_rfl) (by kernel_rfl) (by kernel_rfl) (fun _ _ _ h => h) (Or.inl ⟨by rfl, ?_⟩) hHeld ?_
         rotate_left
         ·
          intro w hSw
          (try dsimp only at hSw)
          first | (go_simp; done) | (go_simp; with_reducible rfl) | with_reducible rfl
         try simp only [Act.put, zA, zB, zC]
         refine wpAnyH_ready (rs := [12]) (by kernel_rfl) (by simp) ?_
         refine AllReadyH.cons (o := ⟨none, _, _, _, _, _⟩) rfl (fun K hK => ?_) AllReadyH.nil
         go_simp
         refine hK.out _ _ ?_ (fun hHeld => ?_)
         ·
          trivial
         clear hK K
         try simp only [Act.put, zA, zB, zC]
         refine wpAnyH_done (by kernel_rfl) ?_ _
         go_wp2
         go_roundw
         case rel => exact ⟨j + 1, gs ++ [((a : Int), (b : Int))], .slice AG (gs.length + 1) cG, r1, by omega, by simp [HGL.out], by go_num, HON.out, by omega, by rw [List.length_append, flat_append]; exact hrow10, hC10, hrb10, hrk10, HGN.out⟩
         case measure => simp [intOf]; omega
        go_simp
        refine hK.out _ _ ?_ (fun hHeld => ?_)
        ·
         trivial
        clear hK K
        try simp only [Act.put, zA, zB, zC]
        refine wpAnyH_ready (rs := [4]) (by kernel_rfl) (by simp) ?_
        refine AllReadyH.cons (o := ⟨some 70, _, _, _, _, _⟩) rfl (fun K hK => ?_) AllReadyH.nil
        go_simp
        refine hK.out _ _ ?_ (fun hHeld => ?_)
        ·
         trivial
        clear hK K
        try simp only [Act.put, zA, zB, zC]
        refine wpAnyH_take (i := 8) (oi := ⟨some 74, _, _, _, _, _⟩) (v := ?_) rfl (by kernel_rfl) (by kernel_rfl) (by kernel_rfl) (fun _ _ _ h => h) (Or.inl ⟨by rfl, ?_⟩) hHeld ?_
        rotate_left
        ·
         intro w hSw
         (try dsimp only at hSw)
         first | (go_simp; done) | (go_simp; with_reducible rfl) | with_reducible rfl
        try simp only [Act.put, zA, zB, zC]
        refine wpAnyH_ready (rs := [9]) (by kernel_rfl) (by simp) ?_
        refine AllReadyH.cons (o := ⟨some 75, _, _, _, _, _⟩) rfl (fun K hK => ?_) AllReadyH.nil
        go_simp
        have hb2 := lowAlloc w9 (Obj.cells #[.int .i64 (a : Int), .int .i64 (b : Int)] 57)
        have hbk : Blk (w9.alloc (Obj.cells #[.int .i64 (a : Int), .int .i64 (b : Int)] 57)).drew w9.heap.size 57 #[.int .i64 (a : Int), .int .i64 (b : Int)] := Blk.new w9 57 #[.int .i64 (a : Int), .int .i64 (b : Int)]
        replace hC : Blk (w9.alloc (Obj.cells #[.int .i64 (a : Int), .int .i64 (b : Int)] 57)).drew (H + 1) 29 #[.int .i64 (Ag.ge m 1 : Nat), .slice AL ls.length cL, vG, .slice AO os.length cO, .slice AB bs.length cB, .slice AC cs.length cC, .slice AF fs.length cF, .slice none 0 0] := hC.alloc (Obj.cells #[.int .i64 (a : Int), .int .i64 (b : Int)] 57)
        replace hrow3 : World.ownsRow (w9.alloc (Obj.cells #[.int .i64 (a : Int), .int .i64 (b : Int)] 57)).drew w3.heap.size 57 2 vG gs.length (flat gs) := World.ownsRow.alloc hrow3 (Obj.cells #[.int .i64 (a : Int), .int .i64 (b : Int)] 57)
        replace hrb9 : RB (w9.alloc (Obj.cells #[.int .i64 (a : Int), .int .i64 (b : Int)] 57)).drew R ⟨r1.toArray⟩ 21 := Blk.alloc hrb9 (Obj.cells #[.int .i64 (a : Int), .int .i64 (b : Int)] 57)
        replace hrk : RCKeep R (H + 1) w3 (w9.alloc (Obj.cells #[.int .i64 (a : Int), .int .i64 (b : Int)] 57)).drew := (fun (k : RCKeep R (H + 1) w3 (w9.alloc (Obj.cells #[.int .i64 (a : Int), .int .i64 (b : Int)] 57))) => ⟨k.os, k.tape, k.output, k.size, k.blk⟩) (hrk.keep ((RKeep.refl R w9).below hb2))
        clear hb2
        generalize (w9.alloc (Obj.cells #[.int .i64 (a : Int), .int .i64 (b : Int)] 57)).drew = V9 at *
        replace c2 := hC.cell 2
        simp only [zD, zE, zF] at c2
        refine hK.out _ _ ?_ (fun hHeld => ?_)
        ·
         trivial
        clear hK K
        try simp only [Act.put, zA, zB, zC]
        refine wpAnyH_ready (rs := [10]) (by kernel_rfl) (by simp) ?_
        refine AllReadyH.cons (o := ⟨some 76, _, _, _, _, _⟩) rfl (fun K hK => ?_) AllReadyH.nil
        rw [if_pos (by rfl)]
        refine oper_app (.tmp 67) (.tmp 75) 25 rfl vG (.slice (some ⟨w9.heap.size, 0, none⟩) 1 1) rfl rfl (fun v' w' => w'.ownsRow w3.heap.size 57 2 v' (gs.length + 1) (flat gs ++ [.int .i64 (a : Int), .int .i64 (b : Int)]) ∧ V9.grownBy w' vG.ownBlock) (fun ty => (by obtain ⟨v', w', r1, r2, r3, _⟩ := app_gate V9 w3.heap.size ty vG gs.length _ hrow3 w9.heap.size 1 (a : Int) (b : Int) hbk (by omega) hrk.size; exact ⟨v', w', r1, r2, r3⟩)) ?_
        intro v' w10 hR10
        obtain ⟨AG, cG, rfl⟩ := row_slice hR10.1
        have HRB := Lib.hid (row_base hrow3)
        replace hC := hC.grown hR10.2 (fun e => by have := HRB.out _ e.symm; omega)
        replace hrb9 := hrb9.grown hR10.2 (fun e => by have := HRB.out _ e.symm; omega)
        replace hrk := hrk.grown hR10.2 (fun g e => HRB.out g e)
        have hrow10 := row_set hR10.1 (p := ⟨H + 1, 2, none⟩) (by simp only; omega) (.slice AG (gs.length + 1) cG)
        have hC10 := hC.put 2 (.slice AG (gs.length + 1) cG)
        simp only [List.setIfInBounds_toArray, List.set_cons_zero, List.set_cons_succ] at hC10
        have hrb10 := hrb9.far (p := ⟨H + 1, 2, none⟩) (by simp only; omega) (.slice AG (gs.length + 1) cG)
        have hrk10 := hrk.set (p := ⟨H + 1, 2, none⟩) rfl (.slice AG (gs.length + 1) cG)
        have f2 := hC.frozen 2
        replace c2 := hC.cell 2
        simp only [zD, zE, zF] at c2
        clear hrow3 hrk hrb9 hbk hR10
        refine hK.out _ _ ?_ (fun hHeld => ?_)
        ·
         trivial
        clear hK K
        try simp only [Act.put, zA, zB, zC]
        refine wpAnyH_take (i := 11) (oi := ⟨some 77, _, _, _, _, _⟩) (v := ?_) rfl (by kernel_rfl) (by kernel_rfl) (by kernel_rfl) (fun _ _ _ h => h) (Or.inl ⟨by rfl, ?_⟩) hHeld ?_
        rotate_left
        ·
         intro w hSw
         (try dsimp only at hSw)
         first | (go_simp; done) | (go_simp; with_reducible rfl) | with_reducible rfl
        try simp only [Act.put, zA, zB, zC]
        refine wpAnyH_ready (rs := [12]) (by kernel_rfl) (by simp) ?_
        refine AllReadyH.cons (o := ⟨none, _, _, _, _, _⟩) rfl (fun K hK => ?_) AllReadyH.nil
        go_simp
        refine hK.out _ _ ?_ (fun hHeld => ?_)
        ·
         trivial
        clear hK K
        try simp only [Act.put, zA, zB, zC]
        refine wpAnyH_done (by kernel_rfl) ?_ _
        go_wp2
        go_roundw
        case rel => exact ⟨j + 1, gs ++ [((a : Int), (b : Int))], .slice AG (gs.length + 1) cG, r1, by omega, by simp [HGL.out], by go_num, HON.out, by omega, by rw [List.length_append, flat_append]; exact hrow10, hC10, hrb10, hrk10, HGN.out⟩
        case measure => simp [intOf]; omega
       ·
        go_simp
        refine hK.out _ _ ?_ (fun hHeld => ?_)
        ·
         trivial
        clear hK K
        try simp only [Act.put, zA, zB, zC]
        refine wpAnyH_ready (rs := [1, 7]) (by kernel_rfl) (by simp) ?_
        refine (AllReadyH.cons (o := ⟨some 67, _, _, _, _, _⟩) rfl (fun K hK => ?_) (AllReadyH.cons (o := ⟨some 73, _, _, _, _, _⟩) rfl (fun K hK => ?_) AllReadyH.nil))
        ·
         go_simp
         refine hK.out _ _ ?_ (fun hHeld => ?_)
         ·
          trivial
         clear hK K
         try simp only [Act.put, zA, zB, zC]
         refine wpAnyH_ready (rs := [7]) (by kernel_rfl) (by simp) ?_
         refine AllReadyH.cons (o := ⟨some 73, _, _, _, _, _⟩) rfl (fun K hK => ?_) AllReadyH.nil
         go_simp
         refine hK.out _ _ ?_ (fun hHeld => ?_)
         ·
          trivial
         clear hK K
         try simp only [Act.put, zA, zB, zC]
         refine wpAnyH_take (i := 8) (oi := ⟨some 74, _, _, _, _, _⟩) (v := ?_) rfl (by kernel_rfl) (by kernel_rfl) (by kernel_rfl) (fun _ _ _ h => h) (Or.inl ⟨by rfl, ?_⟩) hHeld ?_
         rotate_left
         ·
          intro w hSw
          (try dsimp only at hSw)
          first | (go_simp; done) | (go_simp; with_reducible rfl) | with_reducible rfl
         try simp only [Act.put, zA, zB, zC]
         refine wpAnyH_ready (rs := [9]) (by kernel_rfl) (by simp) ?_
         refine AllReadyH.cons (o := ⟨some 75, _, _, _, _, _⟩) rfl (fun K hK => ?_) AllReadyH.nil
         go_simp
         have hb2 := lowAlloc w9 (Obj.cells #[.int .i64 (a : Int), .int .i64 (b : Int)] 57)
         have hbk : Blk (w9.alloc (Obj.cells #[.int .i64 (a : Int), .int .i64 (b : Int)] 57)).drew w9.heap.size 57 #[.int .i64 (a : Int), .int .i64 (b : Int)] := Blk.new w9 57 #[.int .i64 (a : Int), .int .i64 (b : Int)]
         replace hC : Blk (w9.alloc (Obj.cells #[.int .i64 (a : Int), .int .i64 (b : Int)] 57)).drew (H + 1) 29 #[.int .i64 (Ag.ge m 1 : Nat), .slice AL ls.length cL, vG, .slice AO os.length cO, .slice AB bs.length cB, .slice AC cs.length cC, .slice AF fs.length cF, .slice none 0 0] := hC.alloc (Obj.cells #[.int .i64 (a : Int), .int .i64 (b : Int)] 57)
         replace hrow3 : World.ownsRow (w9.alloc (Obj.cells #[.int .i64 (a : Int), .int .i64 (b : Int)] 57)).drew w3.heap.size 57 2 vG gs.length (flat gs) := World.ownsRow.alloc hrow3 (Obj.cells #[.int .i64 (a : Int), .int .i64 (b : Int)] 57)
         replace hrb9 : RB (w9.alloc (Obj.cells #[.int .i64 (a : Int), .int .i64 (b : Int)] 57)).drew R ⟨r1.toArray⟩ 21 := Blk.alloc hrb9 (Obj.cells #[.int .i64 (a : Int), .int .i64 (b : Int)] 57)
         replace hrk : RCKeep R (H + 1) w3 (w9.alloc (Obj.cells #[.int .i64 (a : Int), .int .i64 (b : Int)] 57)).drew := (fun (k : RCKeep R (H + 1) w3 (w9.alloc (Obj.cells #[.int .i64 (a : Int), .int .i64 (b : Int)] 57))) => ⟨k.os, k.tape, k.output, k.size, k.blk⟩) (hrk.keep ((RKeep.refl R w9).below hb2))
         clear hb2
         generalize (w9.alloc (Obj.cells #[.int .i64 (a : Int), .int .i64 (b : Int)] 57)).drew = V9 at *
         replace c2 := hC.cell 2
         simp only [zD, zE, zF] at c2
         refine hK.out _ _ ?_ (fun hHeld => ?_)
         ·
          trivial
         clear hK K
         try simp only [Act.put, zA, zB, zC]
         refine wpAnyH_ready (rs := [10]) (by kernel_rfl) (by simp) ?_
         refine AllReadyH.cons (o := ⟨some 76, _, _, _, _, _⟩) rfl (fun K hK => ?_) AllReadyH.nil
         rw [if_pos (by rfl)]
         refine oper_app (.tmp 67) (.tmp 75) 25 rfl vG (.slice (some ⟨w9.heap.size, 0, none⟩) 1 1) rfl rfl (fun v' w' => w'.ownsRow w3.heap.size 57 2 v' (gs.length + 1) (flat gs ++ [.int .i64 (a : Int), .int .i64 (b : Int)]) ∧ V9.grownBy w' vG.ownBlock) (fun ty => (by obtain ⟨v', w', r1, r2, r3, _⟩ := app_gate V9 w3.heap.size ty vG gs.length _ hrow3 w9.heap.size 1 (a : Int) (b : Int) hbk (by omega) hrk.size; exact ⟨v', w', r1, r2, r3⟩)) ?_
         intro v' w10 hR10
         obtain ⟨AG, cG, rfl⟩ := row_slice hR10.1
         have HRB := Lib.hid (row_base hrow3)
         replace hC := hC.grown hR10.2 (fun e => by have := HRB.out _ e.symm; omega)
         replace hrb9 := hrb9.grown hR10.2 (fun e => by have := HRB.out _ e.symm; omega)
         replace hrk := hrk.grown hR10.2 (fun g e => HRB.out g e)
         have hrow10 := row_set hR10.1 (p := ⟨H + 1, 2, none⟩) (by simp only; omega) (.slice AG (gs.length + 1) cG)
         have hC10 := hC.put 2 (.slice AG (gs.length + 1) cG)
         simp only [List.setIfInBounds_toArray, List.set_cons_zero, List.set_cons_succ] at hC10
         have hrb10 := hrb9.far (p := ⟨H + 1, 2, none⟩) (by simp only; omega) (.slice AG (gs.length + 1) cG)
         have hrk10 := hrk.set (p := ⟨H + 1, 2, none⟩) rfl (.slice AG (gs.length + 1) cG)
         have f2 := hC.frozen 2
         replace c2 := hC.cell 2
         simp only [zD, zE, zF] at c2
         clear hrow3 hrk hrb9 hbk hR10
         refine hK.out _ _ ?_ (fun hHeld => ?_)
         ·
          trivial
         clear hK K
         try simp only [Act.put, zA, zB, zC]
         refine wpAnyH_take (i := 11) (oi := ⟨some 77, _, _, _, _, _⟩) (v := ?_) rfl (by kernel_rfl) (by kernel_rfl) (by kernel_rfl) (fun _ _ _ h => h) (Or.inl ⟨by rfl, ?_⟩) hHeld ?_
         rotate_left
         ·
          intro w hSw
          (try dsimp only at hSw)
          first | (go_simp; done) | (go_simp; with_reducible rfl) | with_reducible rfl
         try simp only [Act.put, zA, zB, zC]
         refine wpAnyH_ready (rs := [12]) (by kernel_rfl) (by simp) ?_
         refine AllReadyH.cons (o := ⟨none, _, _, _, _, _⟩) rfl (fun K hK => ?_) AllReadyH.nil
         go_simp
         refine hK.out _ _ ?_ (fun hHeld => ?_)
         ·
          trivial
         clear hK K
         try simp only [Act.put, zA, zB, zC]
         refine wpAnyH_done (by kernel_rfl) ?_ _
         go_wp2
         go_roundw
         case rel => exact ⟨j + 1, gs ++ [((a : Int), (b : Int))], .slice AG (gs.length + 1) cG, r1, by omega, by simp [HGL.out], by go_num, HON.out, by omega, by rw [List.length_append, flat_append]; exact hrow10, hC10, hrb10, hrk10, HGN.out⟩
         case measure => simp [intOf]; omega
        go_simp
        refine hK.out _ _ ?_ (fun hHeld => ?_)
        ·
         trivial
        clear hK K
        try simp only [Act.put, zA, zB, zC]
        refine wpAnyH_take (i := 8) (oi := ⟨some 74, _, _, _, _, _⟩) (v := ?_) rfl (by kernel_rfl) (by kernel_rfl) (by kernel_rfl) (fun _ _ _ h => h) (Or.inl ⟨by rfl, ?_⟩) hHeld ?_
        rotate_left
        ·
         intro w hSw
         (try dsimp only at hSw)
         first | (go_simp; done) | (go_simp; with_reducible rfl) | with_reducible rfl
        try simp only [Act.put, zA, zB, zC]
        refine wpAnyH_ready (rs := [1, 9]) (by kernel_rfl) (by simp) ?_
        refine (AllReadyH.cons (o := ⟨some 67, _, _, _, _, _⟩) rfl (fun K hK => ?_) (AllReadyH.cons (o := ⟨some 75, _, _, _, _, _⟩) rfl (fun K hK => ?_) AllReadyH.nil))
        ·
         go_simp
         refine hK.out _ _ ?_ (fun hHeld => ?_)
         ·
          trivial
         clear hK K
         try simp only [Act.put, zA, zB, zC]
         refine wpAnyH_ready (rs := [9]) (by kernel_rfl) (by simp) ?_
         refine AllReadyH.cons (o := ⟨some 75, _, _, _, _, _⟩) rfl (fun K hK => ?_) AllReadyH.nil
         go_simp
         have hb2 := lowAlloc w9 (Obj.cells #[.int .i64 (a : Int), .int .i64 (b : Int)] 57)
         have hbk : Blk (w9.alloc (Obj.cells #[.int .i64 (a : Int), .int .i64 (b : Int)] 57)).drew w9.heap.size 57 #[.int .i64 (a : Int), .int .i64 (b : Int)] := Blk.new w9 57 #[.int .i64 (a : Int), .int .i64 (b : Int)]
         replace hC : Blk (w9.alloc (Obj.cells #[.int .i64 (a : Int), .int .i64 (b : Int)] 57)).drew (H + 1) 29 #[.int .i64 (Ag.ge m 1 : Nat), .slice AL ls.length cL, vG, .slice AO os.length cO, .slice AB bs.length cB, .slice AC cs.length cC, .slice AF fs.length cF, .slice none 0 0] := hC.alloc (Obj.cells #[.int .i64 (a : Int), .int .i64 (b : Int)] 57)
         replace hrow3 : World.ownsRow (w9.alloc (Obj.cells #[.int .i64 (a : Int), .int .i64 (b : Int)] 57)).drew w3.heap.size 57 2 vG gs.length (flat gs) := World.ownsRow.alloc hrow3 (Obj.cells #[.int .i64 (a : Int), .int .i64 (b : Int)] 57)
         replace hrb9 : RB (w9.alloc (Obj.cells #[.int .i64 (a : Int), .int .i64 (b : Int)] 57)).drew R ⟨r1.toArray⟩ 21 := Blk.alloc hrb9 (Obj.cells #[.int .i64 (a : Int), .int .i64 (b : Int)] 57)
         replace hrk : RCKeep R (H + 1) w3 (w9.alloc (Obj.cells #[.int .i64 (a : Int), .int .i64 (b : Int)] 57)).drew := (fun (k : RCKeep R (H + 1) w3 (w9.alloc (Obj.cells #[.int .i64 (a : Int), .int .i64 (b : Int)] 57))) => ⟨k.os, k.tape, k.output, k.size, k.blk⟩) (hrk.keep ((RKeep.refl R w9).below hb2))
         clear hb2
         generalize (w9.alloc (Obj.cells #[.int .i64 (a : Int), .int .i64 (b : Int)] 57)).drew = V9 at *
         replace c2 := hC.cell 2
         simp only [zD, zE, zF] at c2
         refine hK.out _ _ ?_ (fun hHeld => ?_)
         ·
          trivial
         clear hK K
         try simp only [Act.put, zA, zB, zC]
         refine wpAnyH_ready (rs := [10]) (by kernel_rfl) (by simp) ?_
         refine AllReadyH.cons (o := ⟨some 76, _, _, _, _, _⟩) rfl (fun K hK => ?_) AllReadyH.nil
         rw [if_pos (by rfl)]
         refine oper_app (.tmp 67) (.tmp 75) 25 rfl vG (.slice (some ⟨w9.heap.size, 0, none⟩) 1 1) rfl rfl (fun v' w' => w'.ownsRow w3.heap.size 57 2 v' (gs.length + 1) (flat gs ++ [.int .i64 (a : Int), .int .i64 (b : Int)]) ∧ V9.grownBy w' vG.ownBlock) (fun ty => (by obtain ⟨v', w', r1, r2, r3, _⟩ := app_gate V9 w3.heap.size ty vG gs.length _ hrow3 w9.heap.size 1 (a : Int) (b : Int) hbk (by omega) hrk.size; exact ⟨v', w', r1, r2, r3⟩)) ?_
         intro v' w10 hR10
         obtain ⟨AG, cG, rfl⟩ := row_slice hR10.1
         have HRB := Lib.hid (row_base hrow3)
         replace hC := hC.grown hR10.2 (fun e => by have := HRB.out _ e.symm; omega)
         replace hrb9 := hrb9.grown hR10.2 (fun e => by have := HRB.out _ e.symm; omega)
         replace hrk := hrk.grown hR10.2 (fun g e => HRB.out g e)
         have hrow10 := row_set hR10.1 (p := ⟨H + 1, 2, none⟩) (by simp only; omega) (.slice AG (gs.length + 1) cG)
         have hC10 := hC.put 2 (.slice AG (gs.length + 1) cG)
         simp only [List.setIfInBounds_toArray, List.set_cons_zero, List.set_cons_succ] at hC10
         have hrb10 := hrb9.far (p := ⟨H + 1, 2, none⟩) (by simp only; omega) (.slice AG (gs.length + 1) cG)
         have hrk10 := hrk.set (p := ⟨H + 1, 2, none⟩) rfl (.slice AG (gs.length + 1) cG)
         have f2 := hC.frozen 2
         replace c2 := hC.cell 2
         simp only [zD, zE, zF] at c2
         clear hrow3 hrk hrb9 hbk hR10
         refine hK.out _ _ ?_ (fun hHeld => ?_)
         ·
          trivial
         clear hK K
         try simp only [Act.put, zA, zB, zC]
         refine wpAnyH_take (i := 11) (oi := ⟨some 77, _, _, _, _, _⟩) (v := ?_) rfl (by kernel_rfl) (by kernel_rfl) (by kernel_rfl) (fun _ _ _ h => h) (Or.inl ⟨by rfl, ?_⟩) hHeld ?_
         rotate_left
         ·
          intro w hSw
          (try dsimp only at hSw)
          first | (go_simp; done) | (go_simp; with_reducible rfl) | with_reducible rfl
         try simp only [Act.put, zA, zB, zC]
         refine wpAnyH_ready (rs := [12]) (by kernel_rfl) (by simp) ?_
         refine AllReadyH.cons (o := ⟨none, _, _, _, _, _⟩) rfl (fun K hK => ?_) AllReadyH.nil
         go_simp
         refine hK.out _ _ ?_ (fun hHeld => ?_)
         ·
          trivial
         clear hK K
         try simp only [Act.put, zA, zB, zC]
         refine wpAnyH_done (by kernel_rfl) ?_ _
         go_wp2
         go_roundw
         case rel => exact ⟨j + 1, gs ++ [((a : Int), (b : Int))], .slice AG (gs.length + 1) cG, r1, by omega, by simp [HGL.out], by go_num, HON.out, by omega, by rw [List.length_append, flat_append]; exact hrow10, hC10, hrb10, hrk10, HGN.out⟩
         case measure => simp [intOf]; omega
        go_simp
        have hb2 := lowAlloc w9 (Obj.cells #[.int .i64 (a : Int), .int .i64 (b : Int)] 57)
        have hbk : Blk (w9.alloc (Obj.cells #[.int .i64 (a : Int), .int .i64 (b : Int)] 57)).drew w9.heap.size 57 #[.int .i64 (a : Int), .int .i64 (b : Int)] := Blk.new w9 57 #[.int .i64 (a : Int), .int .i64 (b : Int)]
        replace hC : Blk (w9.alloc (Obj.cells #[.int .i64 (a : Int), .int .i64 (b : Int)] 57)).drew (H + 1) 29 #[.int .i64 (Ag.ge m 1 : Nat), .slice AL ls.length cL, vG, .slice AO os.length cO, .slice AB bs.length cB, .slice AC cs.length cC, .slice AF fs.length cF, .slice none 0 0] := hC.alloc (Obj.cells #[.int .i64 (a : Int), .int .i64 (b : Int)] 57)
        replace hrow3 : World.ownsRow (w9.alloc (Obj.cells #[.int .i64 (a : Int), .int .i64 (b : Int)] 57)).drew w3.heap.size 57 2 vG gs.length (flat gs) := World.ownsRow.alloc hrow3 (Obj.cells #[.int .i64 (a : Int), .int .i64 (b : Int)] 57)
        replace hrb9 : RB (w9.alloc (Obj.cells #[.int .i64 (a : Int), .int .i64 (b : Int)] 57)).drew R ⟨r1.toArray⟩ 21 := Blk.alloc hrb9 (Obj.cells #[.int .i64 (a : Int), .int .i64 (b : Int)] 57)
        replace hrk : RCKeep R (H + 1) w3 (w9.alloc (Obj.cells #[.int .i64 (a : Int), .int .i64 (b : Int)] 57)).drew := (fun (k : RCKeep R (H + 1) w3 (w9.alloc (Obj.cells #[.int .i64 (a : Int), .int .i64 (b : Int)] 57))) => ⟨k.os, k.tape, k.output, k.size, k.blk⟩) (hrk.keep ((RKeep.refl R w9).below hb2))
        clear hb2
        generalize (w9.alloc (Obj.cells #[.int .i64 (a : Int), .int .i64 (b : Int)] 57)).drew = V9 at *
        replace c2 := hC.cell 2
        simp only [zD, zE, zF] at c2
        refine hK.out _ _ ?_ (fun hHeld => ?_)
        ·
         trivial
        clear hK K
        try simp only [Act.put, zA, zB, zC]
        refine wpAnyH_ready (rs := [1]) (by kernel_rfl) (by simp) ?_
        refine AllReadyH.cons (o := ⟨some 67, _, _, _, _, _⟩) rfl (fun K hK => ?_) AllReadyH.nil
        go_simp
        refine hK.out _ _ ?_ (fun hHeld => ?_)
        ·
         trivial
        clear hK K
        try simp only [Act.put, zA, zB, zC]
        refine wpAnyH_ready (rs := [10]) (by kernel_rfl) (by simp) ?_
        refine AllReadyH.cons (o := ⟨some 76, _, _, _, _, _⟩) rfl (fun K hK => ?_) AllReadyH.nil
        rw [if_pos (by rfl)]
        refine oper_app (.tmp 67) (.tmp 75) 25 rfl vG (.slice (some ⟨w9.heap.size, 0, none⟩) 1 1) rfl rfl (fun v' w' => w'.ownsRow w3.heap.size 57 2 v' (gs.length + 1) (flat gs ++ [.int .i64 (a : Int), .int .i64 (b : Int)]) ∧ V9.grownBy w' vG.ownBlock) (fun ty => (by obtain ⟨v', w', r1, r2, r3, _⟩ := app_gate V9 w3.heap.size ty vG gs.length _ hrow3 w9.heap.size 1 (a : Int) (b : Int) hbk (by omega) hrk.size; exact ⟨v', w', r1, r2, r3⟩)) ?_
        intro v' w10 hR10
        obtain ⟨AG, cG, rfl⟩ := row_slice hR10.1
        have HRB := Lib.hid (row_base hrow3)
        replace hC := hC.grown hR10.2 (fun e => by have := HRB.out _ e.symm; omega)
        replace hrb9 := hrb9.grown hR10.2 (fun e => by have := HRB.out _ e.symm; omega)
        replace hrk := hrk.grown hR10.2 (fun g e => HRB.out g e)
        have hrow10 := row_set hR10.1 (p := ⟨H + 1, 2, none⟩) (by simp only; omega) (.slice AG (gs.length + 1) cG)
        have hC10 := hC.put 2 (.slice AG (gs.length + 1) cG)
        simp only [List.setIfInBounds_toArray, List.set_cons_zero, List.set_cons_succ] at hC10
        have hrb10 := hrb9.far (p := ⟨H + 1, 2, none⟩) (by simp only; omega) (.slice AG (gs.length + 1) cG)
        have hrk10 := hrk.set (p := ⟨H + 1, 2, none⟩) rfl (.slice AG (gs.length + 1) cG)
        have f2 := hC.frozen 2
        replace c2 := hC.cell 2
        simp only [zD, zE, zF] at c2
        clear hrow3 hrk hrb9 hbk hR10
        refine hK.out _ _ ?_ (fun hHeld => ?_)
        ·
         trivial
        clear hK K
        try simp only [Act.put, zA, zB, zC]
        refine wpAnyH_take (i := 11) (oi := ⟨some 77, _, _, _, _, _⟩) (v := ?_) rfl (by kernel_rfl) (by kernel_rfl) (by kernel_rfl) (fun _ _ _ h => h) (Or.inl ⟨by rfl, ?_⟩) hHeld ?_
        rotate_left
        ·
         intro w hSw
         (try dsimp only at hSw)
         first | (go_simp; done) | (go_simp; with_reducible rfl) | with_reducible rfl
        try simp only [Act.put, zA, zB, zC]
        refine wpAnyH_ready (rs := [12]) (by kernel_rfl) (by simp) ?_
        refine AllReadyH.cons (o := ⟨none, _, _, _, _, _⟩) rfl (fun K hK => ?_) AllReadyH.nil
        go_simp
        refine hK.out _ _ ?_ (fun hHeld => ?_)
        ·
         trivial
        clear hK K
        try simp only [Act.put, zA, zB, zC]
        refine wpAnyH_done (by kernel_rfl) ?_ _
        go_wp2
        go_roundw
        case rel => exact ⟨j + 1, gs ++ [((a : Int), (b : Int))], .slice AG (gs.length + 1) cG, r1, by omega, by simp [HGL.out], by go_num, HON.out, by omega, by rw [List.length_append, flat_append]; exact hrow10, hC10, hrb10, hrk10, HGN.out⟩
        case measure => simp [intOf]; omega
       go_simp
       refine hK.out _ _ ?_ (fun hHeld => ?_)
       ·
        trivial
       clear hK K
       try simp only [Act.put, zA, zB, zC]
       refine wpAnyH_ready (rs := [1, 4]) (by kernel_rfl) (by simp) ?_
       refine (AllReadyH.cons (o := ⟨some 67, _, _, _, _, _⟩) rfl (fun K hK => ?_) (AllReadyH.cons (o := ⟨some 70, _, _, _, _, _⟩) rfl (fun K hK => ?_) AllReadyH.nil))
       ·
        go_simp
        refine hK.out _ _ ?_ (fun hHeld => ?_)
        ·
         trivial
        clear hK K
        try simp only [Act.put, zA, zB, zC]
        refine wpAnyH_ready (rs := [4]) (by kernel_rfl) (by simp) ?_
        refine AllReadyH.cons (o := ⟨some 70, _, _, _, _, _⟩) rfl (fun K hK => ?_) AllReadyH.nil
        go_simp
        refine hK.out _ _ ?_ (fun hHeld => ?_)
        ·
         trivial
        clear hK K
        try simp only [Act.put, zA, zB, zC]
        refine wpAnyH_take (i := 8) (oi := ⟨some 74, _, _, _, _, _⟩) (v := ?_) rfl (by kernel_rfl) (by kernel_rfl) (by kernel_rfl) (fun _ _ _ h => h) (Or.inl ⟨by rfl, ?_⟩) hHeld ?_
        rotate_left
        ·
         intro w hSw
         (try dsimp only at hSw)
         first | (go_simp; done) | (go_simp; with_reducible rfl) | with_reducible rfl
        try simp only [Act.put, zA, zB, zC]
        refine wpAnyH_ready (rs := [9]) (by kernel_rfl) (by simp) ?_
        refine AllReadyH.cons (o := ⟨some 75, _, _, _, _, _⟩) rfl (fun K hK => ?_) AllReadyH.nil
        go_simp
        have hb2 := lowAlloc w9 (Obj.cells #[.int .i64 (a : Int), .int .i64 (b : Int)] 57)
        have hbk : Blk (w9.alloc (Obj.cells #[.int .i64 (a : Int), .int .i64 (b : Int)] 57)).drew w9.heap.size 57 #[.int .i64 (a : Int), .int .i64 (b : Int)] := Blk.new w9 57 #[.int .i64 (a : Int), .int .i64 (b : Int)]
        replace hC : Blk (w9.alloc (Obj.cells #[.int .i64 (a : Int), .int .i64 (b : Int)] 57)).drew (H + 1) 29 #[.int .i64 (Ag.ge m 1 : Nat), .slice AL ls.length cL, vG, .slice AO os.length cO, .slice AB bs.length cB, .slice AC cs.length cC, .slice AF fs.length cF, .slice none 0 0] := hC.alloc (Obj.cells #[.int .i64 (a : Int), .int .i64 (b : Int)] 57)
        replace hrow3 : World.ownsRow (w9.alloc (Obj.cells #[.int .i64 (a : Int), .int .i64 (b : Int)] 57)).drew w3.heap.size 57 2 vG gs.length (flat gs) := World.ownsRow.alloc hrow3 (Obj.cells #[.int .i64 (a : Int), .int .i64 (b : Int)] 57)
        replace hrb9 : RB (w9.alloc (Obj.cells #[.int .i64 (a : Int), .int .i64 (b : Int)] 57)).drew R ⟨r1.toArray⟩ 21 := Blk.alloc hrb9 (Obj.cells #[.int .i64 (a : Int), .int .i64 (b : Int)] 57)
        replace hrk : RCKeep R (H + 1) w3 (w9.alloc (Obj.cells #[.int .i64 (a : Int), .int .i64 (b : Int)] 57)).drew := (fun (k : RCKeep R (H + 1) w3 (w9.alloc (Obj.cells #[.int .i64 (a : Int), .int .i64 (b : Int)] 57))) => ⟨k.os, k.tape, k.output, k.size, k.blk⟩) (hrk.keep ((RKeep.refl R w9).below hb2))
        clear hb2
        generalize (w9.alloc (Obj.cells #[.int .i64 (a : Int), .int .i64 (b : Int)] 57)).drew = V9 at *
        replace c2 := hC.cell 2
        simp only [zD, zE, zF] at c2
        refine hK.out _ _ ?_ (fun hHeld => ?_)
        ·
         trivial
        clear hK K
        try simp only [Act.put, zA, zB, zC]
        refine wpAnyH_ready (rs := [10]) (by kernel_rfl) (by simp) ?_
        refine AllReadyH.cons (o := ⟨some 76, _, _, _, _, _⟩) rfl (fun K hK => ?_) AllReadyH.nil
        rw [if_pos (by rfl)]
        refine oper_app (.tmp 67) (.tmp 75) 25 rfl vG (.slice (some ⟨w9.heap.size, 0, none⟩) 1 1) rfl rfl (fun v' w' => w'.ownsRow w3.heap.size 57 2 v' (gs.length + 1) (flat gs ++ [.int .i64 (a : Int), .int .i64 (b : Int)]) ∧ V9.grownBy w' vG.ownBlock) (fun ty => (by obtain ⟨v', w', r1, r2, r3, _⟩ := app_gate V9 w3.heap.size ty vG gs.length _ hrow3 w9.heap.size 1 (a : Int) (b : Int) hbk (by omega) hrk.size; exact ⟨v', w', r1, r2, r3⟩)) ?_
        intro v' w10 hR10
        obtain ⟨AG, cG, rfl⟩ := row_slice hR10.1
        have HRB := Lib.hid (row_base hrow3)
        replace hC := hC.grown hR10.2 (fun e => by have := HRB.out _ e.symm; omega)
        replace hrb9 := hrb9.grown hR10.2 (fun e => by have := HRB.out _ e.symm; omega)
        replace hrk := hrk.grown hR10.2 (fun g e => HRB.out g e)
        have hrow10 := row_set hR10.1 (p := ⟨H + 1, 2, none⟩) (by simp only; omega) (.slice AG (gs.length + 1) cG)
        have hC10 := hC.put 2 (.slice AG (gs.length + 1) cG)
        simp only [List.setIfInBounds_toArray, List.set_cons_zero, List.set_cons_succ] at hC10
        have hrb10 := hrb9.far (p := ⟨H + 1, 2, none⟩) (by simp only; omega) (.slice AG (gs.length + 1) cG)
        have hrk10 := hrk.set (p := ⟨H + 1, 2, none⟩) rfl (.slice AG (gs.length + 1) cG)
        have f2 := hC.frozen 2
        replace c2 := hC.cell 2
        simp only [zD, zE, zF] at c2
        clear hrow3 hrk hrb9 hbk hR10
        refine hK.out _ _ ?_ (fun hHeld => ?_)
        ·
         trivial
        clear hK K
        try simp only [Act.put, zA, zB, zC]
        refine wpAnyH_take (i := 11) (oi := ⟨some 77, _, _, _, _, _⟩) (v := ?_) rfl (by kernel_rfl) (by kernel_rfl) (by kernel_rfl) (fun _ _ _ h => h) (Or.inl ⟨by rfl, ?_⟩) hHeld ?_
        rotate_left
        ·
         intro w hSw
         (try dsimp only at hSw)
         first | (go_simp; done) | (go_simp; with_reducible rfl) | with_reducible rfl
        try simp only [Act.put, zA, zB, zC]
        refine wpAnyH_ready (rs := [12]) (by kernel_rfl) (by simp) ?_
        refine AllReadyH.cons (o := ⟨none, _, _, _, _, _⟩) rfl (fun K hK => ?_) AllReadyH.nil
        go_simp
        refine hK.out _ _ ?_ (fun hHeld => ?_)
        ·
         trivial
        clear hK K
        try simp only [Act.put, zA, zB, zC]
        refine wpAnyH_done (by kernel_rfl) ?_ _
        go_wp2
        go_roundw
        case rel => exact ⟨j + 1, gs ++ [((a : Int), (b : Int))], .slice AG (gs.length + 1) cG, r1, by omega, by simp [HGL.out], by go_num, HON.out, by omega, by rw [List.length_append, flat_append]; exact hrow10, hC10, hrb10, hrk10, HGN.out⟩
        case measure => simp [intOf]; omega
       go_simp
       refine hK.out _ _ ?_ (fun hHeld => ?_)
       ·
        trivial
       clear hK K
       try simp only [Act.put, zA, zB, zC]
       refine wpAnyH_take (i := 8) (oi := ⟨some 74, _, _, _, _, _⟩) (v := ?_) rfl (by kernel_rfl) (by kernel_rfl) (by kernel_rfl) (fun _ _ _ h => h) (Or.inl ⟨by rfl, ?_⟩) hHeld ?_
       rotate_left
       ·
        intro w hSw
        (try dsimp only at hSw)
        first | (go_simp; done) | (go_simp; with_reducible rfl) | with_reducible rfl
       try simp only [Act.put, zA, zB, zC]
       refine wpAnyH_ready (rs := [1, 9]) (by kernel_rfl) (by simp) ?_
       refine (AllReadyH.cons (o := ⟨some 67, _, _, _, _, _⟩) rfl (fun K hK => ?_) (AllReadyH.cons (o := ⟨some 75, _, _, _, _, _⟩) rfl (fun K hK => ?_) AllReadyH.nil))
       ·
        go_simp
        refine hK.out _ _ ?_ (fun hHeld => ?_)
        ·
         trivial
        clear hK K
        try simp only [Act.put, zA, zB, zC]
        refine wpAnyH_ready (rs := [9]) (by kernel_rfl) (by simp) ?_
        refine AllReadyH.cons (o := ⟨some 75, _, _, _, _, _⟩) rfl (fun K hK => ?_) AllReadyH.nil
        go_simp
        have hb2 := lowAlloc w9 (Obj.cells #[.int .i64 (a : Int), .int .i64 (b : Int)] 57)
        have hbk : Blk (w9.alloc (Obj.cells #[.int .i64 (a : Int), .int .i64 (b : Int)] 57)).drew w9.heap.size 57 #[.int .i64 (a : Int), .int .i64 (b : Int)] := Blk.new w9 57 #[.int .i64 (a : Int), .int .i64 (b : Int)]
        replace hC : Blk (w9.alloc (Obj.cells #[.int .i64 (a : Int), .int .i64 (b : Int)] 57)).drew (H + 1) 29 #[.int .i64 (Ag.ge m 1 : Nat), .slice AL ls.length cL, vG, .slice AO os.length cO, .slice AB bs.length cB, .slice AC cs.length cC, .slice AF fs.length cF, .slice none 0 0] := hC.alloc (Obj.cells #[.int .i64 (a : Int), .int .i64 (b : Int)] 57)
        replace hrow3 : World.ownsRow (w9.alloc (Obj.cells #[.int .i64 (a : Int), .int .i64 (b : Int)] 57)).drew w3.heap.size 57 2 vG gs.length (flat gs) := World.ownsRow.alloc hrow3 (Obj.cells #[.int .i64 (a : Int), .int .i64 (b : Int)] 57)
        replace hrb9 : RB (w9.alloc (Obj.cells #[.int .i64 (a : Int), .int .i64 (b : Int)] 57)).drew R ⟨r1.toArray⟩ 21 := Blk.alloc hrb9 (Obj.cells #[.int .i64 (a : Int), .int .i64 (b : Int)] 57)
        replace hrk : RCKeep R (H + 1) w3 (w9.alloc (Obj.cells #[.int .i64 (a : Int), .int .i64 (b : Int)] 57)).drew := (fun (k : RCKeep R (H + 1) w3 (w9.alloc (Obj.cells #[.int .i64 (a : Int), .int .i64 (b : Int)] 57))) => ⟨k.os, k.tape, k.output, k.size, k.blk⟩) (hrk.keep ((RKeep.refl R w9).below hb2))
        clear hb2
        generalize (w9.alloc (Obj.cells #[.int .i64 (a : Int), .int .i64 (b : Int)] 57)).drew = V9 at *
        replace c2 := hC.cell 2
        simp only [zD, zE, zF] at c2
        refine hK.out _ _ ?_ (fun hHeld => ?_)
        ·
         trivial
        clear hK K
        try simp only [Act.put, zA, zB, zC]
        refine wpAnyH_ready (rs := [10]) (by kernel_rfl) (by simp) ?_
        refine AllReadyH.cons (o := ⟨some 76, _, _, _, _, _⟩) rfl (fun K hK => ?_) AllReadyH.nil
        rw [if_pos (by rfl)]
        refine oper_app (.tmp 67) (.tmp 75) 25 rfl vG (.slice (some ⟨w9.heap.size, 0, none⟩) 1 1) rfl rfl (fun v' w' => w'.ownsRow w3.heap.size 57 2 v' (gs.length + 1) (flat gs ++ [.int .i64 (a : Int), .int .i64 (b : Int)]) ∧ V9.grownBy w' vG.ownBlock) (fun ty => (by obtain ⟨v', w', r1, r2, r3, _⟩ := app_gate V9 w3.heap.size ty vG gs.length _ hrow3 w9.heap.size 1 (a : Int) (b : Int) hbk (by omega) hrk.size; exact ⟨v', w', r1, r2, r3⟩)) ?_
        intro v' w10 hR10
        obtain ⟨AG, cG, rfl⟩ := row_slice hR10.1
        have HRB := Lib.hid (row_base hrow3)
        replace hC := hC.grown hR10.2 (fun e => by have := HRB.out _ e.symm; omega)
        replace hrb9 := hrb9.grown hR10.2 (fun e => by have := HRB.out _ e.symm; omega)
        replace hrk := hrk.grown hR10.2 (fun g e => HRB.out g e)
        have hrow10 := row_set hR10.1 (p := ⟨H + 1, 2, none⟩) (by simp only; omega) (.slice AG (gs.length + 1) cG)
        have hC10 := hC.put 2 (.slice AG (gs.length + 1) cG)
        simp only [List.setIfInBounds_toArray, List.set_cons_zero, List.set_cons_succ] at hC10
        have hrb10 := hrb9.far (p := ⟨H + 1, 2, none⟩) (by simp only; omega) (.slice AG (gs.length + 1) cG)
        have hrk10 := hrk.set (p := ⟨H + 1, 2, none⟩) rfl (.slice AG (gs.length + 1) cG)
        have f2 := hC.frozen 2
        replace c2 := hC.cell 2
        simp only [zD, zE, zF] at c2
        clear hrow3 hrk hrb9 hbk hR10
        refine hK.out _ _ ?_ (fun hHeld => ?_)
        ·
         trivial
        clear hK K
        try simp only [Act.put, zA, zB, zC]
        refine wpAnyH_take (i := 11) (oi := ⟨some 77, _, _, _, _, _⟩) (v := ?_) rfl (by kernel_rfl) (by kernel_rfl) (by kernel_rfl) (fun _ _ _ h => h) (Or.inl ⟨by rfl, ?_⟩) hHeld ?_
        rotate_left
        ·
         intro w hSw
         (try dsimp only at hSw)
         first | (go_simp; done) | (go_simp; with_reducible rfl) | with_reducible rfl
        try simp only [Act.put, zA, zB, zC]
        refine wpAnyH_ready (rs := [12]) (by kernel_rfl) (by simp) ?_
        refine AllReadyH.cons (o := ⟨none, _, _, _, _, _⟩) rfl (fun K hK => ?_) AllReadyH.nil
        go_simp
        refine hK.out _ _ ?_ (fun hHeld => ?_)
        ·
         trivial
        clear hK K
        try simp only [Act.put, zA, zB, zC]
        refine wpAnyH_done (by kernel_rfl) ?_ _
        go_wp2
        go_roundw
        case rel => exact ⟨j + 1, gs ++ [((a : Int), (b : Int))], .slice AG (gs.length + 1) cG, r1, by omega, by simp [HGL.out], by go_num, HON.out, by omega, by rw [List.length_append, flat_append]; exact hrow10, hC10, hrb10, hrk10, HGN.out⟩
        case measure => simp [intOf]; omega
       go_simp
       have hb2 := lowAlloc w9 (Obj.cells #[.int .i64 (a : Int), .int .i64 (b : Int)] 57)
       have hbk : Blk (w9.alloc (Obj.cells #[.int .i64 (a : Int), .int .i64 (b : Int)] 57)).drew w9.heap.size 57 #[.int .i64 (a : Int), .int .i64 (b : Int)] := Blk.new w9 57 #[.int .i64 (a : Int), .int .i64 (b : Int)]
       replace hC : Blk (w9.alloc (Obj.cells #[.int .i64 (a : Int), .int .i64 (b : Int)] 57)).drew (H + 1) 29 #[.int .i64 (Ag.ge m 1 : Nat), .slice AL ls.length cL, vG, .slice AO os.length cO, .slice AB bs.length cB, .slice AC cs.length cC, .slice AF fs.length cF, .slice none 0 0] := hC.alloc (Obj.cells #[.int .i64 (a : Int), .int .i64 (b : Int)] 57)
       replace hrow3 : World.ownsRow (w9.alloc (Obj.cells #[.int .i64 (a : Int), .int .i64 (b : Int)] 57)).drew w3.heap.size 57 2 vG gs.length (flat gs) := World.ownsRow.alloc hrow3 (Obj.cells #[.int .i64 (a : Int), .int .i64 (b : Int)] 57)
       replace hrb9 : RB (w9.alloc (Obj.cells #[.int .i64 (a : Int), .int .i64 (b : Int)] 57)).drew R ⟨r1.toArray⟩ 21 := Blk.alloc hrb9 (Obj.cells #[.int .i64 (a : Int), .int .i64 (b : Int)] 57)
       replace hrk : RCKeep R (H + 1) w3 (w9.alloc (Obj.cells #[.int .i64 (a : Int), .int .i64 (b : Int)] 57)).drew := (fun (k : RCKeep R (H + 1) w3 (w9.alloc (Obj.cells #[.int .i64 (a : Int), .int .i64 (b : Int)] 57))) => ⟨k.os, k.tape, k.output, k.size, k.blk⟩) (hrk.keep ((RKeep.refl R w9).below hb2))
       clear hb2
       generalize (w9.alloc (Obj.cells #[.int .i64 (a : Int), .int .i64 (b : Int)] 57)).drew = V9 at *
       replace c2 := hC.cell 2
       simp only [zD, zE, zF] at c2
       refine hK.out _ _ ?_ (fun hHeld => ?_)
       ·
        trivial
       clear hK K
       try simp only [Act.put, zA, zB, zC]
       refine wpAnyH_ready (rs := [1]) (by kernel_rfl) (by simp) ?_
       refine AllReadyH.cons (o := ⟨some 67, _, _, _, _, _⟩) rfl (fun K hK => ?_) AllReadyH.nil
       go_simp
       refine hK.out _ _ ?_ (fun hHeld => ?_)
       ·
        trivial
       clear hK K
       try simp only [Act.put, zA, zB, zC]
       refine wpAnyH_ready (rs := [10]) (by kernel_rfl) (by simp) ?_
       refine AllReadyH.cons (o := ⟨some 76, _, _, _, _, _⟩) rfl (fun K hK => ?_) AllReadyH.nil
       rw [if_pos (by rfl)]
       refine oper_app (.tmp 67) (.tmp 75) 25 rfl vG (.slice (some ⟨w9.heap.size, 0, none⟩) 1 1) rfl rfl (fun v' w' => w'.ownsRow w3.heap.size 57 2 v' (gs.length + 1) (flat gs ++ [.int .i64 (a : Int), .int .i64 (b : Int)]) ∧ V9.grownBy w' vG.ownBlock) (fun ty => (by obtain ⟨v', w', r1, r2, r3, _⟩ := app_gate V9 w3.heap.size ty vG gs.length _ hrow3 w9.heap.size 1 (a : Int) (b : Int) hbk (by omega) hrk.size; exact ⟨v', w', r1, r2, r3⟩)) ?_
       intro v' w10 hR10
       obtain ⟨AG, cG, rfl⟩ := row_slice hR10.1
       have HRB := Lib.hid (row_base hrow3)
       replace hC := hC.grown hR10.2 (fun e => by have := HRB.out _ e.symm; omega)
       replace hrb9 := hrb9.grown hR10.2 (fun e => by have := HRB.out _ e.symm; omega)
       replace hrk := hrk.grown hR10.2 (fun g e => HRB.out g e)
       have hrow10 := row_set hR10.1 (p := ⟨H + 1, 2, none⟩) (by simp only; omega) (.slice AG (gs.length + 1) cG)
       have hC10 := hC.put 2 (.slice AG (gs.length + 1) cG)
       simp only [List.setIfInBounds_toArray, List.set_cons_zero, List.set_cons_succ] at hC10
       have hrb10 := hrb9.far (p := ⟨H + 1, 2, none⟩) (by simp only; omega) (.slice AG (gs.length + 1) cG)
       have hrk10 := hrk.set (p := ⟨H + 1, 2, none⟩) rfl (.slice AG (gs.length + 1) cG)
       have f2 := hC.frozen 2
       replace c2 := hC.cell 2
       simp only [zD, zE, zF] at c2
       clear hrow3 hrk hrb9 hbk hR10
       refine hK.out _ _ ?_ (fun hHeld => ?_)
       ·
        trivial
       clear hK K
       try simp only [Act.put, zA, zB, zC]
       refine wpAnyH_take (i := 11) (oi := ⟨some 77, _, _, _, _, _⟩) (v := ?_) rfl (by kernel_rfl) (by kernel_rfl) (by kernel_rfl) (fun _ _ _ h => h) (Or.inl ⟨by rfl, ?_⟩) hHeld ?_
       rotate_left
       ·
        intro w hSw
        (try dsimp only at hSw)
        first | (go_simp; done) | (go_simp; with_reducible rfl) | with_reducible rfl
       try simp only [Act.put, zA, zB, zC]
       refine wpAnyH_ready (rs := [12]) (by kernel_rfl) (by simp) ?_
       refine AllReadyH.cons (o := ⟨none, _, _, _, _, _⟩) rfl (fun K hK => ?_) AllReadyH.nil
       go_simp
       refine hK.out _ _ ?_ (fun hHeld => ?_)
       ·
        trivial
       clear hK K
       try simp only [Act.put, zA, zB, zC]
       refine wpAnyH_done (by kernel_rfl) ?_ _
       go_wp2
       go_roundw
       case rel => exact ⟨j + 1, gs ++ [((a : Int), (b : Int))], .slice AG (gs.length + 1) cG, r1, by omega, by simp [HGL.out], by go_num, HON.out, by omega, by rw [List.length_append, flat_append]; exact hrow10, hC10, hrb10, hrk10, HGN.out⟩
       case measure => simp [intOf]; omega
   obtain rfl : j = Ag.ge m 4 := by omega
   have HO4 : Hid (o = ofB (bN m ls (os, bs, cs, fs) gs s1)) := by
    unfold Hid
    rw [HOJ.out, Nat.sub_self, gats_zero]
    rfl
   obtain ⟨AG, cG, rfl⟩ := row_slice hrow3
   have hwR : R < wr.heap.size := Blk.lt hrb
   have HNM := Lib.hid (rnames_any R s1 21 B wr hrb (by omega) (HAW3.out.on (hrk.low HAW3.out.le hR (by omega))) hR)
   have HKW4 : Hid (RKeep R w wr) := HKW3.out.rc hrk (by omega)
   have hw4 := hrk.size
   replace hrow := row_rc hrow hrk (by omega) (by omega)
   replace hnO := nrow_rc hnO hrk (by omega) (by omega)
   replace hnB := nrow_rc hnB hrk (by omega) (by omega)
   replace hnC := nrow_rc hnC hrk (by omega) (by omega)
   replace hnF := nrow_rc hnF hrk (by omega) (by omega)
   have hRD := hrk.blkOf HRD3.out (by omega) (by omega)
   clear HOJ hHw hrb hrk
   go_wp2_with fail
   refine HNM.out.mono ?_
   intro e w5 hP
   unfold NamesP at hP
   cases hnm : Ag.namesF s1.length s1 with
   | none =>
    rw [hnm] at hP
    obtain ⟨rfl, hk5⟩ := hP
    have HE : Hid (o = .error 21) := by
     unfold Hid
     rw [HO4.out]
     unfold bN
     rw [hnm]
     rfl
    exact ⟨rfl, by rw [HE.out]; exact ⟨rfl, HKW4.out.trans hk5⟩⟩
   | some ns =>
    have HNS := Lib.hid (Ag.names_le _ _ _ hnm)
    rw [hnm] at hP
    obtain ⟨v, s', rfl, hrowN, _, hk5⟩ := hP
    have HO5 : Hid (o = .ok (Ag.mk (Ag.ge m 1 : Nat) ls gs os bs cs fs ns)) := by
     unfold Hid
     rw [HO4.out]
     unfold bN
     rw [hnm]
     rfl
    obtain ⟨AN, cN, rfl⟩ := row_slice hrowN
    replace hC := hk5.blkOf hC (by omega)
    replace hRD := hk5.blkOf hRD (by omega)
    replace hrow := row_rkeep hrow hk5 (by omega)
    replace hrow3 := row_rkeep hrow3 hk5 (by omega)
    replace hnO := hnO.keep hk5 (by omega)
    replace hnB := hnB.keep hk5 (by omega)
    replace hnC := hnC.keep hk5 (by omega)
    replace hnF := hnF.keep hk5 (by omega)
    have hk6 := (HKW4.out.trans hk5).far (p := ⟨H + 1, 7, none⟩) (by simp only; omega) (.slice AN ns.length cN)
    have h5s := hk5.size
    have f7 := hC.frozen 7
    have c7 := hC.cell 7
    simp only [zD, zE, zF] at c7
    have hC6 := hC.put 7 (.slice AN ns.length cN)
    simp only [List.setIfInBounds_toArray, List.set_cons_zero, List.set_cons_succ] at hC6
    replace hRD := hRD.far (p := ⟨H + 1, 7, none⟩) (by simp only; omega) (.slice AN ns.length cN)
    replace hrow := row_set hrow (p := ⟨H + 1, 7, none⟩) (by simp only; omega) (.slice AN ns.length cN)
    replace hrow3 := row_set hrow3 (p := ⟨H + 1, 7, none⟩) (by simp only; omega) (.slice AN ns.length cN)
    replace hrowN := row_set hrowN (p := ⟨H + 1, 7, none⟩) (by simp only; omega) (.slice AN ns.length cN)
    replace hnO := hnO.set (p := ⟨H + 1, 7, none⟩) (by simp only; omega) (.slice AN ns.length cN)
    replace hnB := hnB.set (p := ⟨H + 1, 7, none⟩) (by simp only; omega) (.slice AN ns.length cN)
    replace hnC := hnC.set (p := ⟨H + 1, 7, none⟩) (by simp only; omega) (.slice AN ns.length cN)
    replace hnF := hnF.set (p := ⟨H + 1, 7, none⟩) (by simp only; omega) (.slice AN ns.length cN)
    clear hC HNM hnm hk5
    go_upto_region 22 with fail
    clear c7 f7
    generalize w5.setCell ⟨H + 1, 7, none⟩ (.slice AN ns.length cN) = W6 at *
    have c0 := hC6.cell 0
    have c1 := hC6.cell 1
    have c2 := hC6.cell 2
    have c3 := hC6.cell 3
    have c4 := hC6.cell 4
    have c5 := hC6.cell 5
    have c6 := hC6.cell 6
    have c7 := hC6.cell 7
    have f0 := hRD.frozen 0
    have f1 := hRD.frozen 1
    have f2 := hRD.frozen 2
    have f3 := hRD.frozen 3
    have f4 := hRD.frozen 4
    have f5 := hRD.frozen 5
    have f6 := hRD.frozen 6
    have f7 := hRD.frozen 7
    have x0 := hRD.cell 0
    have x1 := hRD.cell 1
    have x2 := hRD.cell 2
    have x3 := hRD.cell 3
    have x4 := hRD.cell 4
    have x5 := hRD.cell 5
    have x6 := hRD.cell 6
    have x7 := hRD.cell 7
    simp only [zD, zE, zF] at c0 x0 c1 x1 c2 x2 c3 x3 c4 x4 c5 x5 c6 x6 c7 x7
    have hR9 : Blk ((((((((W6.setCell ⟨w.heap.size, 0, none⟩ (.int .i64 (Ag.ge m 1 : Nat))).setCell ⟨w.heap.size, 1, none⟩ (.slice AL ls.length cL)).setCell ⟨w.heap.size, 2, none⟩ (.slice AG gs.length cG)).setCell ⟨w.heap.size, 3, none⟩ (.slice AO os.length cO)).setCell ⟨w.heap.size, 4, none⟩ (.slice AB bs.length cB)).setCell ⟨w.heap.size, 5, none⟩ (.slice AC cs.length cC)).setCell ⟨w.heap.size, 6, none⟩ (.slice AF fs.length cF)).setCell ⟨w.heap.size, 7, none⟩ (.slice AN ns.length cN)) w.heap.size 29 #[.int .i64 (Ag.ge m 1 : Nat), .slice AL ls.length cL, .slice AG gs.length cG, .slice AO os.length cO, .slice AB bs.length cB, .slice AC cs.length cC, .slice AF fs.length cF, .slice AN ns.length cN] := ((((((((hRD.put 0 (.int .i64 (Ag.ge m 1 : Nat))).put 1 (.slice AL ls.length cL)).put 2 (.slice AG gs.length cG)).put 3 (.slice AO os.length cO)).put 4 (.slice AB bs.length cB)).put 5 (.slice AC cs.length cC)).put 6 (.slice AF fs.length cF)).put 7 (.slice AN ns.length cN))
    replace hrow := (row_set (row_set (row_set (row_set (row_set (row_set (row_set (row_set hrow (p := ⟨w.heap.size, 0, none⟩) (by simp only; omega) (.int .i64 (Ag.ge m 1 : Nat))) (p := ⟨w.heap.size, 1, none⟩) (by simp only; omega) (.slice AL ls.length cL)) (p := ⟨w.heap.size, 2, none⟩) (by simp only; omega) (.slice AG gs.length cG)) (p := ⟨w.heap.size, 3, none⟩) (by simp only; omega) (.slice AO os.length cO)) (p := ⟨w.heap.size, 4, none⟩) (by simp only; omega) (.slice AB bs.length cB)) (p := ⟨w.heap.size, 5, none⟩) (by simp only; omega) (.slice AC cs.length cC)) (p := ⟨w.heap.size, 6, none⟩) (by simp only; omega) (.slice AF fs.length cF)) (p := ⟨w.heap.size, 7, none⟩) (by simp only; omega) (.slice AN ns.length cN))
    replace hrow3 := (row_set (row_set (row_set (row_set (row_set (row_set (row_set (row_set hrow3 (p := ⟨w.heap.size, 0, none⟩) (by simp only; omega) (.int .i64 (Ag.ge m 1 : Nat))) (p := ⟨w.heap.size, 1, none⟩) (by simp only; omega) (.slice AL ls.length cL)) (p := ⟨w.heap.size, 2, none⟩) (by simp only; omega) (.slice AG gs.length cG)) (p := ⟨w.heap.size, 3, none⟩) (by simp only; omega) (.slice AO os.length cO)) (p := ⟨w.heap.size, 4, none⟩) (by simp only; omega) (.slice AB bs.length cB)) (p := ⟨w.heap.size, 5, none⟩) (by simp only; omega) (.slice AC cs.length cC)) (p := ⟨w.heap.size, 6, none⟩) (by simp only; omega) (.slice AF fs.length cF)) (p := ⟨w.heap.size, 7, none⟩) (by simp only; omega) (.slice AN ns.length cN))
    replace hrowN := (row_set (row_set (row_set (row_set (row_set (row_set (row_set (row_set hrowN (p := ⟨w.heap.size, 0, none⟩) (by simp only; omega) (.int .i64 (Ag.ge m 1 : Nat))) (p := ⟨w.heap.size, 1, none⟩) (by simp only; omega) (.slice AL ls.length cL)) (p := ⟨w.heap.size, 2, none⟩) (by simp only; omega) (.slice AG gs.length cG)) (p := ⟨w.heap.size, 3, none⟩) (by simp only; omega) (.slice AO os.length cO)) (p := ⟨w.heap.size, 4, none⟩) (by simp only; omega) (.slice AB bs.length cB)) (p := ⟨w.heap.size, 5, none⟩) (by simp only; omega) (.slice AC cs.length cC)) (p := ⟨w.heap.size, 6, none⟩) (by simp only; omega) (.slice AF fs.length cF)) (p := ⟨w.heap.size, 7, none⟩) (by simp only; omega) (.slice AN ns.length cN))
    replace hnO := (NRow.set (NRow.set (NRow.set (NRow.set (NRow.set (NRow.set (NRow.set (NRow.set hnO (p := ⟨w.heap.size, 0, none⟩) (by simp only; omega) (.int .i64 (Ag.ge m 1 : Nat))) (p := ⟨w.heap.size, 1, none⟩) (by simp only; omega) (.slice AL ls.length cL)) (p := ⟨w.heap.size, 2, none⟩) (by simp only; omega) (.slice AG gs.length cG)) (p := ⟨w.heap.size, 3, none⟩) (by simp only; omega) (.slice AO os.length cO)) (p := ⟨w.heap.size, 4, none⟩) (by simp only; omega) (.slice AB bs.length cB)) (p := ⟨w.heap.size, 5, none⟩) (by simp only; omega) (.slice AC cs.length cC)) (p := ⟨w.heap.size, 6, none⟩) (by simp only; omega) (.slice AF fs.length cF)) (p := ⟨w.heap.size, 7, none⟩) (by simp only; omega) (.slice AN ns.length cN))
    replace hnB := (NRow.set (NRow.set (NRow.set (NRow.set (NRow.set (NRow.set (NRow.set (NRow.set hnB (p := ⟨w.heap.size, 0, none⟩) (by simp only; omega) (.int .i64 (Ag.ge m 1 : Nat))) (p := ⟨w.heap.size, 1, none⟩) (by simp only; omega) (.slice AL ls.length cL)) (p := ⟨w.heap.size, 2, none⟩) (by simp only; omega) (.slice AG gs.length cG)) (p := ⟨w.heap.size, 3, none⟩) (by simp only; omega) (.slice AO os.length cO)) (p := ⟨w.heap.size, 4, none⟩) (by simp only; omega) (.slice AB bs.length cB)) (p := ⟨w.heap.size, 5, none⟩) (by simp only; omega) (.slice AC cs.length cC)) (p := ⟨w.heap.size, 6, none⟩) (by simp only; omega) (.slice AF fs.length cF)) (p := ⟨w.heap.size, 7, none⟩) (by simp only; omega) (.slice AN ns.length cN))
    replace hnC := (NRow.set (NRow.set (NRow.set (NRow.set (NRow.set (NRow.set (NRow.set (NRow.set hnC (p := ⟨w.heap.size, 0, none⟩) (by simp only; omega) (.int .i64 (Ag.ge m 1 : Nat))) (p := ⟨w.heap.size, 1, none⟩) (by simp only; omega) (.slice AL ls.length cL)) (p := ⟨w.heap.size, 2, none⟩) (by simp only; omega) (.slice AG gs.length cG)) (p := ⟨w.heap.size, 3, none⟩) (by simp only; omega) (.slice AO os.length cO)) (p := ⟨w.heap.size, 4, none⟩) (by simp only; omega) (.slice AB bs.length cB)) (p := ⟨w.heap.size, 5, none⟩) (by simp only; omega) (.slice AC cs.length cC)) (p := ⟨w.heap.size, 6, none⟩) (by simp only; omega) (.slice AF fs.length cF)) (p := ⟨w.heap.size, 7, none⟩) (by simp only; omega) (.slice AN ns.length cN))
    replace hnF := (NRow.set (NRow.set (NRow.set (NRow.set (NRow.set (NRow.set (NRow.set (NRow.set hnF (p := ⟨w.heap.size, 0, none⟩) (by simp only; omega) (.int .i64 (Ag.ge m 1 : Nat))) (p := ⟨w.heap.size, 1, none⟩) (by simp only; omega) (.slice AL ls.length cL)) (p := ⟨w.heap.size, 2, none⟩) (by simp only; omega) (.slice AG gs.length cG)) (p := ⟨w.heap.size, 3, none⟩) (by simp only; omega) (.slice AO os.length cO)) (p := ⟨w.heap.size, 4, none⟩) (by simp only; omega) (.slice AB bs.length cB)) (p := ⟨w.heap.size, 5, none⟩) (by simp only; omega) (.slice AC cs.length cC)) (p := ⟨w.heap.size, 6, none⟩) (by simp only; omega) (.slice AF fs.length cF)) (p := ⟨w.heap.size, 7, none⟩) (by simp only; omega) (.slice AN ns.length cN))
    replace hk6 := ((((((((hk6.far (p := ⟨w.heap.size, 0, none⟩) (Nat.le_refl _) (.int .i64 (Ag.ge m 1 : Nat))).far (p := ⟨w.heap.size, 1, none⟩) (Nat.le_refl _) (.slice AL ls.length cL)).far (p := ⟨w.heap.size, 2, none⟩) (Nat.le_refl _) (.slice AG gs.length cG)).far (p := ⟨w.heap.size, 3, none⟩) (Nat.le_refl _) (.slice AO os.length cO)).far (p := ⟨w.heap.size, 4, none⟩) (Nat.le_refl _) (.slice AB bs.length cB)).far (p := ⟨w.heap.size, 5, none⟩) (Nat.le_refl _) (.slice AC cs.length cC)).far (p := ⟨w.heap.size, 6, none⟩) (Nat.le_refl _) (.slice AF fs.length cF)).far (p := ⟨w.heap.size, 7, none⟩) (Nat.le_refl _) (.slice AN ns.length cN))
    clear hC6 hRD
    go_wp2
    clear c0 f0 x0 c1 f1 x1 c2 f2 x2 c3 f3 x3 c4 f4 x4 c5 f5 x5 c6 f6 x6 c7 f7 x7
    generalize ((((((((W6.setCell ⟨w.heap.size, 0, none⟩ (.int .i64 (Ag.ge m 1 : Nat))).setCell ⟨w.heap.size, 1, none⟩ (.slice AL ls.length cL)).setCell ⟨w.heap.size, 2, none⟩ (.slice AG gs.length cG)).setCell ⟨w.heap.size, 3, none⟩ (.slice AO os.length cO)).setCell ⟨w.heap.size, 4, none⟩ (.slice AB bs.length cB)).setCell ⟨w.heap.size, 5, none⟩ (.slice AC cs.length cC)).setCell ⟨w.heap.size, 6, none⟩ (.slice AF fs.length cF)).setCell ⟨w.heap.size, 7, none⟩ (.slice AN ns.length cN)) = W9 at *
    have r0 := hR9.cell 0
    have r1 := hR9.cell 1
    have r2 := hR9.cell 2
    have r3 := hR9.cell 3
    have r4 := hR9.cell 4
    have r5 := hR9.cell 5
    have r6 := hR9.cell 6
    have r7 := hR9.cell 7
    simp only [zD, zE, zF] at r0 r1 r2 r3 r4 r5 r6 r7
    refine bodyPost_ret (v := .agg #[.int .i64 (Ag.ge m 1 : Nat), .slice AL ls.length cL, .slice AG gs.length cG, .slice AO os.length cO, .slice AB bs.length cB, .slice AC cs.length cC, .slice AF fs.length cF, .slice AN ns.length cN]) (by simp [results, Tryz.results38, go_sem, r0, r1, r2, r3, r4, r5, r6, r7]) rfl ?_
    rw [HO5.out]
    obtain ⟨⟨q1, q2, q3, q4⟩, ⟨q5, q6, q7, q8⟩, _⟩ := HSM.out
    obtain ⟨n1, n2⟩ := HNS.out
    exact ⟨{ n := (Ag.ge m 1 : Nat), aL := AL, cL := cL, ls := ls, aG := AG, cG := cG, gs := gs, aO := AO, cO := cO, os := os, aB := AB, cB := cB, bs := bs, aC := AC, cC := cC, cs := cs, aF := AF, cF := cF, fs := fs, aN := AN, cN := cN, ns := ns }, rfl, rfl,
     ⟨latch_gr2 hrow, gate_gr2 hrow3, nrow_vs hnO, nrow_vs hnB, nrow_vs hnC, nrow_vs hnF, (name_ns2 hrowN).1⟩,
     ⟨⟨by simp, by simp; omega⟩, HLB.out, HGB.out, q1, q2, q3, q4, fun x hx => (by have := n2 x hx; exact ⟨this.1, this.2.1, by omega⟩), (by have := HLL.out; simp; omega), (by have := HGL.out; simp; omega), q5, q6, q7, q8, (by simp; omega)⟩,
     (name_ns2 hrowN).2, ⟨fun ad e => Nat.le_trans HKW1.out.size (row_fresh hrow ad e), fun ad e => Nat.le_trans HKW3.out.size (row_fresh hrow3 ad e), fun ad e => Nat.le_trans HKW2.out.size (nrow_fresh hnO ad e), fun ad e => Nat.le_trans HKW2.out.size (nrow_fresh hnB ad e), fun ad e => Nat.le_trans HKW2.out.size (nrow_fresh hnC ad e), fun ad e => Nat.le_trans HKW2.out.size (nrow_fresh hnF ad e), fun ad e => Nat.le_trans HKW4.out.size (row_fresh hrowN ad e)⟩, hk6⟩
end Go.Proofs.YtpejilhdhkmcjaaGreatDoor
