/- distinct, named, Right. -/
import Derived.Test.YtpejilhdhkmcjaaGreatDoorJaAl
import Derived.Test.YtpejilhdhkmcjaaGreatDoorJaaj
namespace Go.Proofs.YtpejilhdhkmcjaaGreatDoor
open Go.RowKit

instance decBytes : DecidableEq ByteArray := fun a b => if h : a.data = b.data then isTrue (by cases a; cases b; simp_all) else isFalse (fun e => h (by rw [e]))
instance lawBytes : LawfulBEq ByteArray where
 eq_of_beq {a b} h := (MapKept.bytes_beq a b).1 h
 rfl {a} := (MapKept.bytes_beq a a).2 rfl
theorem keyStr (t : ByteArray) : MapKept.IsKey .string (.string t) := by simp [MapKept.IsKey]
theorem map_modify (es : List MapEntry) (i : Nat) (e0 : MapEntry) (k v : Value) (he : es[i]? = some e0) (hk : e0.key = k) : (es.modify i (fun e => { e with key := k, val := v })).map (·.key) = es.map (·.key) := by
 apply List.ext_getElem?
 intro j
 simp only [List.getElem?_map, List.getElem?_modify]
 by_cases hj : i = j
 ·
  subst hj
  simp [he, hk]
 simp [hj]
theorem store_str (w : World) (b : Nat) (es : List MapEntry) (clock : Nat) (ks : List ByteArray) (t : ByteArray) (v : Value) (hb : Hp w b (.map es.toArray clock)) (hks : es.map (·.key) = ks.map .string) :
  ∃ (wn : World) (es' : List MapEntry) (clock' : Nat), (Instr.mapUpdate 142 (.map (some b)) (.string t) v).run Tryz.prog w = .ok () wn ∧ Hp wn b (.map es'.toArray clock') ∧ es'.map (·.key) = (if t ∈ ks then ks else ks ++ [t]).map .string ∧ w.grownBy wn (some b) := by
 have hall : ∀ x ∈ es, MapKept.IsKey .string x.key := by
  intro x hx
  have : x.key ∈ es.map (·.key) := List.mem_map_of_mem hx
  rw [hks] at this
  obtain ⟨y, _, hy⟩ := List.mem_map.1 this
  rw [← hy]
  exact keyStr y
 rcases MapKept.findNow_spec (keyStr t) es 0 hall with ⟨hf, hno⟩ | ⟨j, e0, hf, he, hk⟩
 ·
  have hnot : t ∉ ks := by
   intro ht
   have : Value.string t ∈ ks.map Value.string := List.mem_map_of_mem ht
   rw [← hks] at this
   obtain ⟨x, hx, hy⟩ := List.mem_map.1 this
   exact hno x hx hy
  have hs := set_grown hb (.map (es ++ [MapEntry.mk (.string t) v clock]).toArray (clock + 1))
  refine ⟨_, es ++ [MapEntry.mk (.string t) v clock], clock + 1, ?_, hs.1, by simp [hnot, hks], hs.2⟩
  simp only [Instr.mapUpdate, Sem.run_bind, run_underlying Tryz.underlying142, Result.andThen, MapKept.run_getObj_map hb, MapKept.run_checkKey Tryz.underlying9 (keyStr t), MapKept.run_findKey Tryz.underlying9 hf]
  rw [MapKept.run_setObj_map _ hb]
  simp
 have hin : t ∈ ks := by
  have : e0.key ∈ es.map (·.key) := List.mem_map_of_mem (List.mem_of_getElem? he)
  rw [hks, hk] at this
  obtain ⟨y, hy, e⟩ := List.mem_map.1 this
  injection e with e
  rw [← e]
  exact hy
 rw [Nat.zero_add] at hf
 have hs := set_grown hb (.map (es.modify j (fun e => { e with key := .string t, val := v })).toArray clock)
 refine ⟨_, es.modify j (fun e => { e with key := .string t, val := v }), clock, ?_, hs.1, by rw [map_modify es j e0 _ _ he hk, hks, if_pos hin], hs.2⟩
 have hsb : Instr.sameBits 10000 (.string t) (.string t) = true := by
  exact (MapKept.bytes_beq t t).2 rfl
 simp only [Instr.mapUpdate, Sem.run_bind, run_underlying Tryz.underlying142, Result.andThen, MapKept.run_getObj_map hb, MapKept.run_checkKey Tryz.underlying9 (keyStr t), MapKept.run_findKey Tryz.underlying9 hf, Instr.keyThatStays]
 simp only [List.getElem?_toArray, he, Option.map_some, Option.getD_some, hk, hsb, if_true, Sem.run_pure]
 rw [MapKept.run_setObj_map _ hb]
 simp
theorem make_set (w : World) (n : Int) : (Instr.makeMap 142 (some (.int .i64 n))).run Tryz.prog w = .ok (.map (some w.heap.size)) (w.alloc (.map #[] 0)) := by
 simp only [Instr.makeMap, Sem.run_bind, run_underlying Tryz.underlying142, Result.andThen]
 rfl
theorem len_set (w : World) (b : Nat) (es : List MapEntry) (clock : Nat) (hb : Hp w b (.map es.toArray clock)) (ty : TypeId) : (Builtin.len_ #[142] ty #[.map (some b)]).run Tryz.prog w = .ok (.int .i64 (es.length : Int)) w := by
 simp [Builtin.len_, run_underlying Tryz.underlying142, Result.andThen, MapKept.run_getObj_map hb, goInt, Sem.run_bind]

namespace Cm
def texts (ns : List Nm) : List ByteArray := ns.map (·.2.2)
/-- The keys that are there, when k texts have been put in. -/
structure Keys (ts : List ByteArray) (k : Nat) (ks : List ByteArray) : Prop where
 nod : ks.Nodup
 mem : ∀ t, t ∈ ks ↔ t ∈ ts.take k
 le : ks.length ≤ k
 eq : ks.length = k ↔ (ts.take k).Nodup
theorem Keys.zero (ts : List ByteArray) : Keys ts 0 [] := ⟨by simp, by simp, by simp, by simp⟩
theorem Keys.step {ts : List ByteArray} {k : Nat} {ks : List ByteArray} (h : Keys ts k ks) (hk : k < ts.length) : Keys ts (k + 1) (if ts[k] ∈ ks then ks else ks ++ [ts[k]]) := by
 have hn : (ts.take (k + 1)).Nodup ↔ (ts.take k).Nodup ∧ ts[k] ∉ ts.take k := by
  rw [List.take_succ_eq_append_getElem hk, List.nodup_append]
  constructor
  ·
   rintro ⟨h1, _, h3⟩
   exact ⟨h1, fun hm => h3 _ hm _ (by simp) rfl⟩
  rintro ⟨h1, h2⟩
  refine ⟨h1, by simp, ?_⟩
  intro a ha b hb
  simp at hb
  subst hb
  intro e
  subst e
  exact h2 ha
 have hle := h.le
 split
 ·
  rename_i hin
  refine ⟨h.nod, fun t => ?_, by omega, ?_⟩
  ·
   rw [List.take_succ_eq_append_getElem hk, List.mem_append, ← h.mem]
   constructor
   ·
    exact Or.inl
   rintro (h1 | h1)
   ·
    exact h1
   simp at h1
   rw [h1]
   exact hin
  rw [hn]
  constructor
  ·
   intro h1; omega
  rintro ⟨_, h2⟩
  exact absurd ((h.mem _).1 hin) h2
 rename_i hin
 refine ⟨?_, fun t => ?_, by simp; omega, ?_⟩
 ·
  rw [List.nodup_append]
  refine ⟨h.nod, by simp, ?_⟩
  intro a ha b hb e
  simp at hb
  subst hb e
  exact hin ha
 ·
  rw [List.take_succ_eq_append_getElem hk, List.mem_append, List.mem_append, h.mem]
 rw [hn, ← h.eq, ← h.mem]
 simp [hin]
def namedB (c : Cir) : Bool := ordS c 6 0 c.ns && c.ns.all (fun x => wordB x.2.2) && decide (texts c.ns).Nodup
def rightC (c : Cir) : Bool := fitsB c && Gm.rightB (c.n + c.ls.length) c.gs && drivenB c && namedB c
end Cm

set_option maxRecDepth 100000 in
set_option maxHeartbeats 4000000 in
theorem distinct_any (A : Option Addr) (q : Nat) (ns : List Nm) (w : World) (hl : ns.length ≤ 1000000) (hN : Ns w w.heap.size A ns) :
  Calls Tryz.prog 82 #[.slice A ns.length q] w fun e w' => e = .returned (.bool (decide (Cm.texts ns).Nodup)) ∧ Below w.heap.size w w' := by
 have hmk := make_set
 have hst := Hp.new w (.map #[] 0)
 have HST := Lib.hid hst
 clear hst
 go_enter Tryz.func82, Tryz.ntmps82
 go_wp2
 go_loopw [11] (fun i wr => ∃ (k : Nat) (es : List MapEntry) (ck : Nat) (ks : List ByteArray), k ≤ ns.length ∧ i = .int .i64 k ∧ Below w.heap.size w wr ∧ Hp wr w.heap.size (.map es.toArray ck) ∧ es.map (·.key) = ks.map .string ∧ Cm.Keys (Cm.texts ns) k ks) (fun i _ => ns.length - (intOf i).toNat)
 case atStart => exact ⟨0, [], 0, [], Nat.zero_le _, rfl, lowAlloc w _, HST.out, rfl, Cm.Keys.zero _⟩
 obtain ⟨k, es, ck, ks, hk, rfl, lo, hmp, hks, hK⟩ := hrel
 by_cases hlt : k < ns.length
 ·
  obtain ⟨b, off, hA, hbw, g1, g2, g3⟩ := (hN.below lo (Nat.le_refl _)) k hlt
  subst hA
  have htk : (Cm.texts ns)[k]'(by simpa [Cm.texts] using hlt) = ns[k].2.2 := by simp [Cm.texts]
  have hK2 := hK.step (by simpa [Cm.texts] using hlt)
  rw [htk] at hK2
  generalize ns[k] = x at *
  obtain ⟨kd, at_, t⟩ := x
  simp only at g1 g2 g3 hK2
  have lo1 := lo.alloc lo.size (Obj.cells #[.int .u8 kd, .int .i64 at_, .string t] 69)
  obtain ⟨wn, es', ck', hup, hmp2, hks2, hgr⟩ := store_str _ _ es ck ks t (.agg #[]) (hmp.alloc (Obj.cells #[.int .u8 kd, .int .i64 at_, .string t] 69)) hks
  have lon := below_grown lo1 hgr (Nat.le_refl _) lo1.size
  have HK2 := Lib.hid hK2
  have HKS2 := Lib.hid hks2
  clear htk hK hK2 hks hks2
  go_wp2
  go_roundw
  case rel => exact ⟨k + 1, es', ck', _, by omega, by go_num, lon, hmp2, HKS2.out, HK2.out⟩
  case measure => simp [intOf]; omega
 obtain rfl : k = ns.length := by omega
 have hlen := len_set wr _ es ck hmp
 have he : es.length = ks.length := by have := congrArg List.length hks; simpa using this
 have hE : decide ((es.length : Int) = (ns.length : Int)) = decide (Cm.texts ns).Nodup := by
  have := hK.eq
  rw [List.take_of_length_le (by simp [Cm.texts])] at this
  rw [he]
  by_cases hn : (Cm.texts ns).Nodup
  ·
   rw [decide_eq_true hn, decide_eq_true]
   have := this.2 hn
   omega
  rw [decide_eq_false hn, decide_eq_false]
  intro h
  exact hn (this.1 (by omega))
 have HE := Lib.hid hE
 clear hK hks he hE
 go_wp2
 go_ret
 exact ⟨ret_bool HE.out, lo⟩

set_option maxRecDepth 100000 in
set_option maxHeartbeats 4000000 in
theorem named_any (c : Cir) (w : World) (hM : CirM w w.heap.size c) (hW : CirW c) (hcap : c.ns.length ≤ c.cN) : Calls Tryz.prog 52 #[.agg #[.int .i64 c.n, .slice c.aL c.ls.length c.cL, .slice c.aG c.gs.length c.cG, .slice c.aO c.os.length c.cO, .slice c.aB c.bs.length c.cB, .slice c.aC c.cs.length c.cC, .slice c.aF c.fs.length c.cF, .slice c.aN c.ns.length c.cN]] w fun e w' => e = .returned (.bool (Cm.namedB c)) ∧ Below w.heap.size w w' := by
 have hbx := boxed w c
 have lo := lowAlloc w (Obj.cells #[.int .i64 c.n, .slice c.aL c.ls.length c.cL, .slice c.aG c.gs.length c.cG, .slice c.aO c.os.length c.cO, .slice c.aB c.bs.length c.cB, .slice c.aC c.cs.length c.cC, .slice c.aF c.fs.length c.cF, .slice c.aN c.ns.length c.cN] 29)
 have hnot : ∀ (x : Bool) (w : World), (Op.unary .not (.bool x)).run Tryz.prog w = .ok (.bool (!x)) w := fun _ _ => rfl
 have hM1 := (hM.below lo (Nat.le_refl _)).more lo.size
 have H1 := Lib.hid (ordered4_any c _ hM1 hW hcap)
 have H2 : Hid (∀ V, Below w.heap.size w V → Calls Tryz.prog 80 #[.slice c.aN c.ns.length c.cN, .func (.func 81) #[] #[]] V fun e w' => e = .returned (.bool (!c.ns.all (fun x => Cm.wordB x.2.2))) ∧ Below V.heap.size V w') := fun V hb =>
  containsNames_any c.aN c.cN c.ns V hW.ln ((hM.hn.below hb (Nat.le_refl _)).more hb.size) (fun x hx => (hW.hk x hx).2.2)
 have H3 : Hid (∀ V, Below w.heap.size w V → Calls Tryz.prog 82 #[.slice c.aN c.ns.length c.cN] V fun e w' => e = .returned (.bool (decide (Cm.texts c.ns).Nodup)) ∧ Below V.heap.size V w') := fun V hb =>
  distinct_any c.aN c.cN c.ns V hW.ln ((hM.hn.below hb (Nat.le_refl _)).more hb.size)
 unfold Cm.namedB
 generalize Cm.ordS c 6 0 c.ns = x at *
 generalize c.ns.all (fun x => Cm.wordB x.2.2) = y at *
 generalize decide (Cm.texts c.ns).Nodup = z at *
 have c0 := hbx.cell 0; have c1 := hbx.cell 1; have c2 := hbx.cell 2; have c3 := hbx.cell 3; have c4 := hbx.cell 4; have c5 := hbx.cell 5; have c6 := hbx.cell 6; have c7 := hbx.cell 7; simp only [zD, zE, zF] at c0 c1 c2 c3 c4 c5 c6 c7
 go_enter Tryz.func52, Tryz.ntmps52
 go_wp2_with fail
 refine H1.out.mono ?_
 rintro e w1 ⟨rfl, hb1⟩
 replace hbx := hbx.below hb1 hbx.lt
 replace lo := lo.trans (hb1.mono lo.size)
 clear c0 c1 c2 c3 c4 c5 c6 c7
 have c0 := hbx.cell 0; have c1 := hbx.cell 1; have c2 := hbx.cell 2; have c3 := hbx.cell 3; have c4 := hbx.cell 4; have c5 := hbx.cell 5; have c6 := hbx.cell 6; have c7 := hbx.cell 7; simp only [zD, zE, zF] at c0 c1 c2 c3 c4 c5 c6 c7
 cases x with
 | false =>
  go_wp2
  go_ret
  exact ⟨rfl, lo⟩
 | true =>
  go_wp2_with fail
  refine (H2.out _ lo).mono ?_
  rintro e w2 ⟨rfl, hb2⟩
  replace hbx := hbx.below hb2 hbx.lt
  replace lo := lo.trans (hb2.mono lo.size)
  clear c0 c1 c2 c3 c4 c5 c6 c7
  have c0 := hbx.cell 0; have c1 := hbx.cell 1; have c2 := hbx.cell 2; have c3 := hbx.cell 3; have c4 := hbx.cell 4; have c5 := hbx.cell 5; have c6 := hbx.cell 6; have c7 := hbx.cell 7; simp only [zD, zE, zF] at c0 c1 c2 c3 c4 c5 c6 c7
  cases y with
  | false =>
   go_wp2
   go_ret
   exact ⟨rfl, lo⟩
  | true =>
   go_wp2_with fail
   refine (H3.out _ lo).mono ?_
   rintro e w3 ⟨rfl, hb3⟩
   replace lo := lo.trans (hb3.mono lo.size)
   go_wp2
   go_ret
   exact ⟨by simp, lo⟩

set_option maxRecDepth 100000 in
set_option maxHeartbeats 4000000 in
theorem Right4_any (c : Cir) (w : World) (hM : CirM w w.heap.size c) (hW : CirW c) (hcap : c.ns.length ≤ c.cN) : Calls Tryz.prog 21 #[.agg #[.int .i64 c.n, .slice c.aL c.ls.length c.cL, .slice c.aG c.gs.length c.cG, .slice c.aO c.os.length c.cO, .slice c.aB c.bs.length c.cB, .slice c.aC c.cs.length c.cC, .slice c.aF c.fs.length c.cF, .slice c.aN c.ns.length c.cN]] w fun e w' => e = .returned (.bool (Cm.rightC c)) ∧ Below w.heap.size w w' := by
 have hbx := boxed w c
 have lo := lowAlloc w (Obj.cells #[.int .i64 c.n, .slice c.aL c.ls.length c.cL, .slice c.aG c.gs.length c.cG, .slice c.aO c.os.length c.cO, .slice c.aB c.bs.length c.cB, .slice c.aC c.cs.length c.cC, .slice c.aF c.fs.length c.cF, .slice c.aN c.ns.length c.cN] 29)
 have HMB : Hid (∀ V, Below w.heap.size w V → CirM V V.heap.size c) := fun V hb => (hM.below hb (Nat.le_refl _)).more hb.size
 have hrc : Cm.rightC c = (Cm.fitsB c && Gm.rightB (c.n + c.ls.length) c.gs && Cm.drivenB c && Cm.namedB c) := rfl
 generalize Cm.rightC c = z at *
 have c0 := hbx.cell 0; have c1 := hbx.cell 1; have c2 := hbx.cell 2; have c3 := hbx.cell 3; have c4 := hbx.cell 4; have c5 := hbx.cell 5; have c6 := hbx.cell 6; have c7 := hbx.cell 7; simp only [zD, zE, zF] at c0 c1 c2 c3 c4 c5 c6 c7
 have HRC := Lib.hid hrc
 clear hrc
 go_enter Tryz.func21, Tryz.ntmps21
 go_wp2_with fail
 refine (fits4_any c _).mono ?_
 rintro e w1 ⟨rfl, hb1⟩
 replace hbx := hbx.below hb1 hbx.lt
 replace lo := lo.trans (hb1.mono lo.size)
 clear c0 c1 c2 c3 c4 c5 c6 c7
 have c0 := hbx.cell 0; have c1 := hbx.cell 1; have c2 := hbx.cell 2; have c3 := hbx.cell 3; have c4 := hbx.cell 4; have c5 := hbx.cell 5; have c6 := hbx.cell 6; have c7 := hbx.cell 7; simp only [zD, zE, zF] at c0 c1 c2 c3 c4 c5 c6 c7
 have HF := Lib.hid (fun h => Cm.wrapW (c := c) h)
 have HD := Lib.hid (fun V (hb : Below w.heap.size w V) h => driven_any c V (HMB.out V hb) hW h)
 generalize Cm.fitsB c = f at *
 cases f with
 | false =>
  go_wp2
  go_ret
  exact ⟨ret_bool (by rw [HRC.out]; simp), lo⟩
 | true =>
  go_wp2_with fail
  refine (inner_any c _).mono ?_
  rintro e w2 ⟨rfl, hb2⟩
  rw [HF.out trivial]
  replace hbx := hbx.below hb2 hbx.lt
  replace lo := lo.trans (hb2.mono lo.size)
  clear c0 c1 c2 c3 c4 c5 c6 c7
  have c0 := hbx.cell 0; have c1 := hbx.cell 1; have c2 := hbx.cell 2; have c3 := hbx.cell 3; have c4 := hbx.cell 4; have c5 := hbx.cell 5; have c6 := hbx.cell 6; have c7 := hbx.cell 7; simp only [zD, zE, zF] at c0 c1 c2 c3 c4 c5 c6 c7
  have HR := Lib.hid (Right_any (c.n + c.ls.length) c.aG c.cG c.gs w2 w2.heap.size hW.lg (HMB.out _ lo).hg (Nat.le_refl _) hW.hg)
  go_wp2_with fail
  refine HR.out.mono ?_
  rintro e w3 ⟨rfl, hb3⟩
  replace hbx := hbx.below hb3 hbx.lt
  replace lo := lo.trans (hb3.mono lo.size)
  clear c0 c1 c2 c3 c4 c5 c6 c7
  have c0 := hbx.cell 0; have c1 := hbx.cell 1; have c2 := hbx.cell 2; have c3 := hbx.cell 3; have c4 := hbx.cell 4; have c5 := hbx.cell 5; have c6 := hbx.cell 6; have c7 := hbx.cell 7; simp only [zD, zE, zF] at c0 c1 c2 c3 c4 c5 c6 c7
  clear HR
  generalize Gm.rightB (c.n + c.ls.length) c.gs = g at *
  cases g with
  | false =>
   go_wp2
   go_ret
   exact ⟨ret_bool (by rw [HRC.out]; simp), lo⟩
  | true =>
   go_wp2_with fail
   refine (HD.out _ lo trivial).mono ?_
   rintro e w4 ⟨rfl, hb4⟩
   replace hbx := hbx.below hb4 hbx.lt
   replace lo := lo.trans (hb4.mono lo.size)
   clear c0 c1 c2 c3 c4 c5 c6 c7
   have c0 := hbx.cell 0; have c1 := hbx.cell 1; have c2 := hbx.cell 2; have c3 := hbx.cell 3; have c4 := hbx.cell 4; have c5 := hbx.cell 5; have c6 := hbx.cell 6; have c7 := hbx.cell 7; simp only [zD, zE, zF] at c0 c1 c2 c3 c4 c5 c6 c7
   clear HD HF
   generalize Cm.drivenB c = d at *
   cases d with
   | false =>
    go_wp2
    go_ret
    exact ⟨ret_bool (by rw [HRC.out]; simp), lo⟩
   | true =>
    have HN := Lib.hid (named_any c w4 (HMB.out _ lo) hW hcap)
    generalize Cm.namedB c = m at *
    go_wp2_with fail
    refine HN.out.mono ?_
    rintro e w5 ⟨rfl, hb5⟩
    replace lo := lo.trans (hb5.mono lo.size)
    go_wp2
    go_ret
    exact ⟨ret_bool (by rw [HRC.out]; simp), lo⟩
end Go.Proofs.YtpejilhdhkmcjaaGreatDoor
/- literal, signal, Signal, number, Find. -/
namespace Go.Proofs.YtpejilhdhkmcjaaGreatDoor
open Go.RowKit

namespace Cm
def isDig (b : UInt8) : Bool := decide (48 ≤ b.toNat) && decide (b.toNat ≤ 57)
def valS (l : List UInt8) : Nat := l.foldl (fun n b => 10 * n + (b.toNat - 48)) 0
theorem valS_snoc (l : List UInt8) (b : UInt8) : valS (l ++ [b]) = 10 * valS l + (b.toNat - 48) := by simp [valS]
theorem val_acc (l : List UInt8) (h : l.all isDig = true) (a : Nat) : l.foldl (fun n b => 10 * n + (b.toNat - 48)) a < (a + 1) * 10 ^ l.length := by
 induction l generalizing a with
 | nil => simp
 | cons b t ih =>
  simp only [List.all_cons, Bool.and_eq_true] at h
  have hb := h.1
  simp [isDig] at hb
  have := ih h.2 (10 * a + (b.toNat - 48))
  rw [List.foldl_cons, List.length_cons, Nat.pow_succ, Nat.mul_comm _ 10, ← Nat.mul_assoc]
  refine Nat.lt_of_lt_of_le this (Nat.mul_le_mul_right _ ?_)
  omega
theorem valS_le (l : List UInt8) (h : l.all isDig = true) : valS l < 10 ^ l.length := by
 have := val_acc l h 0
 simpa [valS] using this
/-- A number of one to six digits without noughts ahead; else none. -/
def digS (t : ByteArray) : Option Nat := if 1 ≤ t.size ∧ t.size ≤ 6 ∧ ¬ (1 < t.size ∧ (t.data.toList.headD 0).toNat = 48) ∧ t.data.toList.all isDig = true then some (valS t.data.toList) else none
end Cm

theorem index_str (t : ByteArray) (i : Nat) (h : i < t.size) (w : World) : (Instr.index 9 (.string t) (.int .i64 (i : Int))).run Tryz.prog w = .ok (.int .u8 ((t[i]'h).toNat : Int)) w := by
 have e : t[i]? = some (t[i]'h) := by simp [h]
 simp [Instr.index, run_underlying Tryz.underlying9, Result.andThen, Sem.run_bind, asIntOf, e]
theorem head_byte (t : ByteArray) (h : 0 < t.size) : t.data.toList.headD 0 = t[0]'h := by
 obtain ⟨⟨l⟩⟩ := t
 cases l with
 | nil => simp [ByteArray.size] at h
 | cons x r => rfl

end Go.Proofs.YtpejilhdhkmcjaaGreatDoor
/- inputs, value, steps, Find, Of. -/
namespace Go.Proofs.YtpejilhdhkmcjaaGreatDoor
open Go.RowKit

namespace Cm
theorem right_fits {c : Cir} (h : rightC c = true) : fitsB c = true := by
 simp only [Cm.rightC, Bool.and_eq_true] at h
 exact h.1.1.1
end Cm

end Go.Proofs.YtpejilhdhkmcjaaGreatDoor
/- Find, Is, After. -/
namespace Go.Proofs.YtpejilhdhkmcjaaGreatDoor
open Go.RowKit

theorem str_eq (a b : ByteArray) : (a.toList == b.toList) = decide (a = b) := by
 rw [ByteArray.toList_eq, ByteArray.toList_eq, Bool.eq_iff_iff]
 simp only [beq_iff_eq, decide_eq_true_eq]
 constructor
 ·
  exact WideShapes.bytes_inj
 intro h
 rw [h]
namespace Cm
end Cm

end Go.Proofs.YtpejilhdhkmcjaaGreatDoor
/- Is and After. -/
namespace Go.Proofs.YtpejilhdhkmcjaaGreatDoor
open Go.RowKit

end Go.Proofs.YtpejilhdhkmcjaaGreatDoor
/- After. -/
namespace Go.Proofs.YtpejilhdhkmcjaaGreatDoor
open Go.RowKit

namespace Cm
end Cm
end Go.Proofs.YtpejilhdhkmcjaaGreatDoor
/- awake of layer 4. -/
namespace Go.Proofs.YtpejilhdhkmcjaaGreatDoor
open Go.RowKit

theorem ns_nil {w : World} {B : Nat} {A : Option Addr} : Ns w B A [] := fun k hk => by simp at hk
end Go.Proofs.YtpejilhdhkmcjaaGreatDoor
