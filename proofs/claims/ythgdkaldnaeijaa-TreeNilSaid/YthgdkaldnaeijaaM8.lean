import Derived.Test.YthgdkaldnaeijaaM7
import Derived.Deep.Slices
import Derived.Deep.Fields
import Derived.ChangeSame
import Derived.Carry
import Derived.ProofKit
import Derived.OpenShut
import Derived.Test.YthgdkaldnaeijaaRows
import Derived.Test.YthgdkaldnaeijaaM6
section
namespace Go.Proofs
open Go.ChangeShapes Go.WideShapes Go.ChangeAt Go.RowKit Go.Deep
set_option linter.unusedVariables false
set_option maxRecDepth 100000
theorem spot_none {W : World} {a : Addr} {u : Value} (h : W.cell? ((a.add 0).add 0) = some u) : a.spot = none ∧ a.block < W.heap.size := by
  have e0 : (a.add 0).add 0 = a := by unfold Addr.add; simp
  rw [e0] at h
  refine ⟨?_, World.block_lt_of_cell? W _ h⟩
  unfold World.cell? at h
  split at h
  · split at h
    · cases h
    · rename_i hns; simpa using hns
  · cases h
/-! ### What came in, element by element -/
def Ins {α : Type} (enc : α → List Value) (ok : α → Prop) (s : Nat) (w : World) (V : Value) (l : List α) : Prop :=
  ∃ A c, V = .slice A l.length c ∧ ∀ (k : Nat) (a : α), l[k]? = some a → ∃ b off, A = some ⟨b, off, none⟩ ∧ b < w.heap.size ∧ ok a ∧
    ∀ (j : Nat) (u : Value), (enc a)[j]? = some u → w.cell? ⟨b, off + k * s + j, none⟩ = some u
section
variable {α : Type} {enc : α → List Value} {ok : α → Prop} {s : Nat} {w : World}
theorem Ins.open_ {V : Value} {l : List α} (h : Ins enc ok s w V l) : ∃ A c, V = .slice A l.length c := by
  obtain ⟨A, c, h1, _⟩ := h; exact ⟨A, c, h1⟩
theorem Ins.is_ {A : Option Addr} {n c : Nat} {l : List α} (h : Ins enc ok s w (.slice A n c) l) {k : Nat} (hk : k < n) :
    ∃ b off a, A = some ⟨b, off, none⟩ ∧ l[k]? = some a ∧ ok a ∧ b < w.heap.size ∧ ∀ W, Chg [] w W → ∀ (j : Nat) (u : Value), (enc a)[j]? = some u → W.cell? ⟨b, off + k * s + j, none⟩ = some u := by
  obtain ⟨A', c', hv, ho⟩ := h
  simp only [Value.slice.injEq] at hv
  obtain ⟨rfl, rfl, rfl⟩ := hv
  obtain ⟨a, ha⟩ : ∃ a, l[k]? = some a := ⟨_, List.getElem?_eq_getElem hk⟩
  obtain ⟨b, off, rfl, hb, hf, h2⟩ := ho k a ha
  exact ⟨b, off, a, rfl, ha, hf, hb, fun W hc j u hj => (hc.cell (p := ⟨b, off + k * s + j, none⟩) hb (by simp)).trans (h2 j u hj)⟩
end

structure CarvC where
/-- An act. -/
structure ActT where
  kind : Int
  n : Int
abbrev ActT.cells (a : ActT) : List Value := [.int .i64 a.kind, .int .i64 a.n]
structure ActT.Fits (a : ActT) : Prop where
  n0 : -9223372036854775808 ≤ a.n
  n1 : a.n ≤ 9223372036854775807
abbrev ActsT (w : World) (V : Value) (l : List ActT) : Prop := Ins ActT.cells ActT.Fits 2 w V l
section
variable {H : Type} {enc : TypeId × Value → H} {w : World} {base : Nat} {held : Bool}
/-- Elements that came in. -/
theorem open_insT {α : Type} [Inhabited α] {cells : α → List Value} {ok : α → Prop} {s : Nat} {ty el : TypeId} (hty : Try.prog.underlying ty = some (.slice el)) (hce : Try.prog.cellsOf el = s) (hs : ∀ a, (cells a).length = s) (hs1 : 1 ≤ s)
    {W : World} (each1 : ∀ {fuel : Nat} {cs : List Value} {x : DataW H × List MemPlace}, DataW.trod enc Try.prog W 0 (fun _ => true) true fuel el cs = some x → ∃ a, ok a ∧ cs = cells a)
    {fuel : Nat} {cs : List Value} {x : DataW H × List MemPlace} (hf : DataW.trod enc Try.prog W 0 (fun _ => true) true fuel ty cs = some x) :
    ∃ V l, cs = [V] ∧ Ins cells ok s W V l := by
  rcases open_slice hty hf with ⟨hcs, _⟩ | ⟨a, len, cap, m, n, D, Pl, hcs, hb, hl, hm, hmm, hx, hi⟩
  · exact ⟨_, [], hcs, none, 0, rfl, fun k a hk => by simp at hk⟩
  · refine ⟨.slice (some a) len cap, ?_⟩
    have hml : len ≤ m := by rw [hmm]; simp; exact hl
    rcases Nat.eq_zero_or_pos len with h0 | h0
    · subst h0
      exact ⟨[], hcs, some a, cap, rfl, fun k a hk => by simp at hk⟩
    · have each : ∀ i, i < m → ∃ a1 : α, ok a1 ∧ ∀ (j : Nat) (u : Value), (cells a1)[j]? = some u → W.cell? ((a.add (i * s)).add j) = some u := fun i him => by
        obtain ⟨cs', hc, ht⟩ := hi i him
        rw [hce] at hc
        obtain ⟨a1, hf1, rfl⟩ := each1 ht
        obtain ⟨_, _, hat⟩ := World.cells?_some hc
        exact ⟨a1, hf1, fun j u hj => (hat j (by have := (List.getElem?_eq_some_iff.1 hj).1; rw [hs] at this; exact this)).trans hj⟩
      obtain ⟨hsp, hbl⟩ : a.spot = none ∧ a.block < W.heap.size := by
        obtain ⟨a1, _, hc⟩ := each 0 (by omega)
        have := hc 0 _ (List.getElem?_eq_getElem (by rw [hs]; omega))
        rw [Nat.zero_mul] at this
        exact spot_none this
      obtain ⟨b, off, sp⟩ := a
      simp only at hsp hbl
      subst hsp
      have hadd : ∀ i j, ((⟨b, off, none⟩ : Addr).add (i * s)).add j = ⟨b, off + i * s + j, none⟩ := fun i j => by
        unfold Addr.add
        by_cases h1 : i * s = 0 <;> by_cases h2 : j = 0 <;> simp [h1, h2] <;> omega
      refine ⟨(List.range len).map (fun i => if h : i < m then (each i h).choose else default), hcs, some ⟨b, off, none⟩, cap, by simp, ?_⟩
      intro k a1 hk
      rw [List.getElem?_map, Option.map_eq_some_iff] at hk
      obtain ⟨k', hk', rfl⟩ := hk
      obtain ⟨hk1, rfl⟩ := List.getElem?_eq_some_iff.1 hk'
      simp only [List.length_range] at hk1
      rw [List.getElem_range]
      rw [dif_pos (by omega : k < m)]
      obtain ⟨q1, q2⟩ := (each k (by omega)).choose_spec
      exact ⟨b, off, rfl, hbl, q1, fun j u hj => by have := q2 j u hj; rw [hadd] at this; exact this⟩
theorem open_ins {α : Type} [Inhabited α] {cells : α → List Value} {ok : α → Prop} {s : Nat} {ty el : TypeId} (hty : Try.prog.underlying ty = some (.slice el)) (hce : Try.prog.cellsOf el = s) (hs : ∀ a, (cells a).length = s) (hs1 : 1 ≤ s)
    {W : World} (each1 : ∀ {fuel : Nat} {cs : List Value} {x : DataW H × List MemPlace}, DataW.trod enc Try.prog W 0 (fun _ => true) true fuel el cs = some x → ∃ a, ok a ∧ cs = cells a)
    {v : Value} {d : DataW H} {ps : List MemPlace} (hv : Value.okWide Try.prog W .any 0 ty v) (h : DataW.Trod enc Try.prog W 0 (fun _ => true) true ty v d ps) : ∃ l, Ins cells ok s W v l := by
  obtain ⟨fuel, hf⟩ := h
  obtain ⟨a', len', cap', rfl⟩ := okWide_slice hty hv
  obtain ⟨V, l, e, hI⟩ := open_insT hty hce hs hs1 each1 hf
  simp [Value.cells] at e
  subst e
  exact ⟨l, hI⟩
instance : Inhabited ActT := ⟨⟨0, 0⟩⟩
theorem open_actt {fuel : Nat} {cs : List Value} {x : DataW H × List MemPlace} (h : DataW.trod enc Try.prog w base (fun _ => true) held fuel 33 cs = some x) : ∃ a : ActT, a.Fits ∧ cs = a.cells := by
  obtain ⟨xs, n, _, _, hlen, hxl, hf⟩ := DataW.trod_struct Try.underlying33 h
  have h8 : Try.prog.cellsOf 33 = 2 := by kernel_rfl
  have h3 : Try.prog.cellsOf 3 = 1 := by kernel_rfl
  rw [h8] at hlen
  match cs, hlen with
  | [c0, c1], _ =>
    match xs, hxl with
    | [y0, y1], _ =>
      have g0 := hf 0 _ rfl
      have g1 := hf 1 _ rfl
      simp [h3] at g0 g1
      obtain ⟨A, e0, _, w0⟩ := DataW.trod_int Try.underlying3 g0
      obtain ⟨B, e1, _, w1⟩ := DataW.trod_int Try.underlying3 g1
      simp only [List.cons.injEq, and_true] at e0 e1
      subst e0 e1
      obtain ⟨b0, b1⟩ := bounds_i64 w1
      exact ⟨⟨A, B⟩, ⟨b0, by show B ≤ _; omega⟩, rfl⟩
section
variable {v : Value} {d : DataW H} {ps : List MemPlace} {W : World}
theorem open_acts (hv : Value.okWide Try.prog W .any 0 22 v) (h : DataW.Trod enc Try.prog W 0 (fun _ => true) true 22 v d ps) : ∃ l, ActsT W v l :=
  open_ins (cells := ActT.cells) (ok := ActT.Fits) (s := 2) Try.underlying22 (by kernel_rfl) (fun _ => rfl) (by omega) (fun h => open_actt h) hv h
end
end
section
variable {H : Type} {enc : TypeId × Value → H} {P : Program}
theorem post_of_below {f : Func} {s : ChangeSpec} {apart fresh handsOn again : Bool} {W W' : World} {args : Array Value} {v : Value} {ds gs : List (DataW H)} {before pa pv : List MemPlace}
    (hW : DataW.Whole enc P f.params.toList s.vars apart W args.toList ds gs before)
    (hres : ∀ (b : Nat) (sp : Nat → Bool) (hd : Bool), DataW.TrodAll enc P W' b sp hd f.resultTypes.toList (v.resultList f.resultTypes.size) (s.fn H (ds ++ gs)).results [])
    (hargs : ∀ sp : Nat → Bool, (∀ p ∈ before, sp p.block = true) → DataW.TrodAll enc P W' 0 sp true f.params.toList args.toList (s.fn H (ds ++ gs)).args pa)
    (hvars : ∀ sp : Nat → Bool, (∀ p ∈ before, sp p.block = true) → DataW.TrodVars enc P W' sp s.vars (s.fn H (ds ++ gs)).vars pv)
    (hps : before = pa ++ pv) (hb : Below W.heap.size W W')
    (hok : ∀ (j : Nat) (t : TypeId) (r : Value), f.resultTypes[j]? = some t → (v.resultList f.resultTypes.size)[j]? = some r → Value.okWide P W' .any 0 t r) :
    s.post enc P f apart fresh handsOn again W args v W' := by
  have hlt : ∀ p ∈ before, p.block < W.heap.size := fun p hp => hW.lt p hp
  have hold : ∀ p ∈ before, (fun b => decide (b < W.heap.size)) p.block = true := fun p hp => by simpa using hlt p hp
  refine ⟨ds, gs, before, [], pa, pv, hW, hres _ _ _, hargs _ hold, hvars _ hold, World.keptBut_mono (fun p hp => ⟨hp, ?_⟩) (hb.frame (· ∈ before)), fun _ => ?_⟩
  · rw [hps, List.mem_append] at hp
    exact Or.inr hp
  · obtain ⟨_, _, _, _, _, hz, hn⟩ := hW
    refine ⟨hok, _, _, ([] ++ pa) ++ pv, ⟨[] ++ pa, pv, trodAll_append (hargs _ (fun _ _ => rfl)) (hres _ _ _), hvars _ (fun _ _ => rfl), rfl, ?_, ?_⟩, ?_⟩
    · intro b off hp
      have hin : MemPlace.cell b off ∈ before := by rw [hps]; simpa using hp
      rw [hb.frozen (hlt _ hin)]
      exact hz b off hin
    · intro ha
      have := hn ha
      rw [hps] at this
      simpa using this
    · intro p hp _
      rw [hps]
      simpa using hp
end
theorem Try.laidOut : laidOutB Try.prog = true := by kernel_rfl
end Go.Proofs
end
section
namespace Go.Proofs
open Go.RowKit
set_option linter.unusedVariables false
set_option linter.unusedSimpArgs false

section
variable {f d : Nat} {S T K : List Nat} {t t' : Fo} {m : Nat}
/-- The document first, then the program. -/
theorem pair_df {w w1 w2 : World} {c c' : Tr} {r' : Rf} (hc : TreeAt w f S c) (h2 : RTurns d T K r' w w1) (hs2 : RSim r' t' (m + 1)) (h1 : Turns f S c' w1 w2) (hs : Sim c' t') (hT : ∀ k ∈ T, k < w.heap.size) (hap : ∀ k ∈ S, k ∉ T ∧ k ∉ K) : PTurns f d S T K t' (m + 1) w w2 := by
  obtain ⟨S', a1, a2, a3⟩ := h1
  obtain ⟨K', b1, b2, b3⟩ := h2
  have hS1 := hc.lt
  have hT1 := b1.ltT
  have hK1 := b1.ltK
  have apS : ∀ k ∈ K', k ∉ S := fun k hk hkS => by
    rcases b2 k hk with h | h
    · exact (hap k hkS).2 h
    · have := hS1 k hkS; omega
  refine ⟨S', K', ⟨c', r', a1, hs, b1.chg a3 (fun k hk hkS => (hap k hkS).1 hk) apS, hs2, fun k hk => ⟨fun hkT => ?_, fun hkK => ?_⟩⟩, fun k hk => (a2 k hk).imp id (fun h => Nat.le_trans b3.size h), b2, (b3.mono (fun k hk => .inl (by simp [hk]))).trans a3 (fun k hk => .inl (by simp [hk]))⟩
  · rcases a2 k hk with h | h
    · exact (hap k h).1 hkT
    · have := hT1 k hkT; omega
  · rcases a2 k hk with h | h
    · exact apS k hkK h
    · have := hK1 k hkK; omega
set_option maxHeartbeats 3200000 in
set_option maxRecDepth 100000 in
theorem do_any {w : World} (hp : Pair w f d S T K t m) (hm : m ≤ 1000000) (k n : Int) :
    Calls Try.prog 13 #[ptr f, ptr d, .agg #[.int .i64 k, .int .i64 n]] w fun e w' => e = .returned (.bool true) ∧ ∃ t', PTurns f d S T K t' (m + 1) w w' := by
  have HP := Lib.hid hp
  obtain ⟨c, r, H, hs, R, hr, hap⟩ := hp
  have apST : ∀ k ∈ S, k ∉ T := fun k hk => (hap k hk).1
  have apTS : ∀ k ∈ T, k ∉ S := fun k hk hkS => (hap k hkS).1 hk
  have apKS : ∀ k ∈ K, k ∉ S := fun k hk hkS => (hap k hkS).2 hk
  obtain ⟨l, hl⟩ := Below'.exists hs.wf n
  have hll : l.length ≤ 8192 := by have := hl.len hs.wf; have := hs.big; omega
  have HSlt := Lib.hid H.lt
  have HTlt := Lib.hid R.ltT
  have HAP := Lib.hid hap
  have HH := Lib.hid H
  have HR := Lib.hid R
  have FA := Lib.hid (fun W (hc : Chg [] w W) => cadd_any (H.quiet hc) hs n)
  have DA := Lib.hid (fun W (hc : Chg S w W) => radd_any (R.chg hc apTS apKS) hr n)
  have FD := Lib.hid (fun W (hc : Chg T w W) => cdrop_any (H.chg hc apST) hs n)
  have DD := Lib.hid (fun W (hc : Chg S w W) => rdrop_any (R.chg hc apTS apKS) hr hm n)
  have FP := Lib.hid (fun W (hc : Chg [] w W) => cprune_any (H.quiet hc) hs hl)
  have DP := Lib.hid (fun W (hc : Chg S w W) => rprune_any (R.chg hc apTS apKS) hr hm hl)
  obtain ⟨aN, haN⟩ : ∃ x, x = t.addN n := ⟨_, rfl⟩
  obtain ⟨aE, haE⟩ : ∃ x, x = t.addE n := ⟨_, rfl⟩
  obtain ⟨nE, hnE⟩ : ∃ x, x = t.noE n := ⟨_, rfl⟩
  rw [← haN, ← haE] at FA DA
  rw [← hnE] at FD DD FP DP
  have eN : (aN == aN) = true := by simp
  have eE : (aE == aE) = true := by simp
  have eO : (nE == nE) = true := by simp
  clear H R hs hr hap apST apTS apKS hl haN haE hnE
  by_cases k1 : k = 1
  · subst k1
    go_enter Try.func13, Try.ntmps13
    go_wp2_with (first
      | (go_at_call 27; (refine (FA.out _ ((Chg.refl _ _).alloc _)).mono ?_; rintro e w1 ⟨rfl, c', hs', hT⟩; have hsz := hT; obtain ⟨S', q1, q2, q3⟩ := hsz; have hbx := (Blk.new w 33 #[.int .i64 1, .int .i64 n]).chg q3 (fun hh => by have := HSlt.out _ hh; omega); have x0 := hbx.cell 0; have x1 := hbx.cell 1; have lx := hbx.lt; have HT := Lib.hid (hT.earlier ((Chg.refl [] w).alloc _)); have HS' := Lib.hid hs'; have HC := Lib.hid ((Chg.any (S := S) ((Chg.refl [] w).alloc _)).trans q3 (fun j hj => .inl hj)); clear hT q1 q2 q3 hbx hs'))
      | (go_at_call 32; (refine (DA.out _ HC.out).mono ?_; rintro e w2 ⟨rfl, r', hs2, hT2⟩; have HFIN := Lib.hid (pair_fd HT.out HS'.out HR.out hT2 hs2 HSlt.out HAP.out); clear hT2 hs2)))
    go_ret
    exact ⟨rfl, _, HFIN.out⟩
  · by_cases k2 : k = 2
    · subst k2
      go_enter Try.func13, Try.ntmps13
      go_wp2
      go_region_held3 (fun w' => w'.cell? ⟨w.heap.size, 1, none⟩ = some (.int .i64 n))
        (first | go_keep)
        (first
          | (go_at_call 26; refine (FD.out _ GD.out).mono ?_; rintro e w3 ⟨rfl, c', hs', hT⟩; have HFIN := Lib.hid (pair_df HH.out HTD.out HSD.out hT hs' HTlt.out HAP.out); have hb3 := BD.out.chg (show Chg S _ w3 from by obtain ⟨_, _, _, q3⟩ := hT; exact q3) (fun hh => by have := HSlt.out _ hh; omega); have y1 := hb3.cell 1; clear hT hs' hb3)
          | (go_at_call 33; refine (DD.out _ GF.out).mono ?_; rintro e w3 ⟨rfl, r', hs2, hT2⟩; have HFIN := Lib.hid (pair_fd HTF.out HSF.out HR.out hT2 hs2 HSlt.out HAP.out); have hb3 := BF.out.chg (show Chg T _ w3 from by obtain ⟨_, _, _, q3⟩ := hT2; exact q3) (fun hh => by have := HTlt.out _ hh; omega); have y1 := hb3.cell 1; clear hT2 hs2 hb3)
          | (go_at_call 26; refine (FD.out _ (Chg.any (((Chg.refl [] w).alloc _).drew))).mono ?_; rintro e w1 ⟨rfl, c', hs', hT⟩; have q3 : Chg S ((w.alloc (.cells #[.int .i64 2, .int .i64 n] 33)).drew) w1 := (by obtain ⟨_, _, _, q3⟩ := hT; exact q3); have hb1 := ((Blk.new w 33 #[.int .i64 2, .int .i64 n]).drew).chg q3 (fun hh => by have := HSlt.out _ hh; omega); have x1 := hb1.cell 1; have BF := Lib.hid hb1; have GF := Lib.hid ((Chg.any (S := S) (((Chg.refl [] w).alloc (.cells #[.int .i64 2, .int .i64 n] 33)).drew)).trans q3 (fun j hj => .inl hj)); have HTF := Lib.hid (hT.earlier (((Chg.refl [] w).alloc (.cells #[.int .i64 2, .int .i64 n] 33)).drew)); have HSF := Lib.hid hs'; clear hT hs' hb1 q3)
          | (go_at_call 33; refine (DD.out _ (Chg.any (((Chg.refl [] w).alloc _).drew))).mono ?_; rintro e w1 ⟨rfl, r', hs2, hT2⟩; have q3 : Chg T ((w.alloc (.cells #[.int .i64 2, .int .i64 n] 33)).drew) w1 := (by obtain ⟨_, _, _, q3⟩ := hT2; exact q3); have hb1 := ((Blk.new w 33 #[.int .i64 2, .int .i64 n]).drew).chg q3 (fun hh => by have := HTlt.out _ hh; omega); have x1 := hb1.cell 1; have BD := Lib.hid hb1; have GD := Lib.hid ((Chg.any (S := T) (((Chg.refl [] w).alloc (.cells #[.int .i64 2, .int .i64 n] 33)).drew)).trans q3 (fun j hj => .inl hj)); have HTD := Lib.hid (hT2.earlier (((Chg.refl [] w).alloc (.cells #[.int .i64 2, .int .i64 n] 33)).drew)); have HSD := Lib.hid hs2; clear hT2 hs2 hb1 q3))
      all_goals
        go_wp2
        go_ret
        exact ⟨rfl, _, HFIN.out⟩
    · by_cases k3 : k = 3
      · subst k3
        go_enter Try.func13, Try.ntmps13
        go_wp2_with (first
          | (go_at_call 16; (refine (FP.out _ ((Chg.refl _ _).alloc _)).mono ?_; rintro e w1 ⟨A, cc, rfl, hrd, hft, c', hs', hT⟩; have hsz := hT; obtain ⟨S', q1, q2, q3⟩ := hsz; have hbx := (Blk.new w 33 #[.int .i64 3, .int .i64 n]).chg q3 (fun hh => by have := HSlt.out _ hh; omega); have x0 := hbx.cell 0; have x1 := hbx.cell 1; have lx := hbx.lt; have HT := Lib.hid (hT.earlier ((Chg.refl [] w).alloc _)); have HS' := Lib.hid hs'; have HC := Lib.hid ((Chg.any (S := S) ((Chg.refl [] w).alloc _)).trans q3 (fun j hj => .inl hj)); have HRD := Lib.hid hrd; have HFT := Lib.hid hft; clear hT q1 q2 q3 hbx hs' hrd hft))
          | (go_at_call 34; (refine (DP.out _ HC.out).mono ?_; rintro e w2 ⟨A2, cc2, rfl, hrd2, r', hs2, hT2⟩; have HFIN := Lib.hid (pair_fd HT.out HS'.out HR.out hT2 hs2 HSlt.out HAP.out); have HRD1 := Lib.hid (HRD.out.chg (show Chg T w1 w2 from by obtain ⟨_, _, _, q3⟩ := hT2; exact q3) (fun j hj hjT => by have h9 := HFT.out j hj; rw [World.size_alloc] at h9; have := HTlt.out j hjT; omega)); have HRD2 := Lib.hid hrd2; clear hT2 hs2 hrd2))
          | (go_at_call 21; (refine (rsame_any HRD1.out HRD2.out (by rw [iN_len]; exact hll) (by rw [iN_len]; exact hll)).mono ?_; rintro e w3 ⟨rfl, hc3⟩; have HC3 := Lib.hid hc3; clear hc3)))
        go_ret
        exact ⟨by simp [go_sem], _, HFIN.out.later HC3.out⟩
      · have e1 : (k == 1) = false := by simpa using k1
        have e2 : (k == 2) = false := by simpa using k2
        have e3 : (k == 3) = false := by simpa using k3
        have HFIN := Lib.hid (show ∃ t', PTurns f d S T K t' (m + 1) w (w.alloc (.cells #[.int .i64 k, .int .i64 n] 33)) from by
          obtain ⟨c, r, a1, a2, a3, a4, a5⟩ := HP.out
          exact ⟨t, PTurns.refl ⟨c, r, a1, a2, a3, a4.one, a5⟩ ((Chg.refl _ _).alloc _)⟩)
        go_enter Try.func13, Try.ntmps13
        go_wp2
        go_ret
        exact ⟨rfl, HFIN.out⟩
end
end Go.Proofs
end
section
namespace Go.Proofs
open Go.RowKit
set_option linter.unusedVariables false
set_option linter.unusedSimpArgs false

/-- Is there more than is gone through here? -/
def muchB (n : Int) (m : Nat) (most : Int) : Bool := decide (24 < n) || decide (n < 1) || decide (most < (m : Int))
theorem muchB_false {n : Int} {m : Nat} {most : Int} (h : muchB n m most = false) : 1 ≤ n ∧ n ≤ 24 ∧ (m : Int) ≤ most := by
  simp [muchB] at h
  omega
set_option maxHeartbeats 3200000 in
set_option maxRecDepth 100000 in
theorem much_any (n most : Int) (A : Option Addr) (m c : Nat) (w : World) : Calls Try.prog 9 #[.int .i64 n, .slice A m c, .int .i64 most] w fun e w' => e = .returned (.bool (muchB n m most)) ∧ Chg [] w w' := by
  by_cases h1 : 24 < n
  · have d1 : decide (n > 24) = true := by simpa using h1
    have d1' : decide (24 < n) = true := by simpa using h1
    go_enter Try.func9, Try.ntmps9
    go_wp2
    go_ret
    exact ⟨by simp [muchB, h1], Chg.refl _ _⟩
  have d1 : decide (n > 24) = false := by simpa using h1
  have d1' : decide (24 < n) = false := by simpa using h1
  by_cases h2 : n < 1
  · have d2 : decide (n < 1) = true := by simpa using h2
    go_enter Try.func9, Try.ntmps9
    go_wp2
    go_ret
    exact ⟨by simp [muchB, h2], Chg.refl _ _⟩
  have d2 : decide (n < 1) = false := by simpa using h2
  by_cases h3 : most < (m : Int)
  · have d3 : decide ((m : Int) > most) = true := by simpa using h3
    have d4 : decide (most < (m : Int)) = true := by simpa using h3
    go_enter Try.func9, Try.ntmps9
    go_wp2
    go_ret
    exact ⟨by simp [muchB, h3], Chg.refl _ _⟩
  have d3 : decide ((m : Int) > most) = false := by simpa using h3
  have d4 : decide (most < (m : Int)) = false := by simpa using h3
  go_enter Try.func9, Try.ntmps9
  go_wp2
  go_ret
  exact ⟨by simp [muchB, h1, h2, h3], Chg.refl _ _⟩
/-- Both forests, in blocks that were laid since w. -/
def Mid (w W : World) (f d : Nat) (t : Fo) (m : Nat) : Prop :=
  ∃ S T K, Pair W f d S T K t m ∧ (∀ k ∈ S, w.heap.size ≤ k) ∧ (∀ k ∈ T, w.heap.size ≤ k) ∧ (∀ k ∈ K, w.heap.size ≤ k) ∧ Chg [] w W
section
variable {w W W' : World} {f d : Nat} {t t' : Fo} {m : Nat}
theorem Mid.chg (h : Mid w W f d t m) : Chg [] w W := by obtain ⟨_, _, _, _, _, _, _, h⟩ := h; exact h
theorem Mid.quiet (h : Mid w W f d t m) (hc : Chg [] W W') : Mid w W' f d t m := by
  obtain ⟨S, T, K, h1, h2, h3, h4, h5⟩ := h
  exact ⟨S, T, K, h1.quiet hc, h2, h3, h4, h5.then hc⟩
theorem Mid.do (h : Mid w W f d t m) (hm : m ≤ 1000000) (k n : Int) :
    Calls Try.prog 13 #[ptr f, ptr d, .agg #[.int .i64 k, .int .i64 n]] W fun e W' => e = .returned (.bool true) ∧ ∃ t', Mid w W' f d t' (m + 1) := by
  obtain ⟨S, T, K, h1, h2, h3, h4, h5⟩ := h
  refine (do_any h1 hm k n).mono ?_
  rintro e W' ⟨rfl, t', S', K', a1, a2, a3, a4⟩
  refine ⟨rfl, t', S', T, K', a1, fun k hk => ?_, h3, fun k hk => ?_, h5.trans a4 (fun k hk => ?_)⟩
  · rcases a2 k hk with h | h
    · exact h2 k h
    · have := h5.size; omega
  · rcases a3 k hk with h | h
    · exact h4 k h
    · have := h5.size; omega
  · rcases List.mem_append.1 hk with h | h
    · exact .inr (h2 k h)
    · exact .inr (h3 k h)
/-- A new one of both. -/
theorem mid_new {n h : Nat} {T : List Nat} (h1 : 1 ≤ n) (h2 : n ≤ 4096) {w1 w2 : World} (hc : Chg [] w w1) (hf : TreeAt w1 f [f] (tr0 n)) (hfn : w.heap.size ≤ f)
    (hd : RefAt w2 h T [] (rf0 n)) (hT : ∀ k ∈ T, w1.heap.size ≤ k) (hc2 : Chg [] w1 w2) : Mid w w2 f h (Fo.new n) 0 := by
  have hlt := hf.lt f (by simp)
  refine ⟨[f], T, [], ⟨_, _, hf.quiet hc2, Sim.new h1 h2, hd, RSim.new h2, fun k hk => ⟨fun hkT => ?_, by simp⟩⟩, fun k hk => by simp at hk; omega, fun k hk => Nat.le_trans hc.size (hT k hk), fun k hk => (by cases hk), hc.then hc2⟩
  have := hT k hkT
  simp at hk; omega
end
end Go.Proofs
end
section
namespace Go.Proofs
open Go.RowKit
set_option linter.unusedVariables false
set_option linter.unusedSimpArgs false

/-- Both look the same, wherever both are turned alike. -/
def SameOk : Prop := ∀ (w W : World) (f d : Nat) (t : Fo) (m : Nat), Mid w W f d t m → Calls Try.prog 14 #[ptr f, ptr d] W fun e w' => e = .returned (.bool true) ∧ Chg [] W w'
/-- The cells of an act. -/
theorem ActsT.at_ {w : World} {A : Option Addr} {n c : Nat} {l : List ActT} (h : ActsT w (.slice A n c) l) {k : Nat} (hk : k < n) :
    ∃ b off kd nn, A = some ⟨b, off, none⟩ ∧ ∀ W, Chg [] w W → b < W.heap.size ∧ W.cell? ⟨b, off + k * 2, none⟩ = some (.int .i64 kd) ∧ W.cell? ⟨b, off + k * 2 + 1, none⟩ = some (.int .i64 nn) := by
  obtain ⟨b, off, a, hA, _, _, hb, hc⟩ := h.is_ hk
  exact ⟨b, off, a.kind, a.n, hA, fun W hW => ⟨Nat.lt_of_lt_of_le hb hW.size, hc W hW 0 _ rfl, hc W hW 1 _ rfl⟩⟩
set_option maxHeartbeats 12800000 in
set_option maxRecDepth 100000 in
theorem plays_of (HSO : Hid SameOk) (n : Int) (V : Value) (acts : List ActT) (w : World) (hV : ActsT w V acts) :
    Calls Try.prog 3 #[.int .i64 n, V] w fun e w' => e = .returned (.bool true) ∧ Chg [] w w' := by
  have HK := Lib.hid known_any
  obtain ⟨A2, c2, rfl⟩ := hV.open_
  obtain ⟨m, hm⟩ : ∃ m, m = acts.length := ⟨_, rfl⟩
  rw [← hm] at hV ⊢
  have HV := Lib.hid hV
  clear hV hm
  have HM := Lib.hid (much_any n 80 A2 m c2)
  obtain ⟨b, hb⟩ : ∃ b, b = muchB n m 80 := ⟨_, rfl⟩
  rw [← hb] at HM
  cases b with
  | true =>
    clear hb
    go_enter Try.func3, Try.ntmps3
    go_wp2_with (first
      | (go_at_call 9; refine (HM.out _).mono ?_; rintro e w1 ⟨rfl, hc⟩; have HC := Lib.hid hc; clear hc)
      | (go_at_call 10; refine (HK.out _).mono ?_; rintro e w2 ⟨rfl, hc⟩))
    go_ret
    exact ⟨rfl, HC.out.then hc⟩
  | false =>
    obtain ⟨n1, n2, hm80⟩ := muchB_false hb.symm
    obtain ⟨s, rfl⟩ : ∃ s : Nat, n = s := ⟨n.toNat, by omega⟩
    clear hb
    have HN := Lib.hid (new_any s (by omega) (by omega))
    have HR := Lib.hid (rnew_any s (by omega) (by omega))
    have hs1 : 1 ≤ s := by omega
    have hs2 : s ≤ 4096 := by omega
    go_enter Try.func3, Try.ntmps3
    go_wp2_with (first
      | (go_at_call 9; refine (HM.out _).mono ?_; rintro e w1 ⟨rfl, hc⟩; have HC := Lib.hid hc; clear hc)
      | (go_at_call 11; refine (HN.out _).mono ?_; rintro e w2 ⟨rfl, hT, hc⟩; have HTR := Lib.hid hT; have hfs := HC.out.size; have HC := Lib.hid (HC.out.then hc); clear hc hT)
      | (go_at_call 12; refine (HR.out _).mono ?_; rintro e w3 ⟨d, T, rfl, hR, hTn, hc⟩; have HMID := Lib.hid (mid_new hs1 hs2 HC.out HTR.out hfs hR hTn hc); clear hR hTn hc hfs HTR HC))
    obtain ⟨f, hf⟩ : ∃ f, f = w1.heap.size := ⟨_, rfl⟩
    rw [← hf] at HMID ⊢
    clear hf
    go_loopg [8] m (fun gh iv wr => ∃ (j : Nat) (t : Fo), j + gh = m ∧ iv = .int .i64 j ∧ Hid (Mid w wr f d t j))
    case atStart => exact ⟨0, _, by omega, rfl, HMID⟩
    case round =>
      obtain ⟨j, t, hj, rfl, HMI⟩ := hrel
      by_cases hlt : j < m
      · have j0 : (0 : Int) ≤ (j : Int) := by omega
        have j1 : (j : Int) < (m : Int) := by omega
        obtain ⟨bI, oI, kd, nn, hA, hcells⟩ := HV.out.at_ hlt
        subst hA
        obtain ⟨z0, z1, z2⟩ := hcells wr HMI.out.chg
        have HDO := Lib.hid (HMI.out.do (by omega) kd nn)
        have d1 : decide ((j : Int) < (m : Int)) = true := by simpa using j1
        clear HV hcells
        go_wp2_with (first
          | (go_at_call 13; refine HDO.out.mono ?_; rintro e w4 ⟨rfl, t', hM'⟩; have HM' := Lib.hid hM'; clear hM')
          | (go_at_call 14; refine (HSO.out _ _ _ _ _ _ HM'.out).mono ?_; rintro e w5 ⟨rfl, hc⟩; have HM' := Lib.hid (HM'.out.quiet hc); clear hc))
        go_roundg (m - j - 1)
        case measure => omega
        case rel => exact ⟨j + 1, t', by omega, by go_num, HM'⟩
      · have d1 : decide ((j : Int) < (m : Int)) = false := by simp; omega
        go_wp2_with (go_at_call 10; refine (HK.out _).mono ?_; rintro e w2 ⟨rfl, hc⟩)
        go_ret
        exact ⟨rfl, HMI.out.chg.then hc⟩
end Go.Proofs
end
section
namespace Go.Proofs
open Go.RowKit
set_option linter.unusedVariables false
set_option linter.unusedSimpArgs false

/-- Are two places the same? -/
def EqPl (a b : Fo) (k : Nat) : Prop := a.there k = b.there k ∧ a.par k = b.par k ∧ a.kids k = b.kids k
theorem alike_of {a b : Fo} (ha : a.WF) (hb : b.WF) (hs : a.size = b.size) (hr : a.roots = b.roots) (h : ∀ k, k < a.size → EqPl a b k) : Alike a b := by
  have out : ∀ k, ¬ k < a.size → EqPl a b k := fun k hk => by
    have h1 : a.there k = false := by cases hh : a.there k with | false => rfl | true => exact absurd (ha.lt k hh) hk
    have h2 : b.there k = false := by cases hh : b.there k with | false => rfl | true => exact absurd (hb.lt k hh) (by rw [← hs]; exact hk)
    unfold EqPl
    rw [h1, h2, (ha.off k h1).1, (ha.off k h1).2, (hb.off k h2).1, (hb.off k h2).2]
    exact ⟨rfl, rfl, rfl⟩
  have all : ∀ k, EqPl a b k := fun k => by by_cases hk : k < a.size; exact h k hk; exact out k hk
  exact ⟨hs, hr, fun n => (all n).1, fun n => (all n).2.1, fun n => (all n).2.2⟩
theorem Alike.pl {a b : Fo} (h : Alike a b) (k : Nat) : EqPl a b k := ⟨h.there k, h.par k, h.kids k⟩
section
variable {w : World} {h1 h2 : Nat} {T1 K1 T2 K2 : List Nat} {r1 r2 : Rf} {t1 t2 : Fo} {m1 m2 : Nat}
theorem RefAt.place (H : RefAt w h1 T1 K1 r1) (hs : RSim r1 t1 m1) {k : Nat} (hk : k < t1.size) : ∃ g cl A cc f, ∀ W, Chg [] w W → W.cell? ⟨h1, 0, none⟩ = some (.slice (some ⟨g, 0, none⟩) t1.size cl) ∧ h1 < W.heap.size ∧ g < W.heap.size ∧ (0 : Int) ≤ (k : Int) ∧ (k : Int) < (t1.size : Int) ∧
    W.cell? ⟨g, k * 4, none⟩ = some (.bool (t1.there k)) ∧ W.cell? ⟨g, k * 4 + 1, none⟩ = some (.int .i64 (oI (t1.par k))) ∧ W.cell? ⟨g, k * 4 + 2, none⟩ = some (.slice A (t1.kids k).length cc) ∧ W.cell? ⟨g, k * 4 + 3, none⟩ = some (.int .i64 f) ∧ Rd W (.slice A (t1.kids k).length cc) (iN (t1.kids k)) := by
  obtain ⟨g, cl, _, hne, hcl, htell⟩ := H.tell
  obtain ⟨p, hp, q1, q2, q3⟩ := hs.get hk
  have hr := (H.plok hp).1
  refine ⟨g, cl, p.A, p.cc, p.freed, fun W hc => ?_⟩
  obtain ⟨a0, a1, a2, lh, lg, fg, fh, hpl⟩ := htell W hc
  obtain ⟨b0, b1, b2, b3⟩ := hpl k p hp
  rw [hs.len] at a0
  rw [q1] at b0
  rw [q3] at b1
  rw [← q2]
  exact ⟨a0, lh, lg, by omega, by omega, b0, b1, b2, b3, hr.quiet hc⟩
theorem RefAt.roots (H : RefAt w h1 T1 K1 r1) (hs : RSim r1 t1 m1) : ∃ g cl A cc, ∀ W, Chg [] w W → W.cell? ⟨h1, 0, none⟩ = some (.slice (some ⟨g, 0, none⟩) t1.size cl) ∧ h1 < W.heap.size ∧ W.cell? ⟨h1, 1, none⟩ = some (.slice A t1.roots.length cc) ∧ Rd W (.slice A t1.roots.length cc) (iN t1.roots) := by
  obtain ⟨g, cl, _, hne, hcl, htell⟩ := H.tell
  have hR : Rd w r1.V (iN r1.R) := by obtain ⟨_, _, _, _, _, hR, _⟩ := H; exact hR
  refine ⟨g, cl, r1.RA, r1.Rcc, fun W hc => ?_⟩
  obtain ⟨a0, a1, a2, lh, lg, fg, fh, hpl⟩ := htell W hc
  rw [hs.len] at a0
  rw [← hs.roots]
  exact ⟨a0, lh, a1, hR.quiet hc⟩
set_option maxHeartbeats 6400000 in
set_option maxRecDepth 100000 in
theorem rsame2_any (H1 : RefAt w h1 T1 K1 r1) (H2 : RefAt w h2 T2 K2 r2) (s1 : RSim r1 t1 m1) (s2 : RSim r2 t2 m2) {b : Bool} (hb : b = true ↔ Alike t1 t2) :
    Calls Try.prog 30 #[ptr h1, ptr h2] w fun e w' => e = .returned (.bool b) ∧ Chg [] w w' := by
  obtain ⟨g1, c1, A1, cc1, hr1⟩ := H1.roots s1
  obtain ⟨g2, c2, A2, cc2, hr2⟩ := H2.roots s2
  have HR1 := Lib.hid hr1
  have HR2 := Lib.hid hr2
  have HP1 := Lib.hid (fun k (hk : k < t1.size) => H1.place s1 hk)
  have HP2 := Lib.hid (fun k (hk : k < t2.size) => H2.place s2 hk)
  have HAL := Lib.hid (fun (hs : t1.size = t2.size) (hr : t1.roots = t2.roots) (h : ∀ k, k < t1.size → EqPl t1 t2 k) => hb.2 (alike_of s1.wf s2.wf hs hr h))
  have HNO := Lib.hid (fun (h : b = true) => hb.1 h)
  have big1 := s1.big
  have big2 := s2.big
  have HL1 := Lib.hid (fun o => Nat.le_trans (s1.wf.row_len o) big1)
  have HL2 := Lib.hid (fun o => Nat.le_trans (s2.wf.row_len o) big2)
  obtain ⟨a0, la, a1, hra⟩ := hr1 w (Chg.refl _ _)
  obtain ⟨d0, ld, d1, hrd⟩ := hr2 w (Chg.refl _ _)
  obtain ⟨n1, e1⟩ : ∃ n, n = t1.size := ⟨_, rfl⟩
  obtain ⟨n2, e2⟩ : ∃ n, n = t2.size := ⟨_, rfl⟩
  rw [← e1] at a0 HP1 HAL big1 HR1
  rw [← e2] at d0 HP2 HAL big2 HR2
  have E1 := Lib.hid e1
  have E2 := Lib.hid e2
  clear H1 H2 s1 s2 hb hr1 hr2 e1 e2
  have hfalse : ¬ Alike t1 t2 → b = false := fun h => by cases hbb : b with | false => rfl | true => exact absurd (HNO.out hbb) h
  have HFA := Lib.hid hfalse
  clear hfalse
  by_cases hn : n1 = n2
  · subst hn
    have hne : ((n1 : Int) != (n1 : Int)) = false := by simp
    have HI := Lib.hid (fun W (hc : Chg [] w W) => rsame_any (w := W) (v1 := .slice A1 t1.roots.length cc1) (v2 := .slice A2 t2.roots.length cc2) (hra.quiet hc) (hrd.quiet hc) (by rw [iN_len]; have := HL1.out none; exact Nat.le_trans this (by omega)) (by rw [iN_len]; have := HL2.out none; exact Nat.le_trans this (by omega)))
    obtain ⟨rb, hrb⟩ : ∃ rb, rb = (iN t1.roots == iN t2.roots) := ⟨_, rfl⟩
    rw [← hrb] at HI
    have HRB := Lib.hid (show rb = true ↔ t1.roots = t2.roots by rw [hrb, beq_iff_eq]; exact ⟨iN_inj, fun h => by rw [h]⟩)
    clear hra hrd hrb
    cases rb with
    | false =>
      have HBF := Lib.hid (HFA.out (fun ha => by have := HRB.out.2 ha.roots; cases this))
      go_enter Try.func30, Try.ntmps30
      go_wp2
      go_region_held3 (fun w' => w'.cell? ⟨h1, 0, none⟩ = some (.slice (some ⟨g1, 0, none⟩) n1 c1) ∧ w'.cell? ⟨h2, 0, none⟩ = some (.slice (some ⟨g2, 0, none⟩) n1 c2) ∧ w'.cell? ⟨h1, 1, none⟩ = some (.slice A1 t1.roots.length cc1) ∧ w'.cell? ⟨h2, 1, none⟩ = some (.slice A2 t2.roots.length cc2))
        (first | go_keep)
        (first | (go_at_call 21; refine (HI.out _ ((Chg.refl _ _).drew)).mono ?_; rintro e w1 ⟨rfl, hc1⟩; have hc2 := (((Chg.refl [] w).drew).then hc1); obtain ⟨k0, _, k1, _⟩ := HR1.out w1 hc2; obtain ⟨k2, _, k3, _⟩ := HR2.out w1 hc2; have HC1 := Lib.hid hc2; clear hc1 hc2))
      all_goals
        go_wp2
        go_ret
        exact ⟨by rw [HBF.out]; rfl, by repeat' (first | with_reducible exact HC1.out | with_reducible apply Chg.drew)⟩
    | true =>
      go_enter Try.func30, Try.ntmps30
      go_wp2
      go_region_held3 (fun w' => w'.cell? ⟨h1, 0, none⟩ = some (.slice (some ⟨g1, 0, none⟩) n1 c1) ∧ w'.cell? ⟨h2, 0, none⟩ = some (.slice (some ⟨g2, 0, none⟩) n1 c2) ∧ w'.cell? ⟨h1, 1, none⟩ = some (.slice A1 t1.roots.length cc1) ∧ w'.cell? ⟨h2, 1, none⟩ = some (.slice A2 t2.roots.length cc2))
        (first | go_keep)
        (first | (go_at_call 21; refine (HI.out _ ((Chg.refl _ _).drew)).mono ?_; rintro e w1 ⟨rfl, hc1⟩; have hc2 := (((Chg.refl [] w).drew).then hc1); obtain ⟨k0, _, k1, _⟩ := HR1.out w1 hc2; obtain ⟨k2, _, k3, _⟩ := HR2.out w1 hc2; have HC1 := Lib.hid hc2; clear hc1 hc2))
      all_goals
        have HRT := Lib.hid (HRB.out.1 (by first | rfl | trivial))
        clear a0 a1 d0 d1 la ld HI k0 k1 k2 k3
        go_wp2
        go_loopg [5] n1 (fun gh iv wx => ∃ k : Nat, k + gh = n1 ∧ iv = .int .i64 k ∧ Hid ((∀ j, j < k → EqPl t1 t2 j) ∧ Chg [] w wx))
        case atStart => exact ⟨0, by omega, rfl, Lib.hid ⟨fun j hj => by omega, by repeat' (first | with_reducible exact HC1.out | with_reducible apply Chg.drew)⟩⟩
        case round =>
          obtain ⟨k, hk, rfl, HI⟩ := hrel
          have hc := HI.out.2
          by_cases hlt : k < n1
          · obtain ⟨ga, ca, pA, pc, pf, hpa⟩ := HP1.out k hlt
            obtain ⟨gb, cb, qA, qc, qf, hqa⟩ := HP2.out k hlt
            obtain ⟨x0, lx, lgx, i0, i1, x1, x2, x3, x4, hrx⟩ := hpa wr hc
            obtain ⟨y0, ly, lgy, _, _, y1, y2, y3, y4, hry⟩ := hqa wr hc
            have hl1 := HL1.out (some k)
            have hl2 := HL2.out (some k)
            have HIN := Lib.hid (fun W (hcw : Chg [] wr W) => rsame_any (w := W) (v1 := .slice pA (t1.kids k).length pc) (v2 := .slice qA (t2.kids k).length qc) (hrx.quiet hcw) (hry.quiet hcw) (by rw [iN_len]; exact Nat.le_trans hl1 (by omega)) (by rw [iN_len]; exact Nat.le_trans hl2 (by omega)))
            obtain ⟨kb, hkb⟩ : ∃ kb, kb = (iN (t1.kids k) == iN (t2.kids k)) := ⟨_, rfl⟩
            rw [← hkb] at HIN
            have HKB := Lib.hid (show kb = true ↔ t1.kids k = t2.kids k by rw [hkb, beq_iff_eq]; exact ⟨iN_inj, fun h => by rw [h]⟩)
            obtain ⟨b1, hb1⟩ : ∃ b1, b1 = t1.there k := ⟨_, rfl⟩
            obtain ⟨b2, hb2⟩ : ∃ b2, b2 = t2.there k := ⟨_, rfl⟩
            obtain ⟨p1, hp1⟩ : ∃ p1, p1 = oI (t1.par k) := ⟨_, rfl⟩
            obtain ⟨p2, hp2⟩ : ∃ p2, p2 = oI (t2.par k) := ⟨_, rfl⟩
            rw [← hb1] at x1
            rw [← hb2] at y1
            rw [← hp1] at x2
            rw [← hp2] at y2
            have HYES := Lib.hid (fun (e1 : b1 = b2) (e2 : p1 = p2) (e3 : kb = true) => show EqPl t1 t2 k from ⟨by rw [← hb1, ← hb2, e1], oI_inj (by rw [← hp1, ← hp2, e2]), HKB.out.1 e3⟩)
            have HNB := Lib.hid (fun (e : ¬ b1 = b2) => HFA.out (fun ha => e (by rw [hb1, hb2]; exact ha.there k)))
            have HNP := Lib.hid (fun (e : ¬ p1 = p2) => HFA.out (fun ha => e (by rw [hp1, hp2, ha.par k])))
            have HNK := Lib.hid (fun (e : kb = false) => HFA.out (fun ha => by have := HKB.out.2 (ha.kids k); rw [e] at this; cases this))
            have HHI := Lib.hid hc
            obtain ⟨l1, hl1'⟩ : ∃ l1, l1 = (t1.kids k).length := ⟨_, rfl⟩
            obtain ⟨l2, hl2'⟩ : ∃ l2, l2 = (t2.kids k).length := ⟨_, rfl⟩
            rw [← hl1'] at x3 HIN
            rw [← hl2'] at y3 HIN
            clear hpa hqa hrx hry hl1 hl2 hkb hb1 hb2 hp1 hp2 hc hl1' hl2'
            go_wp2
            go_region_held3 (fun w' => w'.cell? ⟨h1, 0, none⟩ = some (.slice (some ⟨ga, 0, none⟩) n1 ca) ∧ w'.cell? ⟨h2, 0, none⟩ = some (.slice (some ⟨gb, 0, none⟩) n1 cb) ∧ w'.cell? ⟨ga, k * 4, none⟩ = some (.bool b1) ∧ w'.cell? ⟨ga, k * 4 + 1, none⟩ = some (.int .i64 p1) ∧ w'.cell? ⟨ga, k * 4 + 2, none⟩ = some (.slice pA l1 pc) ∧ w'.cell? ⟨ga, k * 4 + 3, none⟩ = some (.int .i64 pf) ∧ w'.cell? ⟨gb, k * 4, none⟩ = some (.bool b2) ∧ w'.cell? ⟨gb, k * 4 + 1, none⟩ = some (.int .i64 p2) ∧ w'.cell? ⟨gb, k * 4 + 2, none⟩ = some (.slice qA l2 qc) ∧ w'.cell? ⟨gb, k * 4 + 3, none⟩ = some (.int .i64 qf))
              (first | go_keep)
              (fail)
            all_goals
              by_cases eb : b1 = b2
              · subst eb
                have nb : (b1 != b1) = false := by simp
                by_cases ep : p1 = p2
                · subst ep
                  have np : (p1 != p1) = false := by simp
                  cases kb with
                  | true =>
                    have HY := Lib.hid (HYES.out rfl rfl rfl)
                    clear HNB HNP HNK HYES
                    go_wp2_with (go_at_call 21; (refine (HIN.out _ (by repeat' (first | with_reducible exact Chg.refl [] _ | with_reducible apply Chg.alloc | with_reducible apply Chg.drew | with_reducible apply Chg.setCell))).mono ?_; rintro e W5 ⟨rfl, hc5⟩; have HC5 := Lib.hid (HHI.out.then (Chg.then (by repeat' (first | with_reducible exact Chg.refl [] _ | with_reducible apply Chg.alloc | with_reducible apply Chg.drew | with_reducible apply Chg.setCell)) hc5)); clear hc5))
                    go_roundg (n1 - k - 1)
                    case measure => omega
                    case rel => exact ⟨k + 1, by omega, by go_num, Lib.hid ⟨fun j hj => by by_cases e : j = k; subst e; exact HY.out; exact HI.out.1 j (by omega), HC5.out⟩⟩
                  | false =>
                    have HN := Lib.hid (HNK.out rfl)
                    clear HNB HNP HNK HYES
                    go_wp2_with (go_at_call 21; (refine (HIN.out _ (by repeat' (first | with_reducible exact Chg.refl [] _ | with_reducible apply Chg.alloc | with_reducible apply Chg.drew | with_reducible apply Chg.setCell))).mono ?_; rintro e W5 ⟨rfl, hc5⟩; have HC5 := Lib.hid (HHI.out.then (Chg.then (by repeat' (first | with_reducible exact Chg.refl [] _ | with_reducible apply Chg.alloc | with_reducible apply Chg.drew | with_reducible apply Chg.setCell)) hc5)); clear hc5))
                    go_ret
                    exact ⟨by rw [HN.out]; rfl, HC5.out⟩
                · have np : (p1 != p2) = true := by simpa using ep
                  have HN := Lib.hid (HNP.out ep)
                  clear HNB HNP HNK HYES ep HIN
                  go_wp2
                  go_ret
                  exact ⟨by rw [HN.out]; rfl, HHI.out.then (by repeat' (first | with_reducible exact Chg.refl [] _ | with_reducible apply Chg.alloc | with_reducible apply Chg.drew | with_reducible apply Chg.setCell))⟩
              · have HN := Lib.hid (HNB.out eb)
                clear HNB HNP HNK HYES HIN
                cases b1 with
                | true =>
                  cases b2 with
                  | true => exact absurd rfl eb
                  | false =>
                    clear eb
                    go_wp2
                    go_ret
                    exact ⟨by rw [HN.out]; rfl, HHI.out.then (by repeat' (first | with_reducible exact Chg.refl [] _ | with_reducible apply Chg.alloc | with_reducible apply Chg.drew | with_reducible apply Chg.setCell))⟩
                | false =>
                  cases b2 with
                  | false => exact absurd rfl eb
                  | true =>
                    clear eb
                    go_wp2
                    go_ret
                    exact ⟨by rw [HN.out]; rfl, HHI.out.then (by repeat' (first | with_reducible exact Chg.refl [] _ | with_reducible apply Chg.alloc | with_reducible apply Chg.drew | with_reducible apply Chg.setCell))⟩
          · obtain rfl : k = n1 := by omega
            have HY := Lib.hid (HAL.out (by first | rfl | trivial | (rw [← E1.out, ← E2.out])) HRT.out HI.out.1)
            obtain ⟨gz, cz, Az, cz2, hz⟩ : ∃ g c A cc, wr.cell? ⟨h1, 0, none⟩ = some (.slice (some ⟨g, 0, none⟩) k c) ∧ h1 < wr.heap.size ∧ A = (none : Option Addr) ∧ cc = 0 := ⟨g1, c1, none, 0, (HR1.out wr HI.out.2).1, (HR1.out wr HI.out.2).2.1, rfl, rfl⟩
            obtain ⟨z0, z1, _, _⟩ := hz
            go_wp2
            go_ret
            exact ⟨by rw [HY.out]; rfl, HI.out.2⟩
  · have hne : ((n1 : Int) != (n2 : Int)) = true := by simp; omega
    have HBF := Lib.hid (HFA.out (fun ha => hn (by rw [E1.out, E2.out]; exact ha.size)))
    clear hra hrd hn
    go_enter Try.func30, Try.ntmps30
    go_wp2
    go_quiet (fail)
    go_wp2
    go_ret
    exact ⟨by rw [HBF.out]; rfl, (Chg.refl _ _).drewN _⟩
end
end Go.Proofs
end
