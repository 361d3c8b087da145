import Derived.Test.YtoddffpbbnicpaaRvC
namespace Go.Proofs
open Go.RowKit
set_option linter.unusedVariables false

/-- What one act, done on both, comes to: true is told, and both have the same again. -/
def DoPost (q g h r : Nat) (S : List Nat) (M : Nat) (L : List Int) (N : Option Int) (w : World) (e : Ending) (w' : World) : Prop :=
  e = .returned (.bool true) ∧ ∃ L' N', Does q g h r S M L' N' w w' ∧ (Nd L N → Nd L' N')
section
variable {w : World} {q g h r M : Nat} {S : List Nat} {L : List Int} {N : Option Int}

set_option maxRecDepth 100000 in
set_option maxHeartbeats 3200000 in
theorem do1 (H : Two w q g h r S M L N) (G : Int) (yes : Bool) (A : Option Addr) (n c : Nat) :
    Calls Try.prog 12 #[.pointer (some ⟨q, 0, none⟩), .pointer (some ⟨r, 0, none⟩), .agg #[.int .i64 1, .int .i64 G, .bool yes, .slice A n c]] w (DoPost q g h r S M L N w) := by
  unfold DoPost
  obtain ⟨hs1, hs2, hs3, hs4⟩ := H.small
  have hhas := rhas_any (H.ref.quiet ((Chg.refl _ _).alloc (.cells #[.int .i64 1, .int .i64 G, .bool yes, .slice A n c] 35))) (by omega) G
  have HND := Lib.hid (fun (hno : G ∉ N.toList ++ L) (h  : Nd L N) => Nd.put (M := M) h hno)
  have HNO := Lib.hid (fun h9 : hasQ L N G = false => hasQ_not h9)
  obtain ⟨B, hB⟩ : ∃ B, B = hasQ L N G := ⟨_, rfl⟩
  rw [← hB] at hhas HNO
  cases B with
  | true =>
    have HH := Lib.hid (H.does ((Chg.refl _ _).alloc (.cells #[.int .i64 1, .int .i64 G, .bool yes, .slice A n c] 35)))
    clear H hB HND HNO
    go_enter Try.func12, Try.ntmps12
    go_wp2_with (go_at_call 31; refine hhas.mono ?_; rintro e w' ⟨rfl, rfl⟩)
    go_ret
    exact ⟨rfl, _, _, HH.out, fun h => h⟩
  | false =>
    have hbG : w.heap.size ∉ [q, g, h] := fun hm => by have := H.queue.lt _ hm; omega
    have hbr : w.heap.size ∉ [r] := fun hm => by have := H.ref.lt _ (H.ref.mem); simp at hm; omega
    have HG := Lib.hid hbG
    have HR := Lib.hid hbr
    have HLT := Lib.hid H.queue.lt
    have hrl := H.ref.lt _ H.ref.mem
    have hq := put_any (H.queue.quiet (((Chg.refl _ _).alloc (.cells #[.int .i64 1, .int .i64 G, .bool yes, .slice A n c] 35)).drew)) G
    have HRF := Lib.hid (fun w1 (hc : Chg [q, g, h] (w.alloc (.cells #[.int .i64 1, .int .i64 G, .bool yes, .slice A n c] 35)).drew w1) => rput_any ((H.quiet (((Chg.refl _ _).alloc _).drew)).rest hc) G hs2 hs3 hs4)
    have HST := Lib.hid (fun w1 w2 w3 hQ h1 hT hc => H.step (w1 := w1) (w2 := w2) (w3 := w3) (L' := putL M L G) (N' := N) (((Chg.refl _ _).alloc (.cells #[.int .i64 1, .int .i64 G, .bool yes, .slice A n c] 35)).drew) hQ h1 (Chg.refl _ _) hT hc)
    have hsz : (putS M L G).length ≤ 8192 := by
      unfold putS; split <;> simp [List.length_take]; omega
    obtain ⟨X, hX⟩ : ∃ X, X = putS M L G := ⟨_, rfl⟩
    rw [← hX] at hq HRF hsz
    have hsame := fun W v1 v2 (h1 : Rd W v1 X) (h2 : Rd W v2 X) => rsame_any h1 h2 hsz hsz
    simp only [beq_self_eq_true] at hsame
    clear H hbG hbr hs1 hs2 hs3 hs4 hX hB hsz
    go_enter Try.func12, Try.ntmps12
    go_wp2_with (go_at_call 31; refine hhas.mono ?_; rintro e w' ⟨rfl, rfl⟩)
    go_region_held3 (fun w' => w'.cell? ⟨w.heap.size, 1, none⟩ = some (.int .i64 G))
      (first | go_keep)
      (first
        | (go_at_call 14; refine hq.mono ?_; rintro e w1 ⟨v, rfl, hT⟩; have b5 := (Blk.new w 35 #[.int .i64 1, .int .i64 G, .bool yes, .slice A n c]).drew.chg hT.2.2.2 HG.out; have k1 := b5.cell 1; have HB := Lib.hid b5; have HT := Lib.hid hT; clear b5 hT)
        | (go_at_call 32; refine (HRF.out _ HT.out.2.2.2).mono ?_; rintro e w2 ⟨v2, rfl, hU⟩; have b6 := HB.out.chg hU.2.2.choose_spec.2.2 HR.out; have k2 := b6.cell 1; have HV := Lib.hid (hU.2.2.choose_spec.2.2); have HU := Lib.hid hU; clear b6 hU)
        | (go_at_call 23; refine (hsame _ _ _ (HT.out.rd.chg HV.out (fun k hk hm => by have := HT.out.2.2.1 k hk; simp at this hm; omega)) HU.out.1).mono ?_; rintro e w3 ⟨rfl, hc⟩; have b7 := (HB.out.chg HV.out HR.out).chg hc (by simp); have k3 := b7.cell 1; have HC := Lib.hid hc; clear hc b7))
    all_goals
      go_wp2
      go_ret
      exact ⟨rfl, _, _, HST.out _ _ _ HT.out.1 HT.out.2.2.2 HU.out.2.2 HC.out, fun h => HND.out (HNO.out (by first | trivial | rfl)) h⟩

set_option maxRecDepth 100000 in
set_option maxHeartbeats 3200000 in
theorem do2 (H : Two w q g h r S M L N) (G : Int) (yes : Bool) (A : Option Addr) (n c : Nat) :
    Calls Try.prog 12 #[.pointer (some ⟨q, 0, none⟩), .pointer (some ⟨r, 0, none⟩), .agg #[.int .i64 2, .int .i64 G, .bool yes, .slice A n c]] w (DoPost q g h r S M L N w) := by
  unfold DoPost
  obtain ⟨hs1, hs2, hs3, hs4⟩ := H.small
  have hhas := rhas_any (H.ref.quiet ((Chg.refl _ _).alloc (.cells #[.int .i64 2, .int .i64 G, .bool yes, .slice A n c] 35))) (by omega) G
  have HND := Lib.hid (fun (hno : G ∉ N.toList ++ L) (h  : Nd L N) => Nd.putNext (M := M) h hno)
  have HNO := Lib.hid (fun h9 : hasQ L N G = false => hasQ_not h9)
  obtain ⟨B, hB⟩ : ∃ B, B = hasQ L N G := ⟨_, rfl⟩
  rw [← hB] at hhas HNO
  cases B with
  | true =>
    have HH := Lib.hid (H.does ((Chg.refl _ _).alloc (.cells #[.int .i64 2, .int .i64 G, .bool yes, .slice A n c] 35)))
    clear H hB HND HNO
    go_enter Try.func12, Try.ntmps12
    go_wp2_with (go_at_call 31; refine hhas.mono ?_; rintro e w' ⟨rfl, rfl⟩)
    go_ret
    exact ⟨rfl, _, _, HH.out, fun h => h⟩
  | false =>
    have hbG : w.heap.size ∉ [q, g, h] := fun hm => by have := H.queue.lt _ hm; omega
    have hbr : w.heap.size ∉ [r] := fun hm => by have := H.ref.lt _ (H.ref.mem); simp at hm; omega
    have HG := Lib.hid hbG
    have HR := Lib.hid hbr
    have HLT := Lib.hid H.queue.lt
    have hrl := H.ref.lt _ H.ref.mem
    have hq := putNext_any (H.queue.quiet (((Chg.refl _ _).alloc (.cells #[.int .i64 2, .int .i64 G, .bool yes, .slice A n c] 35)).drew)) G
    have HRF := Lib.hid (fun w1 (hc : Chg [q, g, h] (w.alloc (.cells #[.int .i64 2, .int .i64 G, .bool yes, .slice A n c] 35)).drew w1) => rputNext_any ((H.quiet (((Chg.refl _ _).alloc _).drew)).rest hc) G hs2 hs3 hs4)
    have HST := Lib.hid (fun w1 w2 w3 hQ h1 hT hc => H.step (w1 := w1) (w2 := w2) (w3 := w3) (L' := kickL M L N) (N' := some G) (((Chg.refl _ _).alloc (.cells #[.int .i64 2, .int .i64 G, .bool yes, .slice A n c] 35)).drew) hQ h1 (Chg.refl _ _) hT hc)
    have hsz : (kickS M L N).length ≤ 8192 := by
      cases N <;> simp only [kickS, List.length_nil, putS] <;> (try split) <;> simp [List.length_take] <;> omega
    obtain ⟨X, hX⟩ : ∃ X, X = kickS M L N := ⟨_, rfl⟩
    rw [← hX] at hq HRF hsz
    have hsame := fun W v1 v2 (h1 : Rd W v1 X) (h2 : Rd W v2 X) => rsame_any h1 h2 hsz hsz
    simp only [beq_self_eq_true] at hsame
    clear H hbG hbr hs1 hs2 hs3 hs4 hX hB hsz
    go_enter Try.func12, Try.ntmps12
    go_wp2_with (go_at_call 31; refine hhas.mono ?_; rintro e w' ⟨rfl, rfl⟩)
    go_region_held3 (fun w' => w'.cell? ⟨w.heap.size, 1, none⟩ = some (.int .i64 G))
      (first | go_keep)
      (first
        | (go_at_call 15; refine hq.mono ?_; rintro e w1 ⟨v, rfl, hT⟩; have b5 := (Blk.new w 35 #[.int .i64 2, .int .i64 G, .bool yes, .slice A n c]).drew.chg hT.2.2.2 HG.out; have k1 := b5.cell 1; have HB := Lib.hid b5; have HT := Lib.hid hT; clear b5 hT)
        | (go_at_call 33; refine (HRF.out _ HT.out.2.2.2).mono ?_; rintro e w2 ⟨v2, rfl, hU⟩; have b6 := HB.out.chg hU.2.2.choose_spec.2.2 HR.out; have k2 := b6.cell 1; have HV := Lib.hid (hU.2.2.choose_spec.2.2); have HU := Lib.hid hU; clear b6 hU)
        | (go_at_call 23; refine (hsame _ _ _ (HT.out.rd.chg HV.out (fun k hk hm => by have := HT.out.2.2.1 k hk; simp at this hm; omega)) HU.out.1).mono ?_; rintro e w3 ⟨rfl, hc⟩; have b7 := (HB.out.chg HV.out HR.out).chg hc (by simp); have k3 := b7.cell 1; have HC := Lib.hid hc; clear hc b7))
    all_goals
      go_wp2
      go_ret
      exact ⟨rfl, _, _, HST.out _ _ _ HT.out.1 HT.out.2.2.2 HU.out.2.2 HC.out, fun h => HND.out (HNO.out (by first | trivial | rfl)) h⟩
end
end Go.Proofs
