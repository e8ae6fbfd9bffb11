/-
  What the program's own Nods and Nodders answer, in the words of NodM; for lists of knots whose words have at most 2^40 bytes.
-/
import Derived.Test.YtodgkhlnefggdaaGreatNodS
import Derived.Test.YtodgkhlnefggdaaGreatNodH
import Derived.Test.YtodgkhlnefggdaaGreatDoubX
import Derived.Test.YtodgkhlnefggdaaGreatAskX
import Derived.ChangeKeysEq
namespace Go.Proofs.YtodgkhlnefggdaaGreat
open Go.RowKit
set_option maxRecDepth 100000
namespace Nd
open Kn (K okK)
open Bit (bit withB memTo)
open Lc (at' RdK WordsOk laceB setB amongI HandsOk)
open Sg (isB bel belows seesB metI)
open Db (dblN dblS doubledB)

theorem infoSet : (Tryz.prog.info? 49).map (fun i => (i.zero, i.size, i.bytes)) = some (some (.int .i64 0), 1, 8) := by kernel_rfl

/-- two rows of four hands are compared -/
theorem eqHand (a0 a1 a2 a3 b0 b1 b2 b3 : Int) (W : World) : (binOp .eql 125 (.agg #[.int .i64 a0, .int .i64 a1, .int .i64 a2, .int .i64 a3]) (.agg #[.int .i64 b0, .int .i64 b1, .int .i64 b2, .int .i64 b3])).run Tryz.prog W = .ok (.bool (a0 == b0 && (a1 == b1 && (a2 == b2 && a3 == b3)))) W := by
  obtain ⟨i0, hi, hz0, hz1, hz2⟩ := info_parts infoSet
  rw [run_eql_struct, run_equalIn_array W 9999 _ _ (by kernel_rfl : Tryz.prog.underlying 125 = some (.array 4 49)) hi]
  rw [show List.range 4 = [0, 1, 2, 3] from rfl, show Tryz.prog.cellsOf 49 = 1 from by kernel_rfl]
  have hu : Tryz.prog.underlying 49 = some (.int .i64) := by kernel_rfl
  have hp : ∀ (xs : Array Value) (i : Nat) (v : Value), xs[i]? = some v → (part 49 xs i).run Tryz.prog W = .ok v W := fun xs i v h => by
    simp [part, isAgg, run_underlying hu, h]
  have he : ∀ x y : Int, (Op.equalIn 9999 49 (.int .i64 x) (.int .i64 y)).run Tryz.prog W = .ok (x == y) W := fun x y => run_equalIn_int W 9998 49 .i64 .i64 x y hu
  simp only [Op.eqItems, Sem.run_bind, Nat.mul_one]
  rw [hp #[.int .i64 a0, .int .i64 a1, .int .i64 a2, .int .i64 a3] 0 (.int .i64 a0) rfl, Result.andThen_ok, hp #[.int .i64 b0, .int .i64 b1, .int .i64 b2, .int .i64 b3] 0 (.int .i64 b0) rfl, Result.andThen_ok, he, Result.andThen_ok]
  by_cases h0 : a0 = b0
  · rw [show (a0 == b0) = true from by simpa using h0]
    simp only [Bool.not_true, Bool.false_eq_true, if_false, Sem.run_bind, Bool.true_and]
    rw [hp #[.int .i64 a0, .int .i64 a1, .int .i64 a2, .int .i64 a3] 1 (.int .i64 a1) rfl, Result.andThen_ok, hp #[.int .i64 b0, .int .i64 b1, .int .i64 b2, .int .i64 b3] 1 (.int .i64 b1) rfl, Result.andThen_ok, he, Result.andThen_ok]
    by_cases h1 : a1 = b1
    · rw [show (a1 == b1) = true from by simpa using h1]
      simp only [Bool.not_true, Bool.false_eq_true, if_false, Sem.run_bind, Bool.true_and]
      rw [hp #[.int .i64 a0, .int .i64 a1, .int .i64 a2, .int .i64 a3] 2 (.int .i64 a2) rfl, Result.andThen_ok, hp #[.int .i64 b0, .int .i64 b1, .int .i64 b2, .int .i64 b3] 2 (.int .i64 b2) rfl, Result.andThen_ok, he, Result.andThen_ok]
      by_cases h2 : a2 = b2
      · rw [show (a2 == b2) = true from by simpa using h2]
        simp only [Bool.not_true, Bool.false_eq_true, if_false, Sem.run_bind, Bool.true_and]
        rw [hp #[.int .i64 a0, .int .i64 a1, .int .i64 a2, .int .i64 a3] 3 (.int .i64 a3) rfl, Result.andThen_ok, hp #[.int .i64 b0, .int .i64 b1, .int .i64 b2, .int .i64 b3] 3 (.int .i64 b3) rfl, Result.andThen_ok, he, Result.andThen_ok]
        cases (a3 == b3) <;> simp
      · rw [show (a2 == b2) = false from by simpa using h2]; simp
    · rw [show (a1 == b1) = false from by simpa using h1]; simp
  · rw [show (a0 == b0) = false from by simpa using h0]; simp

/-- without all that is in d no hand has less: then nothing of it is in x -/
theorem hands_same {L : List K} (hl : laceB L = true) (x d : Int) (h0 : 0 ≤ x) (h1 : x < 1152921504606846976) (hx : ∀ i, bit x i = true → i < L.length) (h2 : 0 ≤ d) (h3 : d < 1152921504606846976) :
    (hf L x 0 L.length == hf L (bits .andNot .i64 x d) 0 L.length && (hf L x 1 L.length == hf L (bits .andNot .i64 x d) 1 L.length && (hf L x 2 L.length == hf L (bits .andNot .i64 x d) 2 L.length && hf L x 3 L.length == hf L (bits .andNot .i64 x d) 3 L.length))) = (bits .and .i64 x d == 0) := by
  have h60 := ((Lc.lace_iff L).1 hl).1
  have hz := Lc.and_zero_iff x d h0 (by omega) h2 (by omega)
  rw [Bool.eq_iff_iff]
  simp only [Bool.and_eq_true, beq_iff_eq]
  constructor
  · rintro ⟨e0, e1, e2, e3⟩
    apply Classical.byContradiction
    intro hne
    obtain ⟨i, hi, hd⟩ := hz.1 hne
    have hil := hx i hi
    have hh := Lc.lace_hands hl _ (Lc.at_mem L i hil)
    have key : ∀ h : Int, (at' L i).hand = h → hf L x h L.length = hf L (bits .andNot .i64 x d) h L.length → False := fun h hm e => by
      have q1 : bit (hf L x h L.length) i = true := by
        unfold hf
        rw [Lc.bit_among _ _ _ _ h60, decide_eq_true hil, hi]; simp [hm]
      rw [e] at q1
      unfold hf at q1
      rw [Lc.bit_among _ _ _ _ h60, Sg.bit_andNot x d h0 h1 h2 h3, hd] at q1
      simp at q1
    have hc : (at' L i).hand = 0 ∨ (at' L i).hand = 1 ∨ (at' L i).hand = 2 ∨ (at' L i).hand = 3 := by omega
    rcases hc with h | h | h | h
    · exact key 0 h e0
    · exact key 1 h e1
    · exact key 2 h e2
    · exact key 3 h e3
  · intro he
    have hb := Sg.andNot_bd' x d h0 h1
    have : bits .andNot .i64 x d = x := Lc.eq_of_bits _ _ hb.1 h0 fun i => by
      rw [Sg.bit_andNot x d h0 h1 h2 h3]
      cases hxi : bit x i
      · rfl
      · cases hdi : bit d i
        · rfl
        · exact absurd he (hz.2 ⟨i, hxi, hdi⟩)
    rw [this]
    exact ⟨rfl, rfl, rfl, rfl⟩

/-- all that speaks against b -/
def agI (L : List K) (b : Int) : Int := if isB L b then dblS L b.toNat L.length else 0

theorem ag_bd {L : List K} (h60 : L.length ≤ 60) (b : Int) : 0 ≤ agI L b ∧ agI L b < 1152921504606846976 := by
  unfold agI
  split
  · exact Db.dblS_bd L _ _ h60
  · exact ⟨Int.le_refl 0, by decide⟩

/-- what a nod asks -/
theorem nods_sees {L : List K} {a b : Int} (hs : seesB L a b = true) : nodsB L a b = (bits .and .i64 (metI L a) (agI L b) == 0) := by
  unfold Sg.seesB at hs
  simp only [Bool.and_eq_true] at hs
  obtain ⟨ha, hb, hbit⟩ := hs
  obtain ⟨a0, a1, _⟩ := Sg.isB_parts ha
  unfold nodsB nodN agI Sg.metI
  rw [ha, hb, hbit, if_pos ⟨a0, a1⟩]
  rfl
theorem nods_blind {L : List K} {a b : Int} (hs : seesB L a b = false) : nodsB L a b = false := by
  unfold Sg.seesB at hs
  unfold nodsB nodN
  cases ha : isB L a
  · rfl
  · cases hb : isB L b
    · rfl
    · rw [ha, hb] at hs
      simp only [Bool.true_and] at hs
      rw [hs]; rfl

theorem met_bd {L : List K} (h60 : L.length ≤ 60) (a : Int) : 0 ≤ metI L a ∧ metI L a < 1152921504606846976 := by
  unfold Sg.metI
  split
  · exact Sg.bel_bd L _ (by omega)
  · exact ⟨Int.le_refl 0, by decide⟩
theorem met_in {L : List K} (hl : laceB L = true) (a : Int) (i : Nat) (h : bit (metI L a) i = true) : i < L.length := by
  unfold Sg.metI at h
  split at h
  · rename_i hc
    apply Classical.byContradiction
    intro hn
    rw [Db.bel_hi hl (by omega : a.toNat < L.length) (by omega)] at h
    exact Bool.noConfusion h
  · rw [Lc.bit_zero] at h; exact Bool.noConfusion h

/-- those of a list that nod to b, as a set -/
def nodF (L : List K) (b : Int) (l : List Int) : Int := l.foldl (fun x a => if nodsB L a b then withB x a.toNat else x) 0

theorem nodF_snoc (L : List K) (b : Int) (l : List Int) (a : Int) : nodF L b (l ++ [a]) = if nodsB L a b then withB (nodF L b l) a.toNat else nodF L b l := by
  unfold nodF; rw [List.foldl_append]; rfl

theorem nodF_bits (L : List K) (b : Int) (l : List Int) (hl : ∀ a ∈ l, 0 ≤ a ∧ a < 60) : (0 ≤ nodF L b l ∧ nodF L b l < 1152921504606846976) ∧ ∀ j : Nat, bit (nodF L b l) j = true ↔ ((j : Int) ∈ l ∧ nodsB L (j : Int) b = true) := by
  suffices H : ∀ (l : List Int) (x : Int), (∀ a ∈ l, 0 ≤ a ∧ a < 60) → (0 ≤ x ∧ x < 1152921504606846976) →
      (0 ≤ l.foldl (fun x a => if nodsB L a b then withB x a.toNat else x) x ∧ l.foldl (fun x a => if nodsB L a b then withB x a.toNat else x) x < 1152921504606846976) ∧
      ∀ j : Nat, bit (l.foldl (fun x a => if nodsB L a b then withB x a.toNat else x) x) j = true ↔ (bit x j = true ∨ ((j : Int) ∈ l ∧ nodsB L (j : Int) b = true)) by
    have := H l 0 hl ⟨Int.le_refl 0, by decide⟩
    refine ⟨this.1, fun j => ?_⟩
    rw [show nodF L b l = l.foldl (fun x a => if nodsB L a b then withB x a.toNat else x) 0 from rfl, this.2 j, Lc.bit_zero]
    simp
  intro l
  induction l with
  | nil => intro x _ hx; exact ⟨hx, fun j => by simp⟩
  | cons a l ih =>
    intro x hl hx
    have ha := hl a (by simp)
    obtain ⟨p, rfl⟩ := Int.eq_ofNat_of_zero_le ha.1
    simp only [List.foldl_cons]
    cases hn : nodsB L (p : Int) b
    · rw [if_neg (by simp)]
      have := ih x (fun a h => hl a (by simp [h])) hx
      refine ⟨this.1, fun j => ?_⟩
      rw [this.2 j]
      constructor
      · rintro (h | ⟨h1, h2⟩)
        · exact .inl h
        · exact .inr ⟨by simp [h1], h2⟩
      · rintro (h | ⟨h1, h2⟩)
        · exact .inl h
        · rcases List.mem_cons.1 h1 with e | e
          · rw [e, hn] at h2; exact Bool.noConfusion h2
          · exact .inr ⟨e, h2⟩
    · rw [if_pos rfl, Int.toNat_natCast]
      have := ih (withB x p) (fun a h => hl a (by simp [h])) (Bit.withB_bd x hx.1 hx.2 p (by omega))
      refine ⟨this.1, fun j => ?_⟩
      rw [this.2 j, Bit.bit_withB x hx.1]
      constructor
      · rintro (h | ⟨h1, h2⟩)
        · rw [Bool.or_eq_true, decide_eq_true_eq] at h
          rcases h with h | h
          · subst h; exact .inr ⟨by simp, hn⟩
          · exact .inl h
        · exact .inr ⟨by simp [h1], h2⟩
      · rintro (h | ⟨h1, h2⟩)
        · exact .inl (by rw [h]; simp)
        · rcases List.mem_cons.1 h1 with e | e
          · exact .inl (by rw [Bool.or_eq_true, decide_eq_true_eq]; exact .inl (by omega))
          · exact .inr ⟨e, h2⟩

theorem mem_memI {s : Int} {x : Int} (h : x ∈ Memb.memI s) : 0 ≤ x ∧ x < 60 := by
  unfold Memb.memI at h
  split at h
  · obtain ⟨j, hj, rfl, _⟩ := (Bit.mem_memTo s 60 x).1 h
    omega
  · exact absurd h (by simp)

theorem bit_and (a b : Int) (h1 : 0 ≤ a) (h2 : a < 9223372036854775808) (h3 : 0 ≤ b) (h4 : b < 9223372036854775808) (i : Nat) : bit (bits .and .i64 a b) i = (bit a i && bit b i) := by
  rw [Lc.i64_and a b h1 h2 h3 h4, Bit.bit_testBit _ (by omega), Int.toNat_natCast, Nat.testBit_and, ← Bit.bit_testBit _ h1, ← Bit.bit_testBit _ h3]

/-- of a set of the lace: the document's Nodders -/
theorem nodF_set {L : List K} {s b : Int} (hs : setB L s = true) (hb : isB L b = true) : nodF L b (Memb.memI s) = noddersI L s b := by
  obtain ⟨hl, q0, q1, qd, _, _⟩ := Lc.setB_parts hs
  have h60 := ((Lc.lace_iff L).1 hl).1
  have hF := nodF_bits L b (Memb.memI s) (fun a h => mem_memI h)
  have hN := nodS_bd L b.toNat L.length h60
  unfold noddersI
  rw [hs, hb]
  simp only [Bool.and_self, if_true]
  refine Lc.eq_of_bits _ _ hF.1.1 (by rw [Lc.i64_and s _ q0 (by omega) hN.1 (by omega)]; omega) fun j => ?_
  rw [Bool.eq_iff_iff, hF.2 j, bit_and s _ q0 (by omega) hN.1 (by omega), bit_nodS L b.toNat L.length h60, Bool.and_eq_true, Bool.and_eq_true, decide_eq_true_eq]
  have hj : (j : Int) ∈ Memb.memI s ↔ bit s j = true := by
    unfold Memb.memI
    rw [(Base.okB_iff s).2 ⟨q0, q1⟩, if_pos rfl]
    rw [Bit.mem_memTo]
    constructor
    · rintro ⟨i, _, e, h⟩
      obtain rfl : j = i := by omega
      exact h
    · intro h
      refine ⟨j, ?_, rfl, h⟩
      apply Classical.byContradiction
      intro hn
      rw [Lc.bit_hi s L.length q0 qd j (by omega)] at h
      exact Bool.noConfusion h
  rw [hj]
  constructor
  · rintro ⟨h1, h2⟩
    unfold nodsB at h2
    rw [Bool.and_eq_true, Bool.and_eq_true] at h2
    obtain ⟨_, p1, _⟩ := Sg.isB_parts h2.1
    exact ⟨h1, by omega, by have := h2.2.2; rwa [Int.toNat_natCast] at this⟩
  · rintro ⟨h1, h2, h3⟩
    refine ⟨h1, ?_⟩
    unfold nodsB
    rw [hb, Int.toNat_natCast, h3, Db.isB_lace hl]
    simp; omega

/-- of one alone: the document's Nods -/
theorem nodF_one (L : List K) (h60 : L.length ≤ 60) (a b : Int) : (Base.okB (nodF L b (Memb.memI (Sg.oneI a))) && (Base.inB a && bit (nodF L b (Memb.memI (Sg.oneI a))) a.toNat)) = nodsB L a b := by
  have hF := nodF_bits L b (Memb.memI (Sg.oneI a)) (fun a h => mem_memI h)
  rw [(Base.okB_iff _).2 hF.1, Bool.true_and]
  by_cases h : 0 ≤ a ∧ a < 60
  · rw [(Base.inB_iff a).2 h, Bool.true_and]
    obtain ⟨p, rfl⟩ := Int.eq_ofNat_of_zero_le h.1
    rw [Int.toNat_natCast, Bool.eq_iff_iff, hF.2 p]
    refine ⟨fun q => q.2, fun q => ⟨?_, q⟩⟩
    unfold Memb.memI
    rw [(Base.okB_iff _).2 (Sg.oneI_bd _), if_pos rfl]
    exact (Bit.mem_memTo _ _ _).2 ⟨p, by omega, rfl, (Sg.bit_oneI _ p).2 ⟨rfl, by omega⟩⟩
  · have : Base.inB a = false := by
      cases hb : Base.inB a
      · rfl
      · exact absurd ((Base.inB_iff a).1 hb) h
    rw [this, Bool.false_and]
    symm
    rw [Bool.eq_false_iff]
    intro hn
    unfold nodsB at hn
    rw [Bool.and_eq_true] at hn
    obtain ⟨a0, a1, _⟩ := Sg.isB_parts hn.1
    exact h ⟨a0, by omega⟩

theorem not_dbl {L : List K} {a : Int} (ha : isB L a = false) (b : Int) : doubledB L a b = false := by unfold Db.doubledB; rw [ha]; rfl

set_option maxHeartbeats 1600000 in
theorem doublesAny (g off cap : Nat) (L : List K) (a : Int) (w : World) (hlc : laceB L = true) (hg : g < w.heap.size) (hr : RdK w (some ⟨g, off, none⟩) L) :
    Calls Tryz.prog 109 #[.slice (some ⟨g, off, none⟩) L.length cap, .int .i64 a] w fun e w' => e = .returned (.int .i64 (agI L a)) ∧ Below w.heap.size w w' := by
  cases ha : isB L a
  · have HT : Hid (agI L a = 0) := by show _ = _; unfold agI; rw [ha]; rfl
    have h60 := ((Lc.lace_iff L).1 hlc).1
    rw [HT.out]
    go_enter Tryz.func109, Tryz.ntmps109
    go_wp2
    go_loopw [5, 9] (fun o i wr => ∃ j : Nat, j ≤ L.length ∧ i = .int .i64 j ∧ o = .int .i64 0 ∧ Hid (Below w.heap.size w wr)) (fun _ i _ => L.length - (intOf i).toNat)
    case atStart => exact ⟨0, by omega, rfl, rfl, Below.refl _ _⟩
    case round =>
      obtain ⟨j, hj, rfl, rfl, HB⟩ := hrel
      by_cases hlt : j < L.length
      · have hg1 : g < wr.heap.size := Nat.lt_of_lt_of_le hg HB.out.size
        have hcall := Db.doubled g off cap L a (j : Int) wr hlc hg1 (hr.below HB.out)
        rw [not_dbl ha] at hcall
        go_wp2_with fail
        refine hcall.mono ?_
        rintro e w1 ⟨rfl, hb1⟩
        have HB1 : Hid (Below w.heap.size w w1) := HB.out.trans (hb1.mono HB.out.size)
        clear hcall hb1 HB hg1
        go_wp2
        go_roundw
        case rel => exact ⟨j + 1, by omega, by go_num, rfl, HB1⟩
        case measure => simp [intOf]; omega
      · obtain rfl : j = L.length := by omega
        go_wp2
        go_ret
        exact ⟨rfl, HB.out⟩
  · have HT : Hid (agI L a = dblS L a.toNat L.length) := by show _ = _; unfold agI; rw [ha]; rfl
    rw [HT.out]
    exact Db.doubles g off cap L a w hlc ha hg hr

set_option maxHeartbeats 1600000 in
theorem nodders (g off cap : Nat) (L : List K) (s b : Int) (w : World) (hlc : laceB L = true) (hg : g < w.heap.size) (hr : RdK w (some ⟨g, off, none⟩) L) :
    Calls Tryz.prog 87 #[.slice (some ⟨g, off, none⟩) L.length cap, .int .i64 s, .int .i64 b] w fun e w' => e = .returned (.int .i64 (nodF L b (Memb.memI s))) ∧ Below w.heap.size w w' := by
  have HLC : Hid (laceB L = true) := hlc
  have h60 := ((Lc.lace_iff L).1 hlc).1
  have hag := ag_bd h60 b
  clear hlc
  go_enter Tryz.func87, Tryz.ntmps87
  go_wp2_with fail
  refine (doublesAny g off cap L b _ HLC.out hg hr).mono ?_
  rintro e w1 ⟨rfl, hb1⟩
  generalize hag' : agI L b = ag at hag ⊢
  have HAG : Hid (agI L b = ag) := hag'
  clear hag'
  go_wp2_with fail
  refine (Memb.picked s _).mono ?_
  rintro e w2 ⟨ao, ca, rfl, hown, hb2⟩
  have hrd := Lst.own_rd hown
  have HBO : Hid (∀ c, ao = some ⟨c, 0, none⟩ → c < w2.heap.size) := fun c e => by subst e; exact (World.ownsRow.lt hown c rfl).2
  have hle : (Memb.memI s).length ≤ 60 := by unfold Memb.memI; split; exact Bit.memTo_le s 60; simp
  have HI : Hid (∀ i ∈ Memb.memI s, 0 ≤ i ∧ i < 60) := fun i h => mem_memI h
  have HB2 : Hid (Below w.heap.size w w2) := hb1.trans (hb2.mono hb1.size)
  clear hown hb1 hb2
  generalize hml : Memb.memI s = l at hrd hle HI ⊢
  have HML : Hid (Memb.memI s = l) := hml
  clear hml
  have hg2 : g < w2.heap.size := Nat.lt_of_lt_of_le hg HB2.out.size
  have HR2 : Hid (RdK w2 (some ⟨g, off, none⟩) L) := hr.below HB2.out
  have HH : Hid (HandsOk L) := Lc.lace_hands HLC.out
  go_wp2
  go_loopw [8, 19] (fun o i wr => ∃ j : Nat, j ≤ l.length ∧ i = .int .i64 j ∧ o = .int .i64 (nodF L b (l.take j)) ∧ Hid (Below w2.heap.size w2 wr)) (fun _ i _ => l.length - (intOf i).toNat)
  case atStart => exact ⟨0, by omega, rfl, rfl, Below.refl _ _⟩
  case round =>
    obtain ⟨j, hj, rfl, rfl, HB⟩ := hrel
    by_cases hlt : j < l.length
    · rcases hrd with hrd | ⟨bb, rfl, hcell⟩
      · rw [hrd] at hlt; simp at hlt
      have hbb := HBO.out bb rfl
      have cj := (HB.out.cell (p := ⟨bb, j, none⟩) hbb).trans (hcell j hlt)
      have hx := HI.out (l.getD j 0) (by simp [List.getD, List.getElem?_eq_getElem hlt])
      have hF := (nodF_bits L b (l.take j) (fun a h => HI.out a (List.mem_of_mem_take h))).1
      have HS : Hid (nodF L b (l.take (j + 1)) = if nodsB L (l.getD j 0) b then withB (nodF L b (l.take j)) (l.getD j 0).toNat else nodF L b (l.take j)) := by
        show _ = _
        rw [Lc.take_snocI l j hlt, nodF_snoc]
      generalize l.getD j 0 = x at cj hx HS
      generalize nodF L b (l.take j) = fo at hF HS ⊢
      have HT : Hid ((Base.okB (metI L x) && (Base.inB b && bit (metI L x) b.toNat)) = seesB L x b) := Sg.met_sees HLC.out x b
      have hmb := met_bd h60 x
      have hok : Base.okB (metI L x) = true := (Base.okB_iff _).2 hmb
      have hok2 : Base.okB (bits .andNot .i64 (metI L x) ag) = true := (Base.okB_iff _).2 (Sg.andNot_bd' _ _ hmb.1 hmb.2)
      have HSM : Hid (_) := hands_same HLC.out (metI L x) ag hmb.1 hmb.2 (met_in HLC.out x) hag.1 hag.2
      have hgr : g < wr.heap.size := Nat.lt_of_lt_of_le hg2 HB.out.size
      have HHF : Hid (∀ (W : World) (y : Int), Below w2.heap.size w2 W → Base.okB y = true → Calls Tryz.prog 110 #[.slice (some ⟨g, off, none⟩) L.length cap, .int .i64 y] W fun e w' => e = .returned (.agg #[.int .i64 (hf L y 0 L.length), .int .i64 (hf L y 1 L.length), .int .i64 (hf L y 2 L.length), .int .i64 (hf L y 3 L.length)]) ∧ Below w2.heap.size w2 w') := fun W y hW hy => by
        refine (handfulsOf g off cap L y W h60 hy HH.out (HR2.out.below hW)).mono ?_
        rintro e w' ⟨h1, h2⟩
        exact ⟨h1, hW.trans (h2.mono hW.size)⟩
      have hcall := Sg.below g off cap L x wr HLC.out hgr (HR2.out.below HB.out)
      clear hcell hgr hmb
      go_wp2_with fail
      refine hcall.mono ?_
      rintro e w3 ⟨rfl, hb3⟩
      have HB3 : Hid (Below w2.heap.size w2 w3) := HB.out.trans (hb3.mono HB.out.size)
      clear hcall hb3 HB cj
      cases hs : seesB L x b
      · have HD : Hid (nodF L b (l.take (j + 1)) = fo) := by show _ = _; rw [HS.out, nods_blind hs]; rfl
        have HT2 : Hid ((Base.okB (metI L x) && (Base.inB b && bit (metI L x) b.toNat)) = false) := HT.out.trans hs
        clear hs HT HS HSM hok hok2
        generalize metI L x = sn at HT2 ⊢
        go_wp2_with (go_at_call 24; refine (Base.has _ _ _).mono ?_; rintro e w' ⟨rfl, rfl⟩; rw [HT2.out])
        go_roundw
        case rel => exact ⟨j + 1, by omega, by go_num, by rw [HD.out], HB3⟩
        case measure => simp [intOf]; omega
      · have HN : Hid (nodsB L x b = (bits .and .i64 (metI L x) ag == 0)) := by show _ = _; rw [nods_sees hs, HAG.out]
        have HT2 : Hid ((Base.okB (metI L x) && (Base.inB b && bit (metI L x) b.toNat)) = true) := HT.out.trans hs
        clear hs HT
        generalize metI L x = sn at HT2 HN HSM hok hok2 ⊢
        generalize hy : bits .andNot .i64 sn ag = yy at HSM hok2
        have HY : Hid (bits .andNot .i64 sn ag = yy) := hy
        clear hy
        have hE := eqHand (hf L sn 0 L.length) (hf L sn 1 L.length) (hf L sn 2 L.length) (hf L sn 3 L.length) (hf L yy 0 L.length) (hf L yy 1 L.length) (hf L yy 2 L.length) (hf L yy 3 L.length)
        rw [HSM.out] at hE
        have HC1 : Hid (∀ W : World, Below w2.heap.size w2 W → Calls Tryz.prog 110 #[.slice (some ⟨g, off, none⟩) L.length cap, .int .i64 sn] W fun e w' => e = .returned (.agg #[.int .i64 (hf L sn 0 L.length), .int .i64 (hf L sn 1 L.length), .int .i64 (hf L sn 2 L.length), .int .i64 (hf L sn 3 L.length)]) ∧ Below w2.heap.size w2 w') := fun W hW => HHF.out W sn hW hok
        have HC2 : Hid (∀ W : World, Below w2.heap.size w2 W → Calls Tryz.prog 110 #[.slice (some ⟨g, off, none⟩) L.length cap, .int .i64 yy] W fun e w' => e = .returned (.agg #[.int .i64 (hf L yy 0 L.length), .int .i64 (hf L yy 1 L.length), .int .i64 (hf L yy 2 L.length), .int .i64 (hf L yy 3 L.length)]) ∧ Below w2.heap.size w2 w') := fun W hW => HHF.out W yy hW hok2
        clear HHF hok hok2 HSM
        generalize hf L sn 0 L.length = a0 at hE HC1
        generalize hf L sn 1 L.length = a1 at hE HC1
        generalize hf L sn 2 L.length = a2 at hE HC1
        generalize hf L sn 3 L.length = a3 at hE HC1
        generalize hf L yy 0 L.length = b0 at hE HC2
        generalize hf L yy 1 L.length = b1 at hE HC2
        generalize hf L yy 2 L.length = b2 at hE HC2
        generalize hf L yy 3 L.length = b3 at hE HC2
        have HW : Hid (Base.withI fo x = withB fo x.toNat) := by
          show _ = _
          unfold Base.withI
          rw [(Base.okB_iff _).2 hF, (Base.inB_iff _).2 hx]; simp
        go_wp2_with (first | (go_at_call 24; refine (Base.has _ _ _).mono ?_; rintro e w' ⟨rfl, rfl⟩; rw [HT2.out]) | fail)
        refine (HC1.out _ HB3.out).mono ?_
        rintro e w4 ⟨rfl, hb4⟩
        have HB4 : Hid (Below w2.heap.size w2 w4) := hb4
        clear hb4 HB3 HC1 HT2
        go_wp2_with fail
        rw [HY.out]
        refine (HC2.out _ HB4.out).mono ?_
        rintro e w5 ⟨rfl, hb5⟩
        have HB5 : Hid (Below w2.heap.size w2 w5) := hb5
        clear hb5 HB4 HC2
        cases hz : (bits .and .i64 sn ag == 0)
        · have HD : Hid (nodF L b (l.take (j + 1)) = fo) := by show _ = _; rw [HS.out, HN.out, hz]; rfl
          rw [hz] at hE
          clear hz HN HS
          go_wp2
          go_roundw
          case rel => exact ⟨j + 1, by omega, by go_num, by rw [HD.out], HB5⟩
          case measure => simp [intOf]; omega
        · have HD : Hid (nodF L b (l.take (j + 1)) = withB fo x.toNat) := by show _ = _; rw [HS.out, HN.out, hz]; rfl
          rw [hz] at hE
          clear hz HN HS
          go_wp2_with (go_at_call 83; refine (Base.withM _ _ _).mono ?_; rintro e w' ⟨rfl, rfl⟩; rw [HW.out])
          go_roundw
          case rel => exact ⟨j + 1, by omega, by go_num, by rw [HD.out], HB5⟩
          case measure => simp [intOf]; omega
    · obtain rfl : j = l.length := by omega
      have e : l.take l.length = l := List.take_length
      rw [e]
      have HBE : Hid (Below w.heap.size w wr) := HB2.out.trans (HB.out.mono HB2.out.size)
      clear HB HB2
      go_wp2
      go_ret
      exact ⟨by rw [HML.out]; rfl, HBE.out⟩

set_option maxHeartbeats 400000 in
theorem nods (g off cap : Nat) (L : List K) (a b : Int) (w : World) (hlc : laceB L = true) (hg : g < w.heap.size) (hr : RdK w (some ⟨g, off, none⟩) L) :
    Calls Tryz.prog 67 #[.slice (some ⟨g, off, none⟩) L.length cap, .int .i64 a, .int .i64 b] w fun e w' => e = .returned (.bool (nodsB L a b)) ∧ Below w.heap.size w w' := by
  have h60 := ((Lc.lace_iff L).1 hlc).1
  have HT : Hid ((Base.okB (nodF L b (Memb.memI (Sg.oneI a))) && (Base.inB a && bit (nodF L b (Memb.memI (Sg.oneI a))) a.toNat)) = nodsB L a b) := nodF_one L h60 a b
  go_enter Tryz.func67, Tryz.ntmps67
  go_wp2_with (first | (go_at_call 83; refine (Base.withM _ _ _).mono ?_; rintro e w' ⟨rfl, rfl⟩; rw [Sg.with_one]) | fail)
  refine (nodders g off cap L (Sg.oneI a) b _ hlc hg hr).mono ?_
  rintro e w1 ⟨rfl, hb1⟩
  generalize nodF L b (Memb.memI (Sg.oneI a)) = y at HT ⊢
  go_wp2_with (go_at_call 24; refine (Base.has _ _ _).mono ?_; rintro e w' ⟨rfl, rfl⟩; rw [HT.out])
  go_ret
  exact ⟨rfl, hb1⟩

end Nd
end Go.Proofs.YtodgkhlnefggdaaGreat
