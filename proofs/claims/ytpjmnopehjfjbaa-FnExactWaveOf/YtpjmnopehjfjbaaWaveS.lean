/-
  What the model's WaveOf, LeaderOf and Leads answer; for coins of at most a million numbers and lists of knots whose words have at most 2^40 bytes.
-/
import Derived.Test.YtpjmnopehjfjbaaWaveM
import Derived.Test.YtpjmnopehjfjbaaLaceA
import Derived.Test.YtpjmnopehjfjbaaDoubS
namespace Go.Proofs.Ytpjmnopehjfjbaa
open Go.RowKit
set_option maxRecDepth 100000
namespace Ch
open Kn (K okK)
open Lc (at' RdK laceB WordsOk)
open Sg (isB)
open Rm (coinsB)

set_option maxHeartbeats 400000 in
theorem specWaveOf (r : Int) (w : World) : Calls Try.prog 11 #[.int .i64 r] w fun e w' => e = .returned (.int .i64 (waveI r)) ∧ w = w' := by
  cases hq : Kn.in19 r
  · have HT : Hid (waveI r = -1) := by show _ = _; unfold waveI; rw [hq]; rfl
    have HQ : Hid (Kn.in19 r = false) := hq
    clear hq
    go_enter Try.func11, Try.ntmps11
    go_wp2_with (go_at_call 20; refine (Kn.l1In19 _ _).mono ?_; rintro e w' ⟨rfl, rfl⟩; rw [HQ.out])
    go_ret
    exact ⟨by rw [HT.out]; rfl, rfl⟩
  · have HT : Hid (waveI r = r / 3) := by show _ = _; unfold waveI; rw [hq]; rfl
    have HQ : Hid (Kn.in19 r = true) := hq
    have hb : 0 ≤ r ∧ r ≤ 19 := by unfold Kn.in19 at hq; simpa using hq
    clear hq
    go_enter Try.func11, Try.ntmps11
    go_wp2_with (go_at_call 20; refine (Kn.l1In19 _ _).mono ?_; rintro e w' ⟨rfl, rfl⟩; rw [HQ.out])
    go_ret
    exact ⟨by rw [HT.out]; rfl, rfl⟩

set_option maxHeartbeats 400000 in
theorem l8Leader (ao : Option Addr) (cap : Nat) (C : List Int) (wave : Int) (w : World) (h0 : 0 ≤ wave) (h1 : wave ≤ 1000) (hrd : Lst.Rd w ao C) :
    Calls Try.prog 24 #[.slice ao C.length cap, .int .i64 wave] w fun e w' => e = .returned (.int .i64 (leadI C wave)) ∧ w = w' := by
  obtain ⟨p, rfl⟩ := Int.eq_ofNat_of_zero_le h0
  by_cases hlt : p < C.length
  · have hi : (p : Int) < (C.length : Int) := by omega
    have HT : Hid (leadI C (p : Int) = C.getD p 0) := by show _ = _; unfold leadI; rw [if_pos hi, Int.toNat_natCast]
    rcases hrd with hrd | ⟨b, rfl, hcell⟩
    · rw [hrd] at hlt; simp at hlt
    have cj := hcell p hlt
    clear hcell
    generalize C.getD p 0 = y at cj HT
    go_enter Try.func24, Try.ntmps24
    go_wp2
    go_ret
    exact ⟨by rw [HT.out]; rfl, rfl⟩
  · have hi : ¬ (p : Int) < (C.length : Int) := by omega
    have HT : Hid (leadI C (p : Int) = (p : Int) % 4) := by show _ = _; unfold leadI; rw [if_neg hi]
    clear hrd
    go_enter Try.func24, Try.ntmps24
    go_wp2
    go_ret
    exact ⟨by rw [HT.out]; rfl, rfl⟩

theorem rd_below {w w' : World} {ao : Option Addr} {l : List Int} (h : Lst.Rd w ao l) (hao : ∀ c, ao = some ⟨c, 0, none⟩ → c < w.heap.size) (hb : Below w.heap.size w w') : Lst.Rd w' ao l := by
  rcases h with h | ⟨g, rfl, hc⟩
  · exact .inl h
  · exact .inr ⟨g, rfl, fun j hj => (hb.cell (p := ⟨g, j, none⟩) (hao g rfl)).trans (hc j hj)⟩

set_option maxHeartbeats 800000 in
theorem l8Leads (ao : Option Addr) (cap : Nat) (C : List Int) (k : K) (w : World) (h0 : 0 ≤ k.round) (h1 : k.round ≤ 1000) (hrd : Lst.Rd w ao C) (hao : ∀ c, ao = some ⟨c, 0, none⟩ → c < w.heap.size) :
    Calls Try.prog 27 #[.slice ao C.length cap, .agg #[.int .i64 k.hand, .int .i64 k.round, .int .i64 k.frm, .string k.word]] w fun e w' => e = .returned (.bool (leadK C k)) ∧ Below w.heap.size w w' := by
  have P0 : Hid (Below w.heap.size w (w.alloc (.cells #[.int .i64 k.hand, .int .i64 k.round, .int .i64 k.frm, .string k.word] 48)) ∧ Lc.CellsK (w.alloc (.cells #[.int .i64 k.hand, .int .i64 k.round, .int .i64 k.frm, .string k.word] 48)) w.heap.size 0 k ∧ w.heap.size < (w.alloc (.cells #[.int .i64 k.hand, .int .i64 k.round, .int .i64 k.frm, .string k.word] 48)).heap.size) :=
    ⟨(Below.refl _ _).alloc (Nat.le_refl _) _, ⟨by simp, by simp, by simp, by simp⟩, by simp⟩
  have HRD : Hid (∀ W : World, Below w.heap.size w W → Lst.Rd W ao C) := fun W hW => rd_below hrd hao hW
  clear hrd hao
  by_cases hz : k.round % 3 = 0
  · have HT : Hid (leadK C k = (k.hand == leadI C (k.round / 3))) := by show _ = _; unfold leadK; rw [decide_eq_true hz, Bool.true_and]; exact (Bool.eq_iff_iff.2 (by simp))
    have hz' : (k.round % 3 == 0) = true := by simpa using hz
    clear hz
    go_enter Try.func27, Try.ntmps27
    go_wp2_with fail
    generalize w.alloc (.cells #[.int .i64 k.hand, .int .i64 k.round, .int .i64 k.frm, .string k.word] 48) = V at P0 ⊢
    obtain ⟨B0, ⟨c0, c1, _, _⟩, hlt⟩ := P0.out
    rw [Nat.zero_add] at c1
    have HC : Hid (∀ n : Nat, Calls Try.prog 24 #[.slice ao C.length cap, .int .i64 (k.round / 3)] (V.drewN n) fun e w' => e = .returned (.int .i64 (leadI C (k.round / 3))) ∧ V.drewN n = w') := fun n => l8Leader ao cap C (k.round / 3) _ (by omega) (by omega) (HRD.out _ (Db.below_drewN B0 n))
    have HB0 : Hid (Below w.heap.size w V) := B0
    clear HRD P0 B0
    generalize leadI C (k.round / 3) = y at HT HC
    go_quiet (first | (go_at_call 24; exact (HC.out _).mono fun _ _ h => ⟨h.1, _, h.2.symm⟩))
    go_wp2
    go_ret
    exact ⟨by rw [HT.out]; rfl, Db.below_drewN HB0.out _⟩
  · have HT : Hid (leadK C k = false) := by show _ = _; unfold leadK; rw [decide_eq_false hz]; rfl
    have hz' : (k.round % 3 == 0) = false := by simpa using hz
    clear hz HRD
    go_enter Try.func27, Try.ntmps27
    go_wp2_with fail
    generalize w.alloc (.cells #[.int .i64 k.hand, .int .i64 k.round, .int .i64 k.frm, .string k.word] 48) = V at P0 ⊢
    obtain ⟨B0, ⟨c0, c1, _, _⟩, hlt⟩ := P0.out
    rw [Nat.zero_add] at c1
    have HB0 : Hid (Below w.heap.size w V) := B0
    clear P0 B0
    go_quiet (fail)
    go_wp2
    go_ret
    exact ⟨by rw [HT.out]; rfl, Db.below_drewN HB0.out _⟩

theorem l1In6 (x : Int) (w : World) : Calls Try.prog 20 #[.int .i64 x, .int .i64 0, .int .i64 6] w fun e w' => e = .returned (.bool (in6 x)) ∧ w = w' := Base.l1In x 0 6 w

set_option maxHeartbeats 800000 in
theorem specLeaderOf (ao : Option Addr) (cap : Nat) (C : List Int) (wave : Int) (w : World) (hl : C.length ≤ 1048576) (hrd : Lst.Rd w ao C) :
    Calls Try.prog 13 #[.slice ao C.length cap, .int .i64 wave] w fun e w' => e = .returned (.int .i64 (leaderI C wave)) ∧ w = w' := by
  have HC : Hid (∀ W : World, Lst.Rd W ao C → Calls Try.prog 7 #[.slice ao C.length cap] W fun e w' => e = .returned (.bool (coinsB C)) ∧ W = w') := fun W h => Rm.specCoinsOk ao cap C W hl h
  cases hc : coinsB C
  · have HT : Hid (leaderI C wave = -1) := by show _ = _; unfold leaderI; rw [hc]; rfl
    rw [hc] at HC
    clear hc
    go_enter Try.func13, Try.ntmps13
    go_wp2_with (go_at_call 7; refine (HC.out _ hrd).mono ?_; rintro e w' ⟨rfl, rfl⟩)
    go_ret
    exact ⟨by rw [HT.out]; rfl, rfl⟩
  · rw [hc] at HC
    cases hq : in6 wave
    · have HT : Hid (leaderI C wave = -1) := by show _ = _; unfold leaderI; rw [hq]; simp
      have HQ : Hid (in6 wave = false) := hq
      clear hc hq
      go_enter Try.func13, Try.ntmps13
      go_wp2_with (first | (go_at_call 7; refine (HC.out _ hrd).mono ?_; rintro e w' ⟨rfl, rfl⟩) | (go_at_call 20; refine (l1In6 _ _).mono ?_; rintro e w' ⟨rfl, rfl⟩; rw [HQ.out]))
      go_ret
      exact ⟨by rw [HT.out]; rfl, rfl⟩
    · have HT : Hid (leaderI C wave = leadI C wave) := by show _ = _; unfold leaderI; rw [hq, hc]; rfl
      have HQ : Hid (in6 wave = true) := hq
      have hb : 0 ≤ wave ∧ wave ≤ 6 := by unfold in6 at hq; simpa using hq
      have HL : Hid (∀ W : World, Lst.Rd W ao C → Calls Try.prog 24 #[.slice ao C.length cap, .int .i64 wave] W fun e w' => e = .returned (.int .i64 (leadI C wave)) ∧ W = w') := fun W h => l8Leader ao cap C wave W hb.1 (by omega) h
      clear hc hq
      go_enter Try.func13, Try.ntmps13
      go_wp2_with (first | (go_at_call 7; refine (HC.out _ hrd).mono ?_; rintro e w' ⟨rfl, rfl⟩) | (go_at_call 20; refine (l1In6 _ _).mono ?_; rintro e w' ⟨rfl, rfl⟩; rw [HQ.out]) | (go_at_call 24; refine (HL.out _ hrd).mono ?_; rintro e w' ⟨rfl, rfl⟩))
      go_ret
      exact ⟨by rw [HT.out]; rfl, rfl⟩

set_option maxHeartbeats 1600000 in
theorem specLeads (g off cap : Nat) (L : List K) (ao : Option Addr) (cc : Nat) (C : List Int) (k : Int) (w : World) (hcap : L.length ≤ cap) (hw : WordsOk L) (hr : RdK w (some ⟨g, off, none⟩) L) (hl : C.length ≤ 1048576) (hrd : Lst.Rd w ao C) (hao : ∀ c, ao = some ⟨c, 0, none⟩ → c < w.heap.size) :
    Calls Try.prog 16 #[.slice (some ⟨g, off, none⟩) L.length cap, .slice ao C.length cc, .int .i64 k] w fun e w' => e = .returned (.bool (leadsB L C k)) ∧ Below w.heap.size w w' := by
  go_enter Try.func16, Try.ntmps16
  go_wp2_with fail
  refine (Sg.l4Is g off cap L k _ hcap hw hr).mono ?_
  rintro e w1 ⟨rfl, hb1⟩
  have hr1 := hr.below hb1
  have hrd1 := rd_below hrd hao hb1
  have hao1 : ∀ c, ao = some ⟨c, 0, none⟩ → c < w1.heap.size := fun c e => Nat.lt_of_lt_of_le (hao c e) hb1.size
  clear hrd hao
  cases his : isB L k
  · have HT : Hid (leadsB L C k = false) := by show _ = _; unfold leadsB; rw [his]; rfl
    clear his hrd1 hao1
    go_wp2
    go_ret
    exact ⟨by rw [HT.out]; rfl, hb1⟩
  · have hcall := Rm.specCoinsOk ao cc C w1 hl hrd1
    obtain ⟨k0, k1, hlc⟩ := Sg.isB_parts his
    cases hc : coinsB C
    · have HT : Hid (leadsB L C k = false) := by show _ = _; unfold leadsB; rw [hc]; simp
      rw [hc] at hcall
      clear his hc hrd1 hao1
      go_wp2_with (go_at_call 7; refine hcall.mono ?_; rintro e w' ⟨rfl, rfl⟩)
      go_ret
      exact ⟨by rw [HT.out]; rfl, hb1⟩
    · rw [hc] at hcall
      have HT : Hid (leadsB L C k = leadK C (at' L k.toNat)) := by show _ = _; unfold leadsB; rw [his, hc]; rfl
      obtain ⟨p, rfl⟩ := Int.eq_ofNat_of_zero_le k0
      have hp : p < L.length := by omega
      rw [Int.toNat_natCast] at HT
      have hrb := Lc.ok_round (Lc.can_ok (Lc.lace_upTo hlc p hp))
      have hld := l8Leads ao cc C (at' L p) w1 hrb.1 (by omega) hrd1 hao1
      obtain ⟨_, c0, c1, c2, c3⟩ := hr1.on p hp
      have HB1 : Hid (Below w.heap.size w w1) := hb1
      clear his hc hrd1 hao1 hlc hr1 hr hb1
      generalize at' L p = kk at c0 c1 c2 c3 HT hld
      generalize leadK C kk = b at HT hld
      go_wp2_with (first | (go_at_call 7; refine hcall.mono ?_; rintro e w' ⟨rfl, rfl⟩) | fail)
      refine hld.mono ?_
      rintro e w2 ⟨rfl, hb2⟩
      have HB2 : Hid (Below w.heap.size w w2) := HB1.out.trans (hb2.mono HB1.out.size)
      clear hb2 HB1 hld hcall
      go_wp2
      go_ret
      exact ⟨by rw [HT.out]; rfl, HB2.out⟩

end Ch
end Go.Proofs.Ytpjmnopehjfjbaa
