/-
  What the program's own ShowKnot answers: the text that the plain mathematics says, for every right knot.
-/
import Derived.Test.YtiopckkcdmeagaaGreatDoorKnotI
import Derived.Test.YtiopckkcdmeagaaGreatDoorKnotW
import Derived.Test.YtiopckkcdmeagaaGreatDoorShelf
import Derived.Deep.RegionWith
import Derived.Deep.DeepCutAuto
namespace Go.Proofs.YtiopckkcdmeagaaGreatDoor
open Go.RowKit
set_option maxRecDepth 100000
namespace Kn

theorem showSmall (i : Nat) (hi : i < 100) (w : World) : Calls Tryz.prog 31 #[.int .i64 (i : Int)] w fun e w' => e = .returned (.string (B (dec i))) ∧ w = w' := by
  have HD : Hid ((⟨(Lib.decDigits i).toArray⟩ : ByteArray) = B (dec i)) := by
    show _ = _
    rw [decDigits_dec i (by omega)]; rfl
  go_enter Tryz.func31, Tryz.ntmps31
  go_wp2_with fail
  refine (Tryz.strconv_FormatInt_10_small i hi _).mono ?_
  rintro e w' ⟨rfl, rfl⟩
  rw [HD.out]
  go_wp2
  go_ret
  exact ⟨rfl, rfl⟩

theorem name (i : Nat) (hi : i < 100) (w : World) : Calls Tryz.prog 30 #[.int .i64 (i : Int)] w fun e w' => e = .returned (.string (B (dec i))) ∧ w = w' := by
  go_enter Tryz.func30, Tryz.ntmps30
  go_wp2_with fail
  refine (showSmall i hi _).mono ?_
  rintro e w' ⟨rfl, rfl⟩
  go_wp2
  go_ret
  exact ⟨rfl, rfl⟩

theorem own_apart {b base : Nat} {w w1 : World} {ao : Option Addr} {cap : Nat} {l : List Int} {v : Value} {n : Nat} {xs : List Value} (h : Memb.Own b w ao cap l)
    (hv : w.ownsRow base 9 1 v n xs) (hg : w.grownBy w1 v.ownBlock) : Memb.Own b w1 ao cap l := by
  unfold Memb.Own at h ⊢
  obtain ⟨hl, hn | ⟨g, c, cur, hs, hb, hc, rest⟩⟩ := h
  · exact ⟨hl, .inl hn⟩
  · refine ⟨hl, .inr ⟨g, c, cur, hs, hb, ?_, rest⟩⟩
    have hlt : g < w.heap.size := by
      rw [Array.getElem?_eq_some_iff] at hc; exact hc.1
    have hne : v.ownBlock ≠ some g := by
      intro e
      obtain ⟨_, ⟨hv0, _⟩ | ⟨g', c', cur', hv', _, hc', _⟩⟩ := hv
      · rw [hv0] at e; cases e
      · rw [hv'] at e
        simp only [Value.ownBlock, Option.some.injEq] at e
        subst e
        rw [hc] at hc'
        injection hc' with hc'
        injection hc' with _ ht
        exact absurd ht (by decide)
    exact (hg.block g hlt (fun e => hne e.symm)).trans hc

theorem row_below {base : Nat} {e : TypeId} {size : Nat} {w w' : World} {v : Value} {n : Nat} {xs : List Value} (h : w.ownsRow base e size v n xs) (hb : Below w.heap.size w w') : w'.ownsRow base e size v n xs := by
  have hlt := World.ownsRow.lt h
  obtain ⟨h1, h2⟩ := h
  refine ⟨h1, ?_⟩
  rcases h2 with h2 | ⟨g, cap', cur, hv, hB, hg, rest⟩
  · exact .inl h2
  · refine .inr ⟨g, cap', cur, hv, hB, ?_, rest⟩
    rw [hv] at hlt
    rw [hb.block g (hlt g rfl).2]; exact hg

theorem memI_ok (f : Int) (h0 : 0 ≤ f) (h1 : f < 1152921504606846976) : Memb.memI f = Bit.memTo f 60 := by
  unfold Memb.memI; rw [(Base.okB_iff f).2 ⟨h0, h1⟩]; rfl

/-- parts of the call's own, joined by a blank -/
theorem joinB (L : List (List UInt8)) (n : Nat) (hn : n = L.length) {base : Nat} {w : World} {ao : Option Addr} {cap : Nat} (h : OwnS base w ao cap L) (hne : 0 < L.length) (hl : L.length ≤ 1048576) (hj : (Lib.join L [32]).length ≤ 140737488355328) :
    Calls Tryz.prog 34 #[.slice ao n cap, .string ⟨#[32]⟩] w fun e w' => e = .returned (.string (B (Lib.join L [32]))) ∧ Below w.heap.size w w' := by
  subst hn
  have em : ((L.map B).map (·.data.toList)) = L := by
    rw [List.map_map]
    conv => rhs; rw [← List.map_id L]
    apply List.map_congr_left
    intro x _
    simp [B]
  have h' := h
  obtain ⟨_, ⟨_, h0⟩ | ⟨g, c, cur, hs, hb, hc, hcap, _⟩⟩ := h'
  · omega
  · injection hs with ha _ hcc
    subst ha hcc
    have hg : g < w.heap.size := by
      rw [Array.getElem?_eq_some_iff] at hc; exact hc.1
    have hlen : (L.map B).length = L.length := List.length_map _
    have J := Tryz.strings_Join g 0 cap (L.map B) ⟨#[32]⟩ w (fun j x hx => by
      obtain ⟨y, hy, rfl⟩ := List.getElem?_map .. ▸ hx |> Option.map_eq_some_iff.1
      have hjl : j < L.length := by
        rw [List.getElem?_eq_some_iff] at hy; exact hy.1
      obtain ⟨g', e, _, hcell⟩ := ownS_cell h j hjl
      have eg : g' = g := by injection e with e; injection e with e; exact e.symm
      subst eg
      rw [List.getElem?_eq_getElem hjl] at hy
      injection hy with hy
      rw [hy] at hcell
      rw [Nat.zero_add]; exact hcell) hg (by rw [hlen]; omega) (by rw [hlen]; exact hcap) (by rw [em]; exact hj)
    have es : (⟨#[32]⟩ : ByteArray).data.toList = [32] := rfl
    rw [hlen, em, es] at J
    exact J

theorem two_lit (w : World) (x y : List UInt8) : (w.alloc (.cells #[.string (B x), .string (B y)] 9)).ownsRow w.heap.size 9 1 (.slice (some ⟨w.heap.size, 0, none⟩) 2 2) 2 [.string (B x), .string (B y)] :=
  World.ownsRow_lit w #[.string (B x), .string (B y)] 2 (Nat.le_refl _) (by unfold maxLen; omega) rfl

/-- the parts that stand when k members are shown -/
def partsTo (h r : Nat) (f : Int) (k : Nat) : List (List UInt8) := dec h :: dec r :: ((Bit.memTo f 60).take k).map (fun m => dec m.toNat)

theorem partsTo_all (h r : Nat) (f : Int) (s : ByteArray) : partsTo h r f (Bit.memTo f 60).length = wordsK ⟨h, r, f, s⟩ := by
  simp [partsTo, wordsK]

theorem partsTo_snoc (h r : Nat) (f : Int) (k j : Nat) (hk : k < (Bit.memTo f 60).length) (hj : (Bit.memTo f 60).getD k 0 = (j : Int)) : partsTo h r f (k + 1) = partsTo h r f k ++ [dec j] := by
  unfold partsTo
  have e : (Bit.memTo f 60)[k] = (j : Int) := by simpa [hk] using hj
  rw [List.take_succ_eq_append_getElem hk, List.map_append, e]
  simp

theorem partsTo_len (h r : Nat) (f : Int) (k : Nat) : (partsTo h r f k).length ≤ 62 := by
  have h1 := Bit.memTo_le f 60
  have h2 : ((Bit.memTo f 60).take k).length ≤ (Bit.memTo f 60).length := List.length_take_le' _ _
  simp only [partsTo, List.length_cons, List.length_map]; omega

theorem showK_len (h r : Nat) (f : Int) (s : ByteArray) : (showK ⟨h, r, f, s⟩).length ≤ 1000 + s.size := by
  have h1 := showH_len (h : Int) (r : Int)
  have h2 := showM_len (Bit.memTo f 60)
  have h3 := Bit.memTo_le f 60
  have h4 : (if s.size = 0 then ([] : List UInt8) else 32 :: s.data.toList).length ≤ 1 + s.size := by
    split
    · simp
    · simp; omega
  unfold showK
  simp only [List.length_append, List.length_cons]
  omega

/-- what ShowKnot answers -/
def textK (k : K) : List UInt8 := if okK k then showK k else []

set_option maxHeartbeats 3200000 in
theorem shown (h r : Nat) (f : Int) (s : ByteArray) (w : World) (hh : h < 100) (hr : r < 100) (h0 : 0 ≤ f) (h1 : f < 1152921504606846976) (hs : s.size ≤ 1073741824) :
    Calls Tryz.prog 15 #[.agg #[.int .i64 (h : Int), .int .i64 (r : Int), .int .i64 f, .string s]] w fun e w' =>
    e = .returned (.string (B (showK ⟨h, r, f, s⟩))) ∧ Below w.heap.size w w' := by
  obtain ⟨i0, hi, hz0, hz1, hz2⟩ := info_parts infoS
  have B0 : Below w.heap.size w (w.alloc (.cells #[.int .i64 (h : Int), .int .i64 (r : Int), .int .i64 f, .string s] 35)) := (Below.refl _ _).alloc (Nat.le_refl _) _
  have S0 : w.heap.size < (w.alloc (.cells #[.int .i64 (h : Int), .int .i64 (r : Int), .int .i64 f, .string s] 35)).heap.size := by simp
  have c0 : (w.alloc (.cells #[.int .i64 (h : Int), .int .i64 (r : Int), .int .i64 f, .string s] 35)).cell? ⟨w.heap.size, 0, none⟩ = some (.int .i64 (h : Int)) := by simp
  have c1 : (w.alloc (.cells #[.int .i64 (h : Int), .int .i64 (r : Int), .int .i64 f, .string s] 35)).cell? ⟨w.heap.size, 1, none⟩ = some (.int .i64 (r : Int)) := by simp
  have c2 : (w.alloc (.cells #[.int .i64 (h : Int), .int .i64 (r : Int), .int .i64 f, .string s] 35)).cell? ⟨w.heap.size, 2, none⟩ = some (.int .i64 f) := by simp
  have c3 : (w.alloc (.cells #[.int .i64 (h : Int), .int .i64 (r : Int), .int .i64 f, .string s] 35)).cell? ⟨w.heap.size, 3, none⟩ = some (.string s) := by simp
  have P0 : Hid (Below w.heap.size w (w.alloc (.cells #[.int .i64 (h : Int), .int .i64 (r : Int), .int .i64 f, .string s] 35)) ∧ _ ∧ _ ∧ _ ∧ _ ∧ _) := ⟨B0, S0, c0, c1, c2, c3⟩
  clear B0 S0 c0 c1 c2 c3
  go_enter Tryz.func15, Tryz.ntmps15
  go_wp2_with fail
  generalize w.alloc (.cells #[.int .i64 (h : Int), .int .i64 (r : Int), .int .i64 f, .string s] 35) = w0 at P0 ⊢
  obtain ⟨B0, S0, c0, c1, c2, c3⟩ := P0
  generalize hb : w.heap.size = b at *
  go_cut [3] (fun t wx => wx.ownsRow w0.heap.size 9 1 t (partsTo h r f 0).length ((partsTo h r f 0).map S) ∧ Below w0.heap.size w0 wx)
  case first =>
    go_region_with (first | (go_at_call 30; refine (name h hh _).mono ?_; rintro e w1 ⟨rfl, rfl⟩) | (go_at_call 31; refine (showSmall r hr _).mono ?_; rintro e w2 ⟨rfl, rfl⟩))
    all_goals
      go_wp2_with fail
      go_meet
      case rel => exact ⟨two_lit w0.drew (dec h) (dec r), ((Below.refl _ w0).drew).alloc (Nat.le_refl _) _⟩
  case rest =>
    obtain ⟨hown, hbc⟩ := hcut
    replace c2 := (hbc.cell (p := ⟨b, 2, none⟩) S0).trans c2
    clear c0 c1
    go_wp2_with fail
    refine (Memb.picked f _).mono ?_
    rintro e w3 ⟨ao, ca, rfl, hmem, hb3⟩
    rw [memI_ok f h0 h1] at hmem ⊢
    replace hown := row_below hown hb3
    have B3 := hbc.trans (hb3.mono hbc.size)
    clear hbc hb3 c2
    have hlen := Bit.memTo_le f 60
    obtain ⟨n, hn⟩ : ∃ n, n = (Bit.memTo f 60).length := ⟨_, rfl⟩
    have HN : Hid (n = (Bit.memTo f 60).length) := hn
    rw [← hn] at hlen ⊢
    clear hn
    go_wp2_with fail
    go_loopw [3, 18] (fun v i wr => ∃ k : Nat, k ≤ n ∧ i = .int .i64 k ∧ wr.ownsRow w0.heap.size 9 1 v (partsTo h r f k).length ((partsTo h r f k).map S) ∧ Hid (Memb.Own wc.heap.size wr ao ca (Bit.memTo f 60)) ∧ Below w0.heap.size w0 wr ∧ w0.heap.size ≤ wr.heap.size) (fun _ i _ => n - (intOf i).toNat)
    case atStart => exact ⟨0, by omega, rfl, hown, hmem, B3, B3.size⟩
    case round =>
      clear hown hmem B3
      obtain ⟨k, hk, rfl, hown, hmem, hnx, hB⟩ := hrel
      have hpl := partsTo_len h r f k
      by_cases hlt : k < n
      · have hkl : k < (Bit.memTo f 60).length := by rw [← HN.out]; exact hlt
        obtain ⟨j, hj, hje⟩ := memTo_get f k hkl
        obtain ⟨g, rfl, hcell⟩ : ∃ g, ao = some ⟨g, 0, none⟩ ∧ wr.cell? ⟨g, k, none⟩ = some (.int .i64 (j : Int)) := by
          rcases Lst.own_rd hmem.out with he | ⟨g, hg, hc⟩
          · exfalso; rw [he] at hkl; simp at hkl
          · exact ⟨g, hg, by rw [hc k hkl, hje]⟩
        have HT : Hid (partsTo h r f (k + 1) = partsTo h r f k ++ [dec j]) := partsTo_snoc h r f k j hkl hje
        clear hje
        go_wp2_with (first | (go_at_call 31; refine (showSmall j (by omega) _).mono ?_; rintro e w' ⟨rfl, rfl⟩) | (at_builtin; refine wpList_append_own _ rfl _ _ 47 rfl w0.heap.size 9 i0 (.string ⟨#[]⟩) 1 16 Tryz.underlying47 hi hz0 hz1 hz2 rfl (by decide) _ _ _ rfl (hown.alloc _) ⟨wr.heap.size, 0, none⟩ 1 1 [.string (B (dec j))] rfl rfl ?c1 ?c2 ?c3 ?c4 ?c5 ?_))
        case c1 =>
          intro j u hj
          match j, hj with
          | 0, hj => simp at hj; subst hj; simp [Addr.add]
        case c2 => intro u hu; simp at hu; subst hu; rfl
        case c3 => unfold maxLen; omega
        case c4 => omega
        case c5 => simp; omega
        intro v' w1 hown' hgrow _
        have hmem' : Hid (Memb.Own wc.heap.size w1 (some ⟨g, 0, none⟩) ca (Bit.memTo f 60)) := own_apart (World.ownsRow.alloc hmem.out _) (hown.alloc _) hgrow
        have R := relS_put hB hown hnx hown' hgrow
        clear hown' hgrow hown hmem hnx
        go_wp2
        go_roundw
        case rel => exact ⟨k + 1, by omega, by go_num, by rw [HT.out]; exact R.1, hmem', R.2.1, R.2.2⟩
        case measure => simp [intOf]; omega
      · obtain rfl : k = n := by omega
        have HA : Hid (partsTo h r f k = wordsK ⟨h, r, f, s⟩) := by
          show _ = _
          rw [HN.out]; exact partsTo_all h r f s
        rw [HA.out] at hown hpl
        have c3' := (hnx.cell (p := ⟨b, 3, none⟩) S0).trans c3
        have hsl := showK_len h r f s
        clear hmem HA
        go_wp2_with (at_builtin; refine wpList_append_own _ rfl _ _ 47 rfl w0.heap.size 9 i0 (.string ⟨#[]⟩) 1 16 Tryz.underlying47 hi hz0 hz1 hz2 rfl (by decide) _ _ _ rfl (hown.alloc _) ⟨wr.heap.size, 0, none⟩ 1 1 [.string ⟨#[58]⟩] rfl rfl ?c1 ?c2 ?c3 ?c4 ?c5 ?_)
        case c1 =>
          intro j u hj
          match j, hj with
          | 0, hj => simp at hj; subst hj; simp [Addr.add]
        case c2 => intro u hu; simp at hu; subst hu; rfl
        case c3 => unfold maxLen; omega
        case c4 => omega
        case c5 => simp; omega
        intro v1 w1 hown1 hgrow1 _
        have R := relS_put (x := [58]) hB hown hnx hown1 hgrow1
        clear hown1 hgrow1 hown c3' hnx hB
        obtain ⟨R1, R2, R3⟩ := R
        obtain ⟨L, hL⟩ : ∃ L, L = wordsK ⟨h, r, f, s⟩ ++ [[58]] := ⟨_, rfl⟩
        have hpl2 : L.length ≤ 63 := by rw [hL]; simp; omega
        have hpl3 : 0 < L.length := by rw [hL]; simp
        rw [← hL] at R1
        have HL : Hid (L = wordsK ⟨h, r, f, s⟩ ++ [[58]]) := hL
        clear hL hpl
        have c4 := (R2.cell (p := ⟨b, 3, none⟩) S0).trans c3
        by_cases hw : s.size = 0
        · have he : s.toList.isEmpty = true := isE s hw
          have HP : Hid (L = partsK ⟨h, r, f, s⟩) := by
            show _ = _
            rw [HL.out]; simp [partsK, hw]
          obtain ⟨ao', cap', hv, ho⟩ := ownS_shape R1
          subst hv
          go_wp2_with fail
          refine (joinB L _ rfl ho hpl3 (by omega) (by rw [HP.out, join_show]; omega)).mono ?_
          rintro e w2 ⟨rfl, hb2⟩
          rw [HP.out, join_show]
          go_wp2
          go_ret
          exact ⟨rfl, by rw [hb]; exact B0.trans ((R2.trans (hb2.mono R3)).mono (Nat.le_of_lt S0))⟩
        · have he : s.toList.isEmpty = false := isN s hw
          have HP : Hid (L ++ [s.data.toList] = partsK ⟨h, r, f, s⟩) := by
            show _ = _
            rw [HL.out]; simp [partsK, hw]
          have HS : Hid (Value.string s = S s.data.toList) := by
            show _ = _
            unfold S; rw [B_data]
          go_wp2_with (at_builtin; refine wpList_append_own _ rfl _ _ 47 rfl w0.heap.size 9 i0 (.string ⟨#[]⟩) 1 16 Tryz.underlying47 hi hz0 hz1 hz2 rfl (by decide) _ _ _ rfl (R1.alloc _) ⟨w1.heap.size, 0, none⟩ 1 1 [.string s] rfl rfl ?c1 ?c2 ?c3 ?c4 ?c5 ?_)
          case c1 =>
            intro j u hj
            match j, hj with
            | 0, hj => simp at hj; subst hj; simp [Addr.add]
          case c2 => intro u hu; simp at hu; subst hu; rfl
          case c3 => unfold maxLen; omega
          case c4 => omega
          case c5 => simp; omega
          intro v2 w2 hown2 hgrow2 _
          rw [HS.out] at hown2
          have Q := relS_put R3 R1 R2 hown2 hgrow2
          clear hown2 hgrow2 R1 R2 R3
          obtain ⟨Q1, Q2, Q3⟩ := Q
          obtain ⟨ao', cap', hv, ho⟩ := ownS_shape Q1
          subst hv
          go_wp2_with fail
          refine (joinB (L ++ [s.data.toList]) _ (by simp) ho (by simp) (by simp; omega) (by rw [HP.out, join_show]; omega)).mono ?_
          rintro e w3 ⟨rfl, hb3⟩
          rw [HP.out, join_show]
          go_wp2
          go_ret
          exact ⟨rfl, by rw [hb]; exact B0.trans ((Q2.trans (hb3.mono Q3)).mono (Nat.le_of_lt S0))⟩

set_option maxHeartbeats 1600000 in
theorem implShowKnot (h r f : Int) (s : ByteArray) (w : World) (hs : s.size ≤ 1073741824) : Calls Tryz.prog 6 #[.agg #[.int .i64 h, .int .i64 r, .int .i64 f, .string s]] w fun e w' =>
    e = .returned (.string (B (textK ⟨h, r, f, s⟩))) ∧ Below w.heap.size w w' := by
  have B0 : Below w.heap.size w (w.alloc (.cells #[.int .i64 h, .int .i64 r, .int .i64 f, .string s] 25)) := (Below.refl _ _).alloc (Nat.le_refl _) _
  have S0 : w.heap.size < (w.alloc (.cells #[.int .i64 h, .int .i64 r, .int .i64 f, .string s] 25)).heap.size := by simp
  have c0 : (w.alloc (.cells #[.int .i64 h, .int .i64 r, .int .i64 f, .string s] 25)).cell? ⟨w.heap.size, 0, none⟩ = some (.int .i64 h) := by simp
  have c1 : (w.alloc (.cells #[.int .i64 h, .int .i64 r, .int .i64 f, .string s] 25)).cell? ⟨w.heap.size, 1, none⟩ = some (.int .i64 r) := by simp
  have c2 : (w.alloc (.cells #[.int .i64 h, .int .i64 r, .int .i64 f, .string s] 25)).cell? ⟨w.heap.size, 2, none⟩ = some (.int .i64 f) := by simp
  have c3 : (w.alloc (.cells #[.int .i64 h, .int .i64 r, .int .i64 f, .string s] 25)).cell? ⟨w.heap.size, 3, none⟩ = some (.string s) := by simp
  have P0 : Hid (Below w.heap.size w (w.alloc (.cells #[.int .i64 h, .int .i64 r, .int .i64 f, .string s] 25)) ∧ _ ∧ _ ∧ _ ∧ _ ∧ _) := ⟨B0, S0, c0, c1, c2, c3⟩
  clear B0 S0 c0 c1 c2 c3
  go_enter Tryz.func6, Tryz.ntmps6
  go_wp2_with fail
  generalize w.alloc (.cells #[.int .i64 h, .int .i64 r, .int .i64 f, .string s] 25) = w0 at P0 ⊢
  obtain ⟨B0, S0, c0, c1, c2, c3⟩ := P0
  generalize hb : w.heap.size = b at *
  refine (implKnotOk _ _ _ _ _ (by omega)).mono ?_
  rintro e w1 ⟨rfl, hb1⟩
  replace c0 := (hb1.cell (p := ⟨b, 0, none⟩) S0).trans c0
  replace c1 := (hb1.cell (p := ⟨b, 1, none⟩) S0).trans c1
  replace c2 := (hb1.cell (p := ⟨b, 2, none⟩) S0).trans c2
  replace c3 := (hb1.cell (p := ⟨b, 3, none⟩) S0).trans c3
  have B1 := B0.trans (hb1.mono (Nat.le_of_lt S0))
  clear hb1 B0 S0
  cases hk : okK ⟨h, r, f, s⟩
  · have HT : Hid (textK ⟨h, r, f, s⟩ = []) := by
      show _ = _
      unfold textK; rw [hk]; rfl
    go_wp2
    go_ret
    exact ⟨by rw [HT.out]; rfl, by first | exact B1 | (rw [hb]; exact B1)⟩
  · obtain ⟨⟨k1, k2⟩, ⟨k3, k4⟩, ⟨k5, k6⟩, _⟩ := okK_parts hk
    have HT : Hid (textK ⟨h, r, f, s⟩ = showK ⟨h, r, f, s⟩) := by
      show _ = _
      unfold textK; rw [hk]; rfl
    simp only at k1 k2 k3 k4 k5 k6
    obtain ⟨h', rfl⟩ := Int.eq_ofNat_of_zero_le k1
    obtain ⟨r', rfl⟩ := Int.eq_ofNat_of_zero_le k3
    have hh : h' < 100 := by omega
    have hr : r' < 100 := by omega
    clear hk k1 k2 k3 k4
    go_wp2_with fail
    refine (knotOf _ _ _ _ _).mono ?_
    rintro e w2 ⟨rfl, hb2⟩
    have B2 := B1.trans (hb2.mono (by rw [← hb]; exact B1.size))
    clear hb2 B1 c0 c1 c2 c3
    go_wp2_with fail
    refine (shown h' r' f s _ hh hr k5 k6 hs).mono ?_
    rintro e w3 ⟨rfl, hb3⟩
    have B3 := B2.trans (hb3.mono (by rw [← hb]; exact B2.size))
    clear hb3 B2
    go_wp2
    go_ret
    exact ⟨by rw [HT.out]; rfl, by first | exact B3 | (rw [hb]; exact B3)⟩

set_option maxHeartbeats 1600000 in
theorem specShowKnot (h r f : Int) (s : ByteArray) (w : World) (hs : s.size ≤ 1073741824) : Calls Tryz.prog 10 #[.agg #[.int .i64 h, .int .i64 r, .int .i64 f, .string s]] w fun e w' =>
    e = .returned (.string (B (textK ⟨h, r, f, s⟩))) ∧ Below w.heap.size w w' := by
  have B0 : Below w.heap.size w (w.alloc (.cells #[.int .i64 h, .int .i64 r, .int .i64 f, .string s] 25)) := (Below.refl _ _).alloc (Nat.le_refl _) _
  have S0 : w.heap.size < (w.alloc (.cells #[.int .i64 h, .int .i64 r, .int .i64 f, .string s] 25)).heap.size := by simp
  have c0 : (w.alloc (.cells #[.int .i64 h, .int .i64 r, .int .i64 f, .string s] 25)).cell? ⟨w.heap.size, 0, none⟩ = some (.int .i64 h) := by simp
  have c1 : (w.alloc (.cells #[.int .i64 h, .int .i64 r, .int .i64 f, .string s] 25)).cell? ⟨w.heap.size, 1, none⟩ = some (.int .i64 r) := by simp
  have c2 : (w.alloc (.cells #[.int .i64 h, .int .i64 r, .int .i64 f, .string s] 25)).cell? ⟨w.heap.size, 2, none⟩ = some (.int .i64 f) := by simp
  have c3 : (w.alloc (.cells #[.int .i64 h, .int .i64 r, .int .i64 f, .string s] 25)).cell? ⟨w.heap.size, 3, none⟩ = some (.string s) := by simp
  have P0 : Hid (Below w.heap.size w (w.alloc (.cells #[.int .i64 h, .int .i64 r, .int .i64 f, .string s] 25)) ∧ _ ∧ _ ∧ _ ∧ _ ∧ _) := ⟨B0, S0, c0, c1, c2, c3⟩
  clear B0 S0 c0 c1 c2 c3
  go_enter Tryz.func10, Tryz.ntmps10
  go_wp2_with fail
  generalize w.alloc (.cells #[.int .i64 h, .int .i64 r, .int .i64 f, .string s] 25) = w0 at P0 ⊢
  obtain ⟨B0, S0, c0, c1, c2, c3⟩ := P0
  generalize hb : w.heap.size = b at *
  refine (specKnotOk _ _ _ _ _ (by omega)).mono ?_
  rintro e w1 ⟨rfl, hb1⟩
  replace c0 := (hb1.cell (p := ⟨b, 0, none⟩) S0).trans c0
  replace c1 := (hb1.cell (p := ⟨b, 1, none⟩) S0).trans c1
  replace c2 := (hb1.cell (p := ⟨b, 2, none⟩) S0).trans c2
  replace c3 := (hb1.cell (p := ⟨b, 3, none⟩) S0).trans c3
  have B1 := B0.trans (hb1.mono (Nat.le_of_lt S0))
  clear hb1 B0 S0
  cases hk : okK ⟨h, r, f, s⟩
  · have HT : Hid (textK ⟨h, r, f, s⟩ = []) := by
      show _ = _
      unfold textK; rw [hk]; rfl
    go_wp2
    go_ret
    exact ⟨by rw [HT.out]; rfl, by first | exact B1 | (rw [hb]; exact B1)⟩
  · obtain ⟨⟨k1, k2⟩, ⟨k3, k4⟩, ⟨k5, k6⟩, _⟩ := okK_parts hk
    have HT : Hid (textK ⟨h, r, f, s⟩ = showK ⟨h, r, f, s⟩) := by
      show _ = _
      unfold textK; rw [hk]; rfl
    simp only at k1 k2 k3 k4 k5 k6
    obtain ⟨h', rfl⟩ := Int.eq_ofNat_of_zero_le k1
    obtain ⟨r', rfl⟩ := Int.eq_ofNat_of_zero_le k3
    have hh : h' < 10000000000 := by omega
    have hr : r' < 10000000000 := by omega
    clear hk k1 k2 k3 k4
    go_wp2_with fail
    refine (l2Show h' r' f s _ hh hr k5 k6 hs).mono ?_
    rintro e w2 ⟨rfl, hb2⟩
    have B2 := B1.trans (hb2.mono (by rw [← hb]; exact B1.size))
    clear hb2 B1 c0 c1 c2 c3
    go_wp2
    go_ret
    exact ⟨by rw [HT.out]; rfl, by first | exact B2 | (rw [hb]; exact B2)⟩

end Kn
end Go.Proofs.YtiopckkcdmeagaaGreatDoor
