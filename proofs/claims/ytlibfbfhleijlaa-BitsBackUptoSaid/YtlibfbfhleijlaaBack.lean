/- The walk of BitsBack. -/
import Derived.Test.YtlibfbfhleijlaaBackc
namespace Go.Proofs.Ytlibfbfhleijlaa
open Go Go.RowKit

theorem Try.info29 : (Try.prog.info? 29).map (fun i => (i.zero, i.size, i.bytes)) = some (some (.agg #[.int .i64 0, .int .u64 0, .int .i64 0, .string ByteArray.empty]), 4, 40) := by kernel_rfl

theorem bytesAt_own {w : World} {B : Nat} {v : Value} {bytes : List Nat} (h : w.ownsRow B 5 1 v bytes.length (byteVs bytes)) :
    ∃ ao cap, v = .slice ao bytes.length cap ∧ BytesAt w ao bytes := by
  rcases h.2 with ⟨hv, hn0⟩ | ⟨g, cap, cur, hv, hg, hgg, hgn, hcapm, hcsz, htake⟩
  · exact ⟨none, 0, by rw [hv, hn0], fun _ => hn0, fun a ha => by cases ha⟩
  · refine ⟨some ⟨g, 0, none⟩, cap, hv, fun h => (by cases h), fun a ha j hj => ?_⟩
    subst hv
    simp only [Option.some.injEq] at ha
    subst ha
    exact h.cells (g := g) rfl j (.int .u8 ((bytes.getD j 0 : Nat) : Int)) (by simp [byteVs, hj])

set_option maxRecDepth 100000 in
set_option maxHeartbeats 3200000 in
theorem back_walk (ao : Option Addr) (N c : Nat) (w : World) (hN : N ≤ 1048576) (hl : PartsAt w ao N) :
    Calls Try.prog 5 #[.slice ao N c] w fun e w' => e = .returned (.bool true) ∧ Below w.heap.size w w' := by
  obtain ⟨i0, hi, hz0, hz1, hz2⟩ := info_parts Try.info29
  have HL := hide hl; clear hl
  obtain ⟨H0, hH0⟩ : ∃ H0, H0 = w.heap.size := ⟨_, rfl⟩
  have HH := hide hH0
  rw [← hH0]
  go_enter Try.func5, Try.ntmps5
  go_wp2_with fail
  refine (newSink_any w).mono ?_
  rw [← hH0]
  clear hH0
  rintro e w1 ⟨rfl, hs1, k1⟩
  go_wp2_with fail
  refine (live_any w1).mono ?_
  rintro e w2 ⟨rfl, b2⟩
  have hsz1 : H0 ≤ w1.heap.size := by have := k1.below.size; rw [HH.out]; exact this
  have hS2 : SinkIs w2 H0 H0 [] := hs1.below b2 (Nat.le_refl _)
  have hB2 : Below H0 w w2 := k1.below.trans (b2.mono hsz1)
  have HS2 := hide hS2; have HB2 := hide hB2
  clear hS2 hB2 hs1 k1 b2 hsz1
  go_wp2_with fail
  go_loopw [4, 35] (fun v i wr => ∃ (k : Nat) (ps : List Pt), k ≤ N ∧ i = .int .i64 k ∧ SinkIs wr H0 H0 (ptBits ps) ∧ wr.ownsRow H0 29 4 v ps.length (ptCells ps) ∧ (∀ x ∈ ps, x.ok) ∧ ps.length ≤ k ∧ Below H0 w wr) (fun _ i _ => N - (intOf i).toNat)
  case atStart => exact ⟨0, [], Nat.zero_le _, rfl, HS2.out, World.ownsRow_nil _ _ _ _, by simp, Nat.le_refl _, HB2.out⟩
  case round =>
    obtain ⟨k, ps, hk, rfl, hsr, hown, hok, hpl, hbr⟩ := hrel
    have HSr := hide hsr; have HO := hide hown; have HBr := hide hbr; have HOk := hide hok; have HPl := hide hpl
    clear hsr hown hbr hok hpl
    obtain ⟨aow, cw, rfl⟩ := slice_shape HO.out
    by_cases hlt : k < N
    · obtain ⟨b2, o2, rfl, hb2, hp⟩ := HL.out (by omega)
      obtain ⟨kind, u', n, s, p0, p1, p2, p3, wn, wu, wk, hsz⟩ := hp k hlt
      have hu2 : 0 ≤ u' ∧ u' ≤ 18446744073709551615 := by simpa [Lit.wf, IntKind.min, IntKind.max, IntKind.signed, IntKind.bits] using wu
      obtain ⟨u, rfl⟩ : ∃ u : Nat, u' = u := ⟨u'.toNat, by omega⟩
      have hu : u < 2 ^ 64 := by omega
      have hb2' : b2 < H0 := by rw [HH.out]; exact hb2
      have r0 := (HBr.out.cell (p := ⟨b2, o2 + k * 4, none⟩) hb2').trans p0
      have r1 := (HBr.out.cell (p := ⟨b2, o2 + k * 4 + 1, none⟩) hb2').trans p1
      have r2 := (HBr.out.cell (p := ⟨b2, o2 + k * 4 + 2, none⟩) hb2').trans p2
      have r3 := (HBr.out.cell (p := ⟨b2, o2 + k * 4 + 3, none⟩) hb2').trans p3
      have hH0r : H0 ≤ wr.heap.size := by have := HBr.out.size; rw [HH.out]; exact this
      obtain ⟨bs, hbs⟩ : ∃ bs, bs = ptBits ps := ⟨_, rfl⟩
      have HBS := hide hbs
      have CP := fun W (hs : SinkIs W H0 H0 bs) => lput_any H0 H0 u kind n s bs W hs hu wn hsz
      have hxok : partMay kind u n = true → Pt.ok ⟨kind, u, n, s⟩ := fun h => ⟨h, hu, wn, hsz⟩
      have HXok := hide hxok
      have hSr0 := HSr.out
      rw [← hbs] at hSr0
      have HSr0 := hide hSr0
      clear hbs hxok hSr0
      obtain ⟨new, hnew⟩ : ∃ new, new = partNew kind u n s := ⟨_, rfl⟩
      obtain ⟨may, hmay⟩ : ∃ may, may = partMay kind u n := ⟨_, rfl⟩
      rw [← hnew, ← hmay] at CP
      have HNew := hide hnew; have HMay := hide hmay
      have HSW := hide (HSr0.out.below ((Below.refl wr.heap.size wr).alloc (Nat.le_refl _) (.cells #[.int .i64 kind, .int .u64 (u : Int), .int .i64 n, .string s] 29)) (Nat.le_refl _))
      have HOW := hide (HO.out.alloc (.cells #[.int .i64 kind, .int .u64 (u : Int), .int .i64 n, .string s] 29))
      have HBW := hide (HBr.out.alloc hH0r (.cells #[.int .i64 kind, .int .u64 (u : Int), .int .i64 n, .string s] 29))
      have HPW := hide (heap_alloc_new wr (.cells #[.int .i64 kind, .int .u64 (u : Int), .int .i64 n, .string s] 29))
      have hszW : H0 ≤ (wr.alloc (.cells #[.int .i64 kind, .int .u64 (u : Int), .int .i64 n, .string s] 29)).heap.size := by simp; omega
      have HszW := hide hszW
      clear p0 p1 p2 p3 hb2 hp wu wk hnew hmay hu2 hu wn hsz hszW
      go_wp2_with fail
      refine (CP _ HSW.out).mono ?_
      clear CP
      rintro e w3 ⟨v, err, bs', rfl, hf3, hs3, k3, hcase⟩
      have HB3 := hide (HBW.out.trans k3.below)
      have HO3 := hide (k3.ownsRow HOW.out (by decide))
      have HF3 := hide hf3; have HS3 := hide hs3
      have hH03 : H0 ≤ w3.heap.size := Nat.le_trans HszW.out k3.below.size
      obtain ⟨t0, t1, t2, t3⟩ := cell_of_four (k3.typed _ _ _ _ HPW.out (by decide))
      clear hf3 hs3 k3
      obtain ⟨aov, cv, rfl⟩ := slice_shape HF3.out
      rcases hcase with ⟨rfl, rfl, rfl⟩ | ⟨rfl, hlong, rfl, rfl⟩ | ⟨rfl, hfit, rfl, rfl⟩
      · clear t0 t1 t2 t3
        go_wp2
        go_roundw
        case rel => exact ⟨k + 1, ps, by omega, by go_num, by rw [← HBS.out]; exact HS3.out, HO3.out, HOk.out, by have := HPl.out; omega, HB3.out⟩
        case measure => simp [intOf]; omega
      · clear t0 t1 t2 t3
        go_wp2
        go_roundw
        case rel => exact ⟨k + 1, ps, by omega, by go_num, by rw [← HBS.out]; exact HS3.out, HO3.out, HOk.out, by have := HPl.out; omega, HB3.out⟩
        case measure => simp [intOf]; omega
      · have HOA := hide (HO3.out.alloc (.cells #[.int .i64 kind, .int .u64 (u : Int), .int .i64 n, .string s] 29))
        go_wp2_with (at_builtin; refine wpList_append_own _ rfl (.tmp 48) (.tmp 50) 22 rfl H0 29 i0 _ 4 40 Try.underlying22 hi hz0 hz1 hz2 rfl (by decide) _ ps.length _ rfl HOA.out ⟨w3.heap.size, 0, none⟩ 1 1 (Pt.cells ⟨kind, u, n, s⟩) rfl rfl (cells_fresh w3 ⟨kind, u, n, s⟩ _) (ptCells_one _) (by have := HPl.out; unfold maxLen; omega) (by have := HPl.out; omega) (by simp; omega) ?_; intro v4 w4 hown4 hgrow4 hnil4; clear hnil4; have HO4 := hide hown4; have HG4 := hide hgrow4; obtain ⟨ao4, cw4, rfl⟩ := slice_shape HO4.out; have HS4 := hide ((HS3.out.below ((Below.refl w3.heap.size w3).alloc (Nat.le_refl _) (.cells #[.int .i64 kind, .int .u64 (u : Int), .int .i64 n, .string s] 29)) (Nat.le_refl _)).grown HOA.out (by decide) (by decide) hgrow4); clear hown4 hgrow4)
        go_roundw
        case rel =>
          refine ⟨k + 1, ps ++ [⟨kind, u, n, s⟩], by omega, by go_num, ?_, ?_, ?_, by have := HPl.out; simp; omega, (HB3.out.alloc hH03 _).grown HG4.out (by simp; omega) (fun j hj => (HOA.out.lt j hj).1)⟩
          · rw [ptBits_snoc, ← HBS.out]
            have := HS4.out
            rw [HNew.out] at this
            exact this
          · rw [ptCells_snoc, List.length_append]; exact HO4.out
          · intro x hx
            rcases List.mem_append.1 hx with h | h
            · exact HOk.out x h
            · simp at h; subst h; exact HXok.out HMay.out.symm
        case measure => simp [intOf]; omega
    · obtain ⟨bs, hbs⟩ : ∃ bs, bs = ptBits ps := ⟨_, rfl⟩
      have hSr0 := HSr.out
      rw [← hbs] at hSr0
      have hH0r : H0 ≤ wr.heap.size := by have := HBr.out.size; rw [HH.out]; exact this
      have HBS := hide hbs
      clear hbs
      go_wp2_with fail
      refine (kOut_any _ _ _ _ hSr0).mono ?_
      rintro e w3 ⟨v3, rfl, ho3, b3⟩
      obtain ⟨ao3, c3, rfl, hat⟩ := bytesAt_own ho3
      have hpl : (packed bs).length ≤ 140737488355328 := by have := packed_length_le bs; have := hSr0.len; omega
      have CN := newSource_any ao3 c3 (packed bs) w3 hpl (packed_small bs) hat
      have HB3 := hide (HBr.out.trans (b3.mono hH0r))
      have HO3 := hide (ownsRow_below HO.out b3 (Nat.le_refl _))
      have hH03 : H0 ≤ w3.heap.size := Nat.le_trans hH0r b3.size
      obtain ⟨pb, hpb⟩ : ∃ pb, pb = packed bs := ⟨_, rfl⟩
      rw [← hpb] at CN ⊢
      have HPB := hide hpb
      clear hSr0 ho3 b3 hat hpl hpb
      go_wp2_with fail
      refine CN.mono ?_
      clear CN
      rintro e w4 ⟨q, rfl, hs4, b4⟩
      have HB4 := hide (HB3.out.trans (b4.mono hH03))
      have HO4 := hide (ownsRow_below HO3.out b4 (Nat.le_refl _))
      obtain ⟨pad, hpad, hpad8⟩ := bitsAll_packed bs
      have hhas : SrcHas w4 H0 q pb (ptBits (ps.drop 0) ++ List.replicate pad false) := by
        refine SrcHas.lower ⟨0, hs4, ?_⟩ hH03
        rw [List.drop_zero, ← HBS.out, ← hpad, HPB.out]; rfl
      have HHas := hide hhas; have HPad := hide hpad8
      have HPs : Hid (ps.length ≤ 1048576) := by have := HPl.out; exact (by omega : ps.length ≤ 1048576)
      obtain ⟨L, hL⟩ : ∃ L, L = ps.length := ⟨_, rfl⟩
      rw [← hL] at HO4 HPs ⊢
      have HLen := hide hL
      clear hs4 b4 hpad hpad8 hhas hH03 hH0r HSr HO HBr HPl HB3 HO3 hL
      have hLs : L ≤ 1048576 := HPs.out
      go_wp2_with fail
      go_loopw [60] (fun i wr => ∃ j : Nat, j ≤ L ∧ i = .int .i64 j ∧ SrcHas wr H0 q pb (ptBits (ps.drop j) ++ List.replicate pad false) ∧ wr.ownsRow H0 29 4 (.slice aow L cw) L (ptCells ps) ∧ Below H0 w wr) (fun i _ => L - (intOf i).toNat)
      case atStart => exact ⟨0, Nat.zero_le _, rfl, HHas.out, HO4.out, HB4.out⟩
      case round =>
        obtain ⟨j, hj, rfl, hsj, hoj, hbj⟩ := hrel
        by_cases hltj : j < L
        · have hjp : j < ps.length := by rw [← HLen.out]; exact hltj
          obtain ⟨x, hx⟩ : ∃ x, x = ps[j] := ⟨_, rfl⟩
          rw [ptBits_drop ps j hjp, ← hx, List.append_assoc] at hsj
          have hxok : x.ok := HOk.out x (by rw [hx]; exact List.getElem_mem _)
          obtain ⟨g, rfl⟩ : ∃ g, aow = some ⟨g, 0, none⟩ := by
            rcases hoj.2 with ⟨_, h0⟩ | ⟨g, cap, cur, hv, _⟩
            · omega
            · simp only [Value.slice.injEq] at hv
              exact ⟨g, hv.1⟩
          obtain ⟨r0, r1, r2, r3⟩ := row_part hoj j hjp
          rw [← hx] at r0 r1 r2 r3
          clear hx
          obtain ⟨kind, u, n, s⟩ := x
          obtain ⟨hmay, hu, wn, hsz⟩ := hxok
          simp only at hmay hu wn hsz r0 r1 r2 r3
          obtain ⟨rest, hrest⟩ : ∃ rest, rest = ptBits (ps.drop (j + 1)) ++ List.replicate pad false := ⟨_, rfl⟩
          rw [← hrest] at hsj
          have hH0j : H0 ≤ wr.heap.size := by have := hbj.size; rw [HH.out]; exact this
          have HOj := hide hoj; have HBj := hide hbj
          have HRest := hide hrest
          clear hoj hbj
          by_cases h0 : kind = 0
          · subst h0
            obtain ⟨m, rfl, hm64, hum⟩ := fitsB_nat (show fitsB u n = true by simpa [partMay] using hmay)
            have hcl : clampN (m : Int) = m := by unfold clampN; omega
            rw [show Pt.bits ⟨0, u, (m : Int), s⟩ = bitsOf u m by unfold Pt.bits partNew; rw [if_pos rfl, hcl]] at hsj
            have Hum := hide hum; have Hm64 := hide hm64
            clear hcl hmay hu wn hsz hum hm64
            have HPW := hide (heap_alloc_new wr (.cells #[.int .i64 0, .int .u64 (u : Int), .int .i64 (m : Int), .string s] 29))
            have HSW := hide (hsj.below ((Below.refl wr.heap.size wr).alloc (Nat.le_refl _) (.cells #[.int .i64 0, .int .u64 (u : Int), .int .i64 (m : Int), .string s] 29)) (Nat.le_refl _))
            have HOW := hide (HOj.out.alloc (.cells #[.int .i64 0, .int .u64 (u : Int), .int .i64 (m : Int), .string s] 29))
            have HBW := hide (HBj.out.alloc hH0j (.cells #[.int .i64 0, .int .u64 (u : Int), .int .i64 (m : Int), .string s] 29))
            clear hsj hH0j
            go_wp2_with fail
            refine (back_bits H0 q u m pb rest _ HSW.out Hm64.out Hum.out).mono ?_
            rintro e w5 ⟨rfl, h5, k5⟩
            obtain ⟨t0, t1, t2, t3⟩ := cell_of_four (k5.typed _ _ _ _ HPW.out (by decide))
            have H5 := hide h5; have K5 := hide k5; clear h5 k5
            go_wp2
            go_roundw
            case rel => exact ⟨j + 1, by omega, by go_num, by rw [← HRest.out]; exact H5.out, K5.out.ownsRow HOW.out (by decide), HBW.out.trans K5.out.below⟩
            case measure => simp [intOf]; omega
          by_cases h1 : kind = 1
          · subst h1
            rw [show Pt.bits ⟨1, u, n, s⟩ = natBits u by unfold Pt.bits partNew; rw [if_neg (by omega), if_pos rfl]] at hsj
            have Hu := hide hu
            clear h0 hmay hu wn hsz
            have HPW := hide (heap_alloc_new wr (.cells #[.int .i64 1, .int .u64 (u : Int), .int .i64 n, .string s] 29))
            have HSW := hide (hsj.below ((Below.refl wr.heap.size wr).alloc (Nat.le_refl _) (.cells #[.int .i64 1, .int .u64 (u : Int), .int .i64 n, .string s] 29)) (Nat.le_refl _))
            have HOW := hide (HOj.out.alloc (.cells #[.int .i64 1, .int .u64 (u : Int), .int .i64 n, .string s] 29))
            have HBW := hide (HBj.out.alloc hH0j (.cells #[.int .i64 1, .int .u64 (u : Int), .int .i64 n, .string s] 29))
            clear hsj hH0j
            go_wp2_with fail
            refine (back_nat H0 q u pb rest _ HSW.out Hu.out).mono ?_
            rintro e w5 ⟨rfl, h5, k5⟩
            obtain ⟨t0, t1, t2, t3⟩ := cell_of_four (k5.typed _ _ _ _ HPW.out (by decide))
            have H5 := hide h5; have K5 := hide k5; clear h5 k5
            go_wp2
            go_roundw
            case rel => exact ⟨j + 1, by omega, by go_num, by rw [← HRest.out]; exact H5.out, K5.out.ownsRow HOW.out (by decide), HBW.out.trans K5.out.below⟩
            case measure => simp [intOf]; omega
          by_cases h2 : kind = 2
          · subst h2
            rw [show Pt.bits ⟨2, u, n, s⟩ = natBits (zigN (wrap64 (u : Int))) by unfold Pt.bits partNew; rw [if_neg (by omega), if_neg (by omega), if_pos rfl]] at hsj
            have hwr : -9223372036854775808 ≤ wrap64 (u : Int) ∧ wrap64 (u : Int) ≤ 9223372036854775807 := by unfold wrap64; omega
            have Hwr := hide hwr
            clear h0 h1 hmay hu wn hsz hwr
            have HPW := hide (heap_alloc_new wr (.cells #[.int .i64 2, .int .u64 (u : Int), .int .i64 n, .string s] 29))
            have HSW := hide (hsj.below ((Below.refl wr.heap.size wr).alloc (Nat.le_refl _) (.cells #[.int .i64 2, .int .u64 (u : Int), .int .i64 n, .string s] 29)) (Nat.le_refl _))
            have HOW := hide (HOj.out.alloc (.cells #[.int .i64 2, .int .u64 (u : Int), .int .i64 n, .string s] 29))
            have HBW := hide (HBj.out.alloc hH0j (.cells #[.int .i64 2, .int .u64 (u : Int), .int .i64 n, .string s] 29))
            clear hsj hH0j
            go_wp2_with fail
            refine (back_num H0 q (wrap64 (u : Int)) pb rest _ HSW.out Hwr.out).mono ?_
            rintro e w5 ⟨rfl, h5, k5⟩
            obtain ⟨t0, t1, t2, t3⟩ := cell_of_four (k5.typed _ _ _ _ HPW.out (by decide))
            have H5 := hide h5; have K5 := hide k5; clear h5 k5
            go_wp2
            go_roundw
            case rel => exact ⟨j + 1, by omega, by go_num, by rw [← HRest.out]; exact H5.out, K5.out.ownsRow HOW.out (by decide), HBW.out.trans K5.out.below⟩
            case measure => simp [intOf]; omega
          by_cases h3 : kind = 3
          · subst h3
            rw [show Pt.bits ⟨3, u, n, s⟩ = textBits s.data.toList by unfold Pt.bits partNew; rw [if_neg (by omega), if_neg (by omega), if_neg (by omega), if_pos rfl]] at hsj
            have Hsz := hide hsz
            clear h0 h1 h2 hmay hu wn hsz
            have HPW := hide (heap_alloc_new wr (.cells #[.int .i64 3, .int .u64 (u : Int), .int .i64 n, .string s] 29))
            have HSW := hide (hsj.below ((Below.refl wr.heap.size wr).alloc (Nat.le_refl _) (.cells #[.int .i64 3, .int .u64 (u : Int), .int .i64 n, .string s] 29)) (Nat.le_refl _))
            have HOW := hide (HOj.out.alloc (.cells #[.int .i64 3, .int .u64 (u : Int), .int .i64 n, .string s] 29))
            have HBW := hide (HBj.out.alloc hH0j (.cells #[.int .i64 3, .int .u64 (u : Int), .int .i64 n, .string s] 29))
            clear hsj hH0j
            go_wp2_with fail
            refine (back_text H0 q s pb rest _ HSW.out Hsz.out).mono ?_
            rintro e w5 ⟨rfl, h5, k5⟩
            obtain ⟨t0, t1, t2, t3⟩ := cell_of_four (k5.typed _ _ _ _ HPW.out (by decide))
            have H5 := hide h5; have K5 := hide k5; clear h5 k5
            go_wp2
            go_roundw
            case rel => exact ⟨j + 1, by omega, by go_num, by rw [← HRest.out]; exact H5.out, K5.out.ownsRow HOW.out (by decide), HBW.out.trans K5.out.below⟩
            case measure => simp [intOf]; omega
          · rw [show Pt.bits ⟨kind, u, n, s⟩ = [decide (0 < n), decide ((0 : Int) < u)] by unfold Pt.bits partNew; rw [if_neg h0, if_neg h1, if_neg h2, if_neg h3]] at hsj
            obtain ⟨a, ha⟩ : ∃ a, a = decide (0 < n) := ⟨_, rfl⟩
            obtain ⟨b, hb⟩ : ∃ b, b = decide ((0 : Int) < u) := ⟨_, rfl⟩
            rw [← ha, ← hb] at hsj
            have b0 : (kind == 0) = false := by simp [h0]
            have b1 : (kind == 1) = false := by simp [h1]
            have b2 : (kind == 2) = false := by simp [h2]
            have b3 : (kind == 3) = false := by simp [h3]
            have HA := hide ha; have HB := hide hb
            clear h0 h1 h2 h3 hmay hu wn hsz ha hb
            have HPW := hide (heap_alloc_new wr (.cells #[.int .i64 kind, .int .u64 (u : Int), .int .i64 n, .string s] 29))
            have HSW := hide (hsj.below ((Below.refl wr.heap.size wr).alloc (Nat.le_refl _) (.cells #[.int .i64 kind, .int .u64 (u : Int), .int .i64 n, .string s] 29)) (Nat.le_refl _))
            have HOW := hide (HOj.out.alloc (.cells #[.int .i64 kind, .int .u64 (u : Int), .int .i64 n, .string s] 29))
            have HBW := hide (HBj.out.alloc hH0j (.cells #[.int .i64 kind, .int .u64 (u : Int), .int .i64 n, .string s] 29))
            clear hsj hH0j
            go_wp2_with fail
            refine (back_flag H0 q a pb (b :: rest) _ HSW.out).mono ?_
            rintro e w5 ⟨rfl, h5, k5⟩
            have H5 := hide h5; have K5 := hide k5; clear h5 k5
            go_wp2_with fail
            refine (back_flag H0 q b pb rest _ H5.out).mono ?_
            rintro e w6 ⟨rfl, h6, k6⟩
            obtain ⟨t0, t1, t2, t3⟩ := cell_of_four ((K5.out.trans k6).typed _ _ _ _ HPW.out (by decide))
            have H6 := hide h6; have K6 := hide k6; clear h6 k6
            have ha' := HA.out.symm; have hb' := HB.out.symm
            have hb2' : decide (0 < u) = b := by rw [HB.out]; simp
            go_wp2
            go_roundw
            case rel => exact ⟨j + 1, by omega, by go_num, by rw [← HRest.out]; exact H6.out, (K5.out.trans K6.out).ownsRow HOW.out (by decide), HBW.out.trans (K5.out.trans K6.out).below⟩
            case measure => simp [intOf]; omega
        · obtain rfl : j = L := by omega
          have hd : ps.drop j = [] := List.drop_eq_nil_of_le (by rw [← HLen.out]; exact Nat.le_refl _)
          rw [hd] at hsj
          obtain ⟨p, hp1, hp2⟩ := hsj
          have he : endErrL (leftL pb p) = 0 := by rw [hp2]; exact endErrL_pad pad HPad.out
          have CE := sEnd_left H0 q pb p wr hp1
          rw [he] at CE
          have HBj := hide hbj
          clear hoj hbj hd hp1 hp2 he
          go_wp2_with fail
          refine CE.mono ?_
          rintro e w5 ⟨rfl, _, k5⟩
          have HB5 := hide (HBj.out.trans k5.below); clear k5 CE
          go_wp2
          go_ret
          exact ⟨rfl, HB5.out⟩
end Go.Proofs.Ytlibfbfhleijlaa
