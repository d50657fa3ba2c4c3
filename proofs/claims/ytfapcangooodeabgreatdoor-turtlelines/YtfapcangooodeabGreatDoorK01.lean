import Derived.Test.YtfapcangooodeabGreatDoorK00
import Derived.Test.YtfapcangooodeabGreatDoorProg
import Derived.WalkKit
import Derived.WalkLawsBesides
import Derived.WalkSpells
import Derived.Below
import Derived.StillTailTactics
import Derived.BigQuiet
import Derived.Deep.QuietTactic
import Derived.Shelf.Strings.OnBuilder
import Derived.Shelf.Small.Utf8
import Derived.Shelf.Small.Strs
import Derived.Shelf.Strings.BuilderK
import Derived.Shelf.Strings.BuilderRune
import Derived.Shelf.Strings.Runes
import Derived.Shelf.Unicode.DecodeAny
namespace Go.Proofs.YtfapcangooodeabGreatDoor
open Go.RowKit

theorem ret_int {k : IntKind} {a b : Int} (h : a = b) : Ending.returned (.int k a) = .returned (.int k b) := by rw [h]
theorem ret_bool {a b : Bool} (h : a = b) : Ending.returned (.bool a) = .returned (.bool b) := by rw [h]


theorem ended_any (w : World) (b i : Nat) (s : ByteArray) (h : Rd w b s i) :
    Calls Tryz.prog 108 #[.pointer (some ⟨b, 0, none⟩)] w fun e w' => e = .returned (.bool (decide (i = s.size))) ∧ ∃ n, w' = w.drewN n := by
  obtain ⟨c0, c1, fz, le, hs⟩ := h
  go_enter Tryz.func108, Tryz.ntmps108
  go_wp2
  go_quiet (fail)
  go_wp2
  go_ret
  exact ⟨ret_bool (by rw [Bool.eq_iff_iff]; simp; omega), nq, rfl⟩

theorem sees_any (w : World) (b i : Nat) (s : ByteArray) (c : Int) (h : Rd w b s i) (h0 : 0 ≤ c) (h1 : c < 256) :
    Calls Tryz.prog 105 #[.pointer (some ⟨b, 0, none⟩), .int .u8 c] w fun e w' => e = .returned (.bool (decide (bt s i = c))) ∧ ∃ n, w' = w.drewN n := by
  have H : Hid (Rd w b s i) := h
  obtain ⟨c0, c1, fz, le, hs⟩ := h
  by_cases hi : i = s.size
  · have hd : decide (i = s.size) = true := by simpa using hi
    have hb := bt_end (s := s) (i := i) (by omega)
    go_enter Tryz.func105, Tryz.ntmps105
    go_wp2
    go_quiet ((go_at_call 108; exact Calls.quiet_of (ended_any _ _ _ _ (H.out.drewN _))))
    go_wp2
    go_ret
    exact ⟨ret_bool (by rw [Bool.eq_iff_iff]; simp; omega), nq, rfl⟩
  · have hd : decide (i = s.size) = false := by simpa using hi
    have hlt : i < s.size := by omega
    have hb := bt_lt hlt
    have HB : Hid (bt s i = s[i].toNat) := hb
    clear hb
    go_enter Tryz.func105, Tryz.ntmps105
    go_wp2
    go_quiet ((go_at_call 108; exact Calls.quiet_of (ended_any _ _ _ _ (H.out.drewN _))))
    go_wp2
    go_ret
    exact ⟨ret_bool (by rw [HB.out, Bool.eq_iff_iff]; simp), nq, rfl⟩

theorem take_any (w : World) (b i : Nat) (s : ByteArray) (c : Int) (h : Rd w b s i) (h0 : 0 ≤ c) (h1 : c < 256) :
    Calls Tryz.prog 64 #[.pointer (some ⟨b, 0, none⟩), .int .u8 c] w fun e w' => e = .returned (.bool (decide (bt s i = c))) ∧ Adv b (if bt s i = c then i + 1 else i) w w' := by
  have H : Hid (Rd w b s i) := h
  obtain ⟨c0, c1, fz, le, hs⟩ := h
  by_cases hi : bt s i = c
  · have hlt := bt_in hi h1
    simp only [if_pos hi]
    have hd : decide (bt s i = c) = true := by simpa using hi
    clear hi
    go_enter Tryz.func64, Tryz.ntmps64
    go_wp2_with (go_at_call 105; refine (sees_any _ _ _ _ _ (H.out) h0 h1).mono ?_; rintro e w' ⟨rfl, m, rfl⟩)
    go_ret
    exact ⟨ret_bool hd.symm, (H.out.stayN m).trans (Adv.set b (i + 1) (w.drewN m) 0)⟩
  · simp only [if_neg hi]
    have hd : decide (bt s i = c) = false := by simpa using hi
    clear hi
    go_enter Tryz.func64, Tryz.ntmps64
    go_wp2_with (go_at_call 105; refine (sees_any _ _ _ _ _ (H.out) h0 h1).mono ?_; rintro e w' ⟨rfl, m, rfl⟩)
    go_ret
    exact ⟨ret_bool (by simp [hd]), H.out.stayN m⟩

/-- what a reader panics with -/
def stopV (n i : Int) : Value := .iface 111 (.agg #[.iface 98 (.agg #[.int .i64 i, .iface 94 (.agg #[.int .i64 n])])])
abbrev stopE (n i : Int) : Ending := .panicked [{ v := stopV n i, recovered := false }]

theorem GiveUp_any (w : World) (t : TypeId) (v : Value) :
    Calls Tryz.prog 152 #[.iface t v] w fun e w' => e = .panicked [{ v := .iface 111 (.agg #[.iface t v]), recovered := false }] ∧ w' = w := by
  go_enter Tryz.func152, Tryz.ntmps152
  go_wp2
  exact ⟨rfl, rfl, rfl⟩

theorem Refuse_any (w : World) (n i : Int) :
    Calls Tryz.prog 153 #[.int .i64 n, .int .i64 i] w fun e w' => e = stopE n i ∧ w' = w := by
  go_enter Tryz.func153, Tryz.ntmps153
  go_wp2
  exact ⟨rfl, rfl, rfl, rfl⟩

theorem refuse_any (w : World) (b i : Nat) (s : ByteArray) (h : Rd w b s i) :
    Calls Tryz.prog 109 #[.pointer (some ⟨b, 0, none⟩)] w fun e w' => e = stopE 2 i ∧ w' = w := by
  obtain ⟨c0, c1, fz, le, hs⟩ := h
  go_enter Tryz.func109, Tryz.ntmps109
  go_wp2_with (go_at_call 153; refine (Refuse_any _ _ _).mono ?_; rintro e w' ⟨rfl, rfl⟩)
  exact ⟨rfl, rfl, rfl⟩

theorem want_ok (w : World) (b i : Nat) (s : ByteArray) (c : Int) (h : Rd w b s i) (h0 : 0 ≤ c) (h1 : c < 256) (hi : bt s i = c) :
    Calls Tryz.prog 146 #[.pointer (some ⟨b, 0, none⟩), .int .u8 c] w fun e w' => e = .returned (.tuple #[]) ∧ Adv b (i + 1) w w' := by
  have ht := take_any w b i s c h h0 h1
  simp only [if_pos hi] at ht
  have hd : decide (bt s i = c) = true := by simpa using hi
  clear hi
  go_enter Tryz.func146, Tryz.ntmps146
  go_wp2_with (go_at_call 64; refine ht.mono ?_; rintro e w' ⟨rfl, hA⟩)
  go_end0
  exact ⟨rfl, hA⟩

theorem want_bad (w : World) (b i : Nat) (s : ByteArray) (c : Int) (h : Rd w b s i) (h0 : 0 ≤ c) (h1 : c < 256) (hi : bt s i ≠ c) :
    Calls Tryz.prog 146 #[.pointer (some ⟨b, 0, none⟩), .int .u8 c] w fun e w' => e = stopE 2 i ∧ Adv b i w w' := by
  have ht := take_any w b i s c h h0 h1
  simp only [if_neg hi] at ht
  have hd : decide (bt s i = c) = false := by simpa using hi
  clear hi
  go_enter Tryz.func146, Tryz.ntmps146
  go_wp2_with (first
    | (go_at_call 64; refine ht.mono ?_; rintro e w' ⟨rfl, hA⟩)
    | (go_at_call 109; refine (refuse_any _ _ _ _ (h.adv hA h.le)).mono ?_; rintro e w' ⟨rfl, rfl⟩))
  exact ⟨rfl, rfl, hA⟩

theorem wantEnd_ok (w : World) (b i : Nat) (s : ByteArray) (h : Rd w b s i) (hi : i = s.size) :
    Calls Tryz.prog 65 #[.pointer (some ⟨b, 0, none⟩)] w fun e w' => e = .returned (.tuple #[]) ∧ Adv b i w w' := by
  have ht := ended_any w b i s h
  have hd : decide (i = s.size) = true := by simpa using hi
  clear hi
  go_enter Tryz.func65, Tryz.ntmps65
  go_wp2_with (go_at_call 108; refine ht.mono ?_; rintro e w' ⟨rfl, m, rfl⟩)
  go_end0
  exact ⟨rfl, h.stayN m⟩

theorem wantEnd_bad (w : World) (b i : Nat) (s : ByteArray) (h : Rd w b s i) (hi : i ≠ s.size) :
    Calls Tryz.prog 65 #[.pointer (some ⟨b, 0, none⟩)] w fun e w' => e = stopE 2 i ∧ Adv b i w w' := by
  have ht := ended_any w b i s h
  have hd : decide (i = s.size) = false := by simpa using hi
  clear hi
  go_enter Tryz.func65, Tryz.ntmps65
  go_wp2_with (first
    | (go_at_call 108; refine ht.mono ?_; rintro e w' ⟨rfl, m, rfl⟩)
    | (go_at_call 109; refine (refuse_any _ _ _ _ (h.drewN m)).mono ?_; rintro e w' ⟨rfl, rfl⟩))
  exact ⟨rfl, rfl, h.stayN m⟩

theorem place_any (w : World) (b i : Nat) (s : ByteArray) (h : Rd w b s i) :
    Calls Tryz.prog 88 #[.pointer (some ⟨b, 0, none⟩)] w fun e w' => e = .returned (.int .i64 i) ∧ w' = w := by
  obtain ⟨c0, c1, fz, le, hs⟩ := h
  go_enter Tryz.func88, Tryz.ntmps88
  go_wp2
  go_ret
  exact ⟨rfl, rfl⟩

end Go.Proofs.YtfapcangooodeabGreatDoor

namespace Go.Proofs
open Go.Shelf
def Tryz.lays159_ren : Go.Shelf.Ren := ⟨fun | 159 => 215 | 165 => 225 | 166 => 33 | 167 => 186 | 169 => 24 | 230 => 226 | 204 => 227 | 240 => 62 | 241 => 229 | 197 => 213 | 118 => 230 | 168 => 184 | 270 => 231 | 262 => 232 | 276 => 102 | 277 => 237 | 260 => 224 | 242 => 211 | 313 => 238 | 278 => 222 | 274 => 244 | 275 => 245 | n => n, fun | 9 => 9 | 4 => 4 | 3 => 3 | 5 => 5 | 72 => 59 | 0 => 0 | 76 => 84 | 75 => 52 | 107 => 267 | 70 => 56 | 20 => 20 | 37 => 57 | 127 => 103 | 21 => 21 | 105 => 246 | 164 => 129 | 162 => 283 | 203 => 235 | 119 => 269 | 46 => 171 | 139 => 272 | 138 => 271 | 51 => 264 | 160 => 288 | 208 => 295 | 206 => 293 | 80 => 63 | n => n, fun | 13 => 4 | 3 => 2 | 4 => 3 | n => n⟩
theorem Tryz.lays159 : Go.Proofs.Lays.n159 Tryz.prog Tryz.lays159_ren := {
  mixed := by kernel_rfl
  f118 := Tryz.func230.trans (congrArg some (by kernel_rfl))
  f159 := Tryz.func215.trans (congrArg some (by kernel_rfl))
  f165 := Tryz.func225.trans (congrArg some (by kernel_rfl))
  f166 := Tryz.func33.trans (congrArg some (by kernel_rfl))
  f167 := Tryz.func186.trans (congrArg some (by kernel_rfl))
  f168 := Tryz.func184.trans (congrArg some (by kernel_rfl))
  f169 := Tryz.func24.trans (congrArg some (by kernel_rfl))
  f197 := Tryz.func213.trans (congrArg some (by kernel_rfl))
  f204 := Tryz.func227.trans (congrArg some (by kernel_rfl))
  f230 := Tryz.func226.trans (congrArg some (by kernel_rfl))
  f240 := Tryz.func62.trans (congrArg some (by kernel_rfl))
  f241 := Tryz.func229.trans (congrArg some (by kernel_rfl))
  f242 := Tryz.func211.trans (congrArg some (by kernel_rfl))
  f260 := Tryz.func224.trans (congrArg some (by kernel_rfl))
  f262 := Tryz.func232.trans (congrArg some (by kernel_rfl))
  f270 := Tryz.func231.trans (congrArg some (by kernel_rfl))
  f274 := Tryz.func244.trans (congrArg some (by kernel_rfl))
  f275 := Tryz.func245.trans (congrArg some (by kernel_rfl))
  f276 := Tryz.func102.trans (congrArg some (by kernel_rfl))
  f277 := Tryz.func237.trans (congrArg some (by kernel_rfl))
  f278 := Tryz.func222.trans (congrArg some (by kernel_rfl))
  f313 := Tryz.func238.trans (congrArg some (by kernel_rfl))
  t0 := Tryz.underlying0
  a0 := Tryz.isAgg0
  z0 := Tryz.sizeOf0
  v0 := Tryz.zeroValue0
  t3 := Tryz.underlying3
  a3 := Tryz.isAgg3
  z3 := Tryz.sizeOf3
  v3 := Tryz.zeroValue3
  t4 := Tryz.underlying4
  a4 := Tryz.isAgg4
  z4 := Tryz.sizeOf4
  v4 := Tryz.zeroValue4
  t5 := Tryz.underlying5
  a5 := Tryz.isAgg5
  z5 := Tryz.sizeOf5
  v5 := Tryz.zeroValue5
  t9 := Tryz.underlying9
  a9 := Tryz.isAgg9
  z9 := Tryz.sizeOf9
  v9 := Tryz.zeroValue9
  t20 := Tryz.underlying20
  a20 := Tryz.isAgg20
  z20 := Tryz.sizeOf20
  v20 := Tryz.zeroValue20
  t21 := Tryz.underlying21
  a21 := Tryz.isAgg21
  z21 := Tryz.sizeOf21
  v21 := Tryz.zeroValue21
  t37 := Tryz.underlying57
  a37 := Tryz.isAgg57
  z37 := Tryz.sizeOf57
  v37 := Tryz.zeroValue57
  t46 := Tryz.underlying171
  a46 := Tryz.isAgg171
  z46 := Tryz.sizeOf171
  v46 := Tryz.zeroValue171
  t51 := Tryz.underlying264
  a51 := Tryz.isAgg264
  z51 := Tryz.sizeOf264
  v51 := Tryz.zeroValue264
  t70 := Tryz.underlying56
  a70 := Tryz.isAgg56
  z70 := Tryz.sizeOf56
  v70 := Tryz.zeroValue56
  t72 := Tryz.underlying59
  a72 := Tryz.isAgg59
  z72 := Tryz.sizeOf59
  v72 := Tryz.zeroValue59
  t75 := Tryz.underlying52
  a75 := Tryz.isAgg52
  z75 := Tryz.sizeOf52
  v75 := Tryz.zeroValue52
  t76 := Tryz.underlying84
  a76 := Tryz.isAgg84
  z76 := Tryz.sizeOf84
  v76 := Tryz.zeroValue84
  t105 := Tryz.underlying246
  a105 := Tryz.isAgg246
  z105 := Tryz.sizeOf246
  v105 := Tryz.zeroValue246
  t107 := Tryz.underlying267
  a107 := Tryz.isAgg267
  z107 := Tryz.sizeOf267
  v107 := Tryz.zeroValue267
  t119 := Tryz.underlying269
  a119 := Tryz.isAgg269
  z119 := Tryz.sizeOf269
  t127 := Tryz.underlying103
  a127 := Tryz.isAgg103
  z127 := Tryz.sizeOf103
  v127 := Tryz.zeroValue103
  t138 := Tryz.underlying271
  a138 := Tryz.isAgg271
  z138 := Tryz.sizeOf271
  v138 := Tryz.zeroValue271
  t139 := Tryz.underlying272
  a139 := Tryz.isAgg272
  z139 := Tryz.sizeOf272
  v139 := Tryz.zeroValue272
  t160 := Tryz.underlying288
  a160 := Tryz.isAgg288
  z160 := Tryz.sizeOf288
  v160 := Tryz.zeroValue288
  t162 := Tryz.underlying283
  a162 := Tryz.isAgg283
  z162 := Tryz.sizeOf283
  v162 := Tryz.zeroValue283
  t164 := Tryz.underlying129
  a164 := Tryz.isAgg129
  z164 := Tryz.sizeOf129
  v164 := Tryz.zeroValue129
  t203 := Tryz.underlying235
  a203 := Tryz.isAgg235
  z203 := Tryz.sizeOf235
  v203 := Tryz.zeroValue235
  t206 := Tryz.underlying293
  a206 := Tryz.isAgg293
  z206 := Tryz.sizeOf293
  v206 := Tryz.zeroValue293
  t208 := Tryz.underlying295
  a208 := Tryz.isAgg295
  z208 := Tryz.sizeOf295
  v208 := Tryz.zeroValue295
  g3 := by kernel_rfl
  g4 := by kernel_rfl
  g13 := by kernel_rfl }
theorem Tryz.Builder_Extra_159 : Builder.Extra Tryz.prog Tryz.lays159_ren := {
  sizeBuilder := by kernel_rfl
  liesBuilder := by kernel_rfl
  t5 := Tryz.underlying5
  a5 := Tryz.isAgg5
  z5 := Tryz.sizeOf5
  v5 := Tryz.zeroValue5
  infoByte := by kernel_rfl
  cellsByte := by kernel_rfl
  sizeByte := by kernel_rfl
  neB5 := by decide }
def Tryz.lays106_ren : Go.Shelf.Ren := ⟨fun | 106 => 111 | 213 => 161 | 265 => 198 | n => n, fun | 9 => 9 | 3 => 3 | n => n, fun | n => n⟩
theorem Tryz.lays106 : Go.Proofs.Lays.n106 Tryz.prog Tryz.lays106_ren := {
  mixed := by kernel_rfl
  f106 := Tryz.func111.trans (congrArg some (by kernel_rfl))
  f213 := Tryz.func161.trans (congrArg some (by kernel_rfl))
  f265 := Tryz.func198.trans (congrArg some (by kernel_rfl))
  t3 := Tryz.underlying3
  a3 := Tryz.isAgg3
  z3 := Tryz.sizeOf3
  v3 := Tryz.zeroValue3
  t9 := Tryz.underlying9
  a9 := Tryz.isAgg9
  z9 := Tryz.sizeOf9
  v9 := Tryz.zeroValue9 }
def Tryz.lays151_ren : Go.Shelf.Ren := ⟨fun | 151 => 177 | 152 => 207 | 137 => 156 | 119 => 219 | 224 => 220 | 225 => 221 | 217 => 195 | 266 => 216 | n => n, fun | 9 => 9 | 21 => 21 | 4 => 4 | 3 => 3 | 5 => 5 | 0 => 0 | 46 => 171 | n => n, fun | n => n⟩
theorem Tryz.lays151 : Go.Proofs.Lays.n151 Tryz.prog Tryz.lays151_ren := {
  mixed := by kernel_rfl
  f119 := Tryz.func219.trans (congrArg some (by kernel_rfl))
  f137 := Tryz.func156.trans (congrArg some (by kernel_rfl))
  f151 := Tryz.func177.trans (congrArg some (by kernel_rfl))
  f152 := Tryz.func207.trans (congrArg some (by kernel_rfl))
  f217 := Tryz.func195.trans (congrArg some (by kernel_rfl))
  f224 := Tryz.func220.trans (congrArg some (by kernel_rfl))
  f225 := Tryz.func221.trans (congrArg some (by kernel_rfl))
  f266 := Tryz.func216.trans (congrArg some (by kernel_rfl))
  t0 := Tryz.underlying0
  a0 := Tryz.isAgg0
  z0 := Tryz.sizeOf0
  v0 := Tryz.zeroValue0
  t3 := Tryz.underlying3
  a3 := Tryz.isAgg3
  z3 := Tryz.sizeOf3
  v3 := Tryz.zeroValue3
  t4 := Tryz.underlying4
  a4 := Tryz.isAgg4
  z4 := Tryz.sizeOf4
  v4 := Tryz.zeroValue4
  t5 := Tryz.underlying5
  a5 := Tryz.isAgg5
  z5 := Tryz.sizeOf5
  v5 := Tryz.zeroValue5
  t9 := Tryz.underlying9
  a9 := Tryz.isAgg9
  z9 := Tryz.sizeOf9
  v9 := Tryz.zeroValue9
  t21 := Tryz.underlying21
  a21 := Tryz.isAgg21
  z21 := Tryz.sizeOf21
  v21 := Tryz.zeroValue21
  t46 := Tryz.underlying171
  a46 := Tryz.isAgg171
  z46 := Tryz.sizeOf171
  v46 := Tryz.zeroValue171 }
end Go.Proofs

