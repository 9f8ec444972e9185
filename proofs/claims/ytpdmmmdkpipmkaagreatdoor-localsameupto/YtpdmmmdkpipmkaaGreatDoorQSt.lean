/-
  Where this program bears the library's functions of which contracts are known: the numbers, and that the bodies are those.
-/
import Derived.Shelf.Strconv.AtoiAll
import Derived.Shelf.Strconv.Itoa3
import Derived.Shelf.Strconv.AppendIntPublic10
import Derived.KernelRfl
import Derived.RegionTactic
import Derived.Lib.AppendStr
import Derived.Lib.LaidTab
import Derived.Deep.RegionHeld3
import Derived.Test.YtpdmmmdkpipmkaaGreatDoorRows
import Derived.Test.YtpdmmmdkpipmkaaGreatDoorQTk4
import Derived.Test.YtpdmmmdkpipmkaaGreatDoorQLb
import Derived.Test.YtpdmmmdkpipmkaaGreatDoorQNj
set_option maxRecDepth 100000
set_option maxHeartbeats 2000000
namespace Go.Proofs
open Go.Shelf
def Tryz.atoiLays_ren: Go.Shelf.Ren:= ⟨fun | 172 => 154 | 244 => 199 | 245 => 200 | 247 => 234 | 279 => 235 | 280 => 236 | 281 => 237 | 282 => 238 | 287 => 251 | 316 => 252 | 171 => 78 | 205 => 253 | 321 => 266 | 322 => 267 | 243 => 131 | 246 => 172 | 283 => 207 | 284 => 208 | 285 => 209 | 286 => 210 | 129 => 185 | 317 => 240 | 318 => 241 | 319 => 242 | 320 => 243 | 337 => 254 | 338 => 255 | n => n,fun | 9 => 9 | 3 => 3 | 75 => 205 | 76 => 206 | 4 => 4 | 5 => 5 | 167 => 272 | 37 => 139 | 0 => 0 | 85 => 273 | 2 => 2 | 168 => 275 | 53 => 231 | 175 => 292 | 46 => 190 | 210 => 295 | 127 => 217 | 145 => 305 | 143 => 303 | 21 => 21 | 171 => 249 | 173 => 251 | 212 => 282 | 51 => 229 | 20 => 20 | 213 => 283 | 232 => 306 | 233 => 307 | 80 => 175 | n => n,fun | 15 => 2 | 16 => 3 | 17 => 1 | 18 => 4 | 19 => 5 | n => n⟩
theorem Tryz.atoiLays: Go.Proofs.LaysC.n172 Tryz.prog Tryz.atoiLays_ren:= {
 mixed:= by kernel_rfl
 f129:= Tryz.func185.trans (congrArg some (by kernel_rfl))
 f171:= Tryz.func78.trans (congrArg some (by kernel_rfl))
 f172:= Tryz.func154.trans (congrArg some (by kernel_rfl))
 f205:= Tryz.func253.trans (congrArg some (by kernel_rfl))
 f243:= Tryz.func131.trans (congrArg some (by kernel_rfl))
 f244:= Tryz.func199.trans (congrArg some (by kernel_rfl))
 f245:= Tryz.func200.trans (congrArg some (by kernel_rfl))
 f246:= Tryz.func172.trans (congrArg some (by kernel_rfl))
 f247:= Tryz.func234.trans (congrArg some (by kernel_rfl))
 f279:= Tryz.func235.trans (congrArg some (by kernel_rfl))
 f280:= Tryz.func236.trans (congrArg some (by kernel_rfl))
 f281:= Tryz.func237.trans (congrArg some (by kernel_rfl))
 f282:= Tryz.func238.trans (congrArg some (by kernel_rfl))
 f283:= Tryz.func207.trans (congrArg some (by kernel_rfl))
 f284:= Tryz.func208.trans (congrArg some (by kernel_rfl))
 f285:= Tryz.func209.trans (congrArg some (by kernel_rfl))
 f286:= Tryz.func210.trans (congrArg some (by kernel_rfl))
 f287:= Tryz.func251.trans (congrArg some (by kernel_rfl))
 f316:= Tryz.func252.trans (congrArg some (by kernel_rfl))
 f317:= Tryz.func240.trans (congrArg some (by kernel_rfl))
 f318:= Tryz.func241.trans (congrArg some (by kernel_rfl))
 f319:= Tryz.func242.trans (congrArg some (by kernel_rfl))
 f320:= Tryz.func243.trans (congrArg some (by kernel_rfl))
 f321:= Tryz.func266.trans (congrArg some (by kernel_rfl))
 f322:= Tryz.func267.trans (congrArg some (by kernel_rfl))
 f337:= Tryz.func254.trans (congrArg some (by kernel_rfl))
 f338:= Tryz.func255.trans (congrArg some (by kernel_rfl))
 t0:= Tryz.underlying0
 a0:= Tryz.isAgg0
 z0:= Tryz.sizeOf0
 v0:= Tryz.zeroValue0
 t2:= Tryz.underlying2
 a2:= Tryz.isAgg2
 z2:= Tryz.sizeOf2
 v2:= Tryz.zeroValue2
 t3:= Tryz.underlying3
 a3:= Tryz.isAgg3
 z3:= Tryz.sizeOf3
 v3:= Tryz.zeroValue3
 t4:= Tryz.underlying4
 a4:= Tryz.isAgg4
 z4:= Tryz.sizeOf4
 v4:= Tryz.zeroValue4
 t5:= Tryz.underlying5
 a5:= Tryz.isAgg5
 z5:= Tryz.sizeOf5
 v5:= Tryz.zeroValue5
 t9:= Tryz.underlying9
 a9:= Tryz.isAgg9
 z9:= Tryz.sizeOf9
 v9:= Tryz.zeroValue9
 t20:= Tryz.underlying20
 a20:= Tryz.isAgg20
 z20:= Tryz.sizeOf20
 v20:= Tryz.zeroValue20
 t21:= Tryz.underlying21
 a21:= Tryz.isAgg21
 z21:= Tryz.sizeOf21
 v21:= Tryz.zeroValue21
 t37:= Tryz.underlying139
 a37:= Tryz.isAgg139
 z37:= Tryz.sizeOf139
 v37:= Tryz.zeroValue139
 t46:= Tryz.underlying190
 a46:= Tryz.isAgg190
 z46:= Tryz.sizeOf190
 v46:= Tryz.zeroValue190
 t51:= Tryz.underlying229
 a51:= Tryz.isAgg229
 z51:= Tryz.sizeOf229
 v51:= Tryz.zeroValue229
 t53:= Tryz.underlying231
 a53:= Tryz.isAgg231
 z53:= Tryz.sizeOf231
 v53:= Tryz.zeroValue231
 t75:= Tryz.underlying205
 a75:= Tryz.isAgg205
 z75:= Tryz.sizeOf205
 v75:= Tryz.zeroValue205
 t76:= Tryz.underlying206
 a76:= Tryz.isAgg206
 z76:= Tryz.sizeOf206
 v76:= Tryz.zeroValue206
 t85:= Tryz.underlying273
 a85:= Tryz.isAgg273
 z85:= Tryz.sizeOf273
 v85:= Tryz.zeroValue273
 t127:= Tryz.underlying217
 a127:= Tryz.isAgg217
 z127:= Tryz.sizeOf217
 v127:= Tryz.zeroValue217
 t143:= Tryz.underlying303
 a143:= Tryz.isAgg303
 z143:= Tryz.sizeOf303
 v143:= Tryz.zeroValue303
 t145:= Tryz.underlying305
 a145:= Tryz.isAgg305
 z145:= Tryz.sizeOf305
 v145:= Tryz.zeroValue305
 t167:= Tryz.underlying272
 a167:= Tryz.isAgg272
 z167:= Tryz.sizeOf272
 v167:= Tryz.zeroValue272
 t168:= Tryz.underlying275
 a168:= Tryz.isAgg275
 z168:= Tryz.sizeOf275
 v168:= Tryz.zeroValue275
 t171:= Tryz.underlying249
 a171:= Tryz.isAgg249
 z171:= Tryz.sizeOf249
 v171:= Tryz.zeroValue249
 t173:= Tryz.underlying251
 a173:= Tryz.isAgg251
 z173:= Tryz.sizeOf251
 v173:= Tryz.zeroValue251
 t175:= Tryz.underlying292
 a175:= Tryz.isAgg292
 z175:= Tryz.sizeOf292
 v175:= Tryz.zeroValue292
 t210:= Tryz.underlying295
 a210:= Tryz.isAgg295
 z210:= Tryz.sizeOf295
 v210:= Tryz.zeroValue295
 t212:= Tryz.underlying282
 a212:= Tryz.isAgg282
 z212:= Tryz.sizeOf282
 v212:= Tryz.zeroValue282
 t213:= Tryz.underlying283
 a213:= Tryz.isAgg283
 z213:= Tryz.sizeOf283
 t232:= Tryz.underlying306
 a232:= Tryz.isAgg306
 z232:= Tryz.sizeOf306
 v232:= Tryz.zeroValue306
 t233:= Tryz.underlying307
 a233:= Tryz.isAgg307
 z233:= Tryz.sizeOf307
 v233:= Tryz.zeroValue307
 g15:= by kernel_rfl
 g16:= by kernel_rfl
 g17:= by kernel_rfl
 g18:= by kernel_rfl
 g19:= by kernel_rfl
 t80:= Tryz.underlying175
 a80:= Tryz.isAgg175
 z80:= Tryz.sizeOf175
 v80:= Tryz.zeroValue175
 i0:= by kernel_rfl
 i2:= by kernel_rfl
 i3:= by kernel_rfl
 i4:= by kernel_rfl
 i5:= by kernel_rfl
 i9:= by kernel_rfl
 i20:= by kernel_rfl
 i21:= by kernel_rfl
 i37:= by kernel_rfl
 i46:= by kernel_rfl
 i51:= by kernel_rfl
 i53:= by kernel_rfl
 i75:= by kernel_rfl
 i76:= by kernel_rfl
 i80:= by kernel_rfl
 i85:= by kernel_rfl
 i127:= by kernel_rfl
 i143:= by kernel_rfl
 i145:= by kernel_rfl
 i167:= by kernel_rfl
 i168:= by kernel_rfl
 i171:= by kernel_rfl
 i173:= by kernel_rfl
 i175:= by kernel_rfl
 i210:= by kernel_rfl
 i212:= by kernel_rfl
 i232:= by kernel_rfl
 i233:= by kernel_rfl
 m15:= by kernel_rfl
 m16:= by kernel_rfl
 m17:= by kernel_rfl
 m18:= by kernel_rfl
 m19:= by kernel_rfl
 c0:= by kernel_rfl
 c2:= by kernel_rfl
 c3:= by kernel_rfl
 c4:= by kernel_rfl
 c5:= by kernel_rfl
 c9:= by kernel_rfl
 c20:= by kernel_rfl
 c21:= by kernel_rfl
 c37:= by kernel_rfl
 c46:= by kernel_rfl
 c51:= by kernel_rfl
 c53:= by kernel_rfl
 c75:= by kernel_rfl
 c76:= by kernel_rfl
 c80:= by kernel_rfl
 c85:= by kernel_rfl
 c127:= by kernel_rfl
 c143:= by kernel_rfl
 c145:= by kernel_rfl
 c167:= by kernel_rfl
 c168:= by kernel_rfl
 c171:= by kernel_rfl
 c173:= by kernel_rfl
 c175:= by kernel_rfl
 c210:= by kernel_rfl
 c212:= by kernel_rfl
 c213:= by kernel_rfl
 c232:= by kernel_rfl
 c233:= by kernel_rfl }
def Tryz.itoaLays_ren: Go.Shelf.Ren:= ⟨fun | 171 => 78 | 243 => 131 | 246 => 172 | 283 => 207 | 284 => 208 | 285 => 209 | 286 => 210 | 129 => 185 | 317 => 240 | 318 => 241 | 319 => 242 | 320 => 243 | 337 => 254 | 338 => 255 | n => n,fun | 3 => 3 | 9 => 9 | 2 => 2 | 4 => 4 | 171 => 249 | 0 => 0 | 53 => 231 | 37 => 139 | 5 => 5 | 173 => 251 | 212 => 282 | 51 => 229 | 20 => 20 | 213 => 283 | 46 => 190 | 232 => 306 | 233 => 307 | n => n,fun | 17 => 1 | 18 => 4 | 19 => 5 | n => n⟩
theorem Tryz.itoaLays: Go.Proofs.LaysM.n171 Tryz.prog Tryz.itoaLays_ren:= {
 mixed:= by kernel_rfl
 f129:= Tryz.func185.trans (congrArg some (by kernel_rfl))
 f171:= Tryz.func78.trans (congrArg some (by kernel_rfl))
 f243:= Tryz.func131.trans (congrArg some (by kernel_rfl))
 f246:= Tryz.func172.trans (congrArg some (by kernel_rfl))
 f283:= Tryz.func207.trans (congrArg some (by kernel_rfl))
 f284:= Tryz.func208.trans (congrArg some (by kernel_rfl))
 f285:= Tryz.func209.trans (congrArg some (by kernel_rfl))
 f286:= Tryz.func210.trans (congrArg some (by kernel_rfl))
 f317:= Tryz.func240.trans (congrArg some (by kernel_rfl))
 f318:= Tryz.func241.trans (congrArg some (by kernel_rfl))
 f319:= Tryz.func242.trans (congrArg some (by kernel_rfl))
 f320:= Tryz.func243.trans (congrArg some (by kernel_rfl))
 f337:= Tryz.func254.trans (congrArg some (by kernel_rfl))
 f338:= Tryz.func255.trans (congrArg some (by kernel_rfl))
 t0:= Tryz.underlying0
 a0:= Tryz.isAgg0
 z0:= Tryz.sizeOf0
 v0:= Tryz.zeroValue0
 t2:= Tryz.underlying2
 a2:= Tryz.isAgg2
 z2:= Tryz.sizeOf2
 v2:= Tryz.zeroValue2
 t3:= Tryz.underlying3
 a3:= Tryz.isAgg3
 z3:= Tryz.sizeOf3
 v3:= Tryz.zeroValue3
 t4:= Tryz.underlying4
 a4:= Tryz.isAgg4
 z4:= Tryz.sizeOf4
 v4:= Tryz.zeroValue4
 t5:= Tryz.underlying5
 a5:= Tryz.isAgg5
 z5:= Tryz.sizeOf5
 v5:= Tryz.zeroValue5
 t9:= Tryz.underlying9
 a9:= Tryz.isAgg9
 z9:= Tryz.sizeOf9
 v9:= Tryz.zeroValue9
 t20:= Tryz.underlying20
 a20:= Tryz.isAgg20
 z20:= Tryz.sizeOf20
 v20:= Tryz.zeroValue20
 t37:= Tryz.underlying139
 a37:= Tryz.isAgg139
 z37:= Tryz.sizeOf139
 v37:= Tryz.zeroValue139
 t46:= Tryz.underlying190
 a46:= Tryz.isAgg190
 z46:= Tryz.sizeOf190
 v46:= Tryz.zeroValue190
 t51:= Tryz.underlying229
 a51:= Tryz.isAgg229
 z51:= Tryz.sizeOf229
 v51:= Tryz.zeroValue229
 t53:= Tryz.underlying231
 a53:= Tryz.isAgg231
 z53:= Tryz.sizeOf231
 v53:= Tryz.zeroValue231
 t171:= Tryz.underlying249
 a171:= Tryz.isAgg249
 z171:= Tryz.sizeOf249
 v171:= Tryz.zeroValue249
 t173:= Tryz.underlying251
 a173:= Tryz.isAgg251
 z173:= Tryz.sizeOf251
 v173:= Tryz.zeroValue251
 t212:= Tryz.underlying282
 a212:= Tryz.isAgg282
 z212:= Tryz.sizeOf282
 v212:= Tryz.zeroValue282
 t213:= Tryz.underlying283
 a213:= Tryz.isAgg283
 z213:= Tryz.sizeOf283
 t232:= Tryz.underlying306
 a232:= Tryz.isAgg306
 z232:= Tryz.sizeOf306
 v232:= Tryz.zeroValue306
 t233:= Tryz.underlying307
 a233:= Tryz.isAgg307
 z233:= Tryz.sizeOf307
 v233:= Tryz.zeroValue307
 g17:= by kernel_rfl
 g18:= by kernel_rfl
 g19:= by kernel_rfl
 i0:= by kernel_rfl
 i2:= by kernel_rfl
 i3:= by kernel_rfl
 i4:= by kernel_rfl
 i5:= by kernel_rfl
 i9:= by kernel_rfl
 i20:= by kernel_rfl
 i37:= by kernel_rfl
 i46:= by kernel_rfl
 i51:= by kernel_rfl
 i53:= by kernel_rfl
 i171:= by kernel_rfl
 i173:= by kernel_rfl
 i212:= by kernel_rfl
 i232:= by kernel_rfl
 i233:= by kernel_rfl
 m17:= by kernel_rfl
 m18:= by kernel_rfl
 m19:= by kernel_rfl }
def Tryz.appIntLays_ren: Go.Shelf.Ren:= ⟨fun | 176 => 249 | 249 => 264 | 288 => 271 | 283 => 207 | 284 => 208 | 285 => 209 | 286 => 210 | 129 => 185 | 317 => 240 | 318 => 241 | 319 => 242 | 320 => 243 | 337 => 254 | 338 => 255 | n => n,fun | 37 => 139 | 2 => 2 | 3 => 3 | 53 => 231 | 4 => 4 | 9 => 9 | 171 => 249 | 0 => 0 | 173 => 251 | 212 => 282 | 51 => 229 | 5 => 5 | 20 => 20 | 213 => 283 | 46 => 190 | 232 => 306 | 233 => 307 | n => n,fun | 17 => 1 | 18 => 4 | 19 => 5 | n => n⟩
theorem Tryz.appIntLays: Go.Proofs.LaysM.n176 Tryz.prog Tryz.appIntLays_ren:= {
 mixed:= by kernel_rfl
 f129:= Tryz.func185.trans (congrArg some (by kernel_rfl))
 f176:= Tryz.func249.trans (congrArg some (by kernel_rfl))
 f249:= Tryz.func264.trans (congrArg some (by kernel_rfl))
 f283:= Tryz.func207.trans (congrArg some (by kernel_rfl))
 f284:= Tryz.func208.trans (congrArg some (by kernel_rfl))
 f285:= Tryz.func209.trans (congrArg some (by kernel_rfl))
 f286:= Tryz.func210.trans (congrArg some (by kernel_rfl))
 f288:= Tryz.func271.trans (congrArg some (by kernel_rfl))
 f317:= Tryz.func240.trans (congrArg some (by kernel_rfl))
 f318:= Tryz.func241.trans (congrArg some (by kernel_rfl))
 f319:= Tryz.func242.trans (congrArg some (by kernel_rfl))
 f320:= Tryz.func243.trans (congrArg some (by kernel_rfl))
 f337:= Tryz.func254.trans (congrArg some (by kernel_rfl))
 f338:= Tryz.func255.trans (congrArg some (by kernel_rfl))
 t0:= Tryz.underlying0
 a0:= Tryz.isAgg0
 z0:= Tryz.sizeOf0
 v0:= Tryz.zeroValue0
 t2:= Tryz.underlying2
 a2:= Tryz.isAgg2
 z2:= Tryz.sizeOf2
 v2:= Tryz.zeroValue2
 t3:= Tryz.underlying3
 a3:= Tryz.isAgg3
 z3:= Tryz.sizeOf3
 v3:= Tryz.zeroValue3
 t4:= Tryz.underlying4
 a4:= Tryz.isAgg4
 z4:= Tryz.sizeOf4
 v4:= Tryz.zeroValue4
 t5:= Tryz.underlying5
 a5:= Tryz.isAgg5
 z5:= Tryz.sizeOf5
 v5:= Tryz.zeroValue5
 t9:= Tryz.underlying9
 a9:= Tryz.isAgg9
 z9:= Tryz.sizeOf9
 v9:= Tryz.zeroValue9
 t20:= Tryz.underlying20
 a20:= Tryz.isAgg20
 z20:= Tryz.sizeOf20
 v20:= Tryz.zeroValue20
 t37:= Tryz.underlying139
 a37:= Tryz.isAgg139
 z37:= Tryz.sizeOf139
 v37:= Tryz.zeroValue139
 t46:= Tryz.underlying190
 a46:= Tryz.isAgg190
 z46:= Tryz.sizeOf190
 v46:= Tryz.zeroValue190
 t51:= Tryz.underlying229
 a51:= Tryz.isAgg229
 z51:= Tryz.sizeOf229
 v51:= Tryz.zeroValue229
 t53:= Tryz.underlying231
 a53:= Tryz.isAgg231
 z53:= Tryz.sizeOf231
 v53:= Tryz.zeroValue231
 t171:= Tryz.underlying249
 a171:= Tryz.isAgg249
 z171:= Tryz.sizeOf249
 v171:= Tryz.zeroValue249
 t173:= Tryz.underlying251
 a173:= Tryz.isAgg251
 z173:= Tryz.sizeOf251
 v173:= Tryz.zeroValue251
 t212:= Tryz.underlying282
 a212:= Tryz.isAgg282
 z212:= Tryz.sizeOf282
 v212:= Tryz.zeroValue282
 t213:= Tryz.underlying283
 a213:= Tryz.isAgg283
 z213:= Tryz.sizeOf283
 t232:= Tryz.underlying306
 a232:= Tryz.isAgg306
 z232:= Tryz.sizeOf306
 v232:= Tryz.zeroValue306
 t233:= Tryz.underlying307
 a233:= Tryz.isAgg307
 z233:= Tryz.sizeOf307
 v233:= Tryz.zeroValue307
 g17:= by kernel_rfl
 g18:= by kernel_rfl
 g19:= by kernel_rfl
 i0:= by kernel_rfl
 i2:= by kernel_rfl
 i3:= by kernel_rfl
 i4:= by kernel_rfl
 i5:= by kernel_rfl
 i9:= by kernel_rfl
 i20:= by kernel_rfl
 i37:= by kernel_rfl
 i46:= by kernel_rfl
 i51:= by kernel_rfl
 i53:= by kernel_rfl
 i171:= by kernel_rfl
 i173:= by kernel_rfl
 i212:= by kernel_rfl
 i232:= by kernel_rfl
 i233:= by kernel_rfl
 m17:= by kernel_rfl
 m18:= by kernel_rfl
 m19:= by kernel_rfl }
end Go.Proofs
namespace Go.Proofs.YtpdmmmdkpipmkaaGreatDoor
namespace Ml
open Mt (Tx Env uni lit)
theorem Chs.append {home: Tm} {fs la: Tx → Nat} {e0: Env} {m: List F}: ∀ {ls ls': List Lt} {nss nss': List (List Nat)} {k: Nat},Chs home fs la e0 m k ls nss → Chs home fs la e0 m (k + ls.length) ls' nss' → Chs home fs la e0 m k (ls ++ ls') (nss ++ nss')
 | [],ls',nss,nss',k,h,h' => by
  have: nss = []:= h
  subst this
  exact h'
 | l:: ls,ls',[],nss',k,h,h' => by cases h
 | l:: ls,ls',ns:: nss,nss',k,h,h' => by
  obtain ⟨h1,h2⟩:= h
  refine ⟨h1,Chs.append (ls:= ls) h2 ?_⟩
  rw [List.length_cons] at h'
  rw [show k + 1 + ls.length = k + (ls.length + 1) by omega];exact h'
theorem Chs.ranges {home: Tm} {fs la: Tx → Nat} {e0: Env} {m: List F}: ∀ (ls: List Lt) (k: Nat),Chs home fs la e0 m k ls (ls.map fun _ => List.range m.length)
 | [],_ => rfl
 | _:: ls,k => ⟨Ch.range,Chs.ranges ls (k + 1)⟩
theorem Chs.len {home: Tm} {fs la: Tx → Nat} {e0: Env} {m: List F}: ∀ {ls: List Lt} {nss: List (List Nat)} {k: Nat},Chs home fs la e0 m k ls nss → nss.length = ls.length
 | [],nss,_,h => by
  have: nss = []:= h
  subst this;rfl
 | _:: _,[],_,h => by cases h
 | _:: ls,_:: nss,k,h => by rw [List.length_cons,List.length_cons,Chs.len (ls:= ls) (k:= k + 1) h.2]
theorem Chs.none {r: Ru} {fs la: Tx → Nat} {e0: Env} {m: List F} {l: Lt} {ls ls': List Lt} {nss: List (List Nat)} {c: K} (hs: Spn r fs la) (hu: uni r.home c [] = some e0) (hb: r.body = ls ++ l:: ls') (h: Chs r.home fs la e0 m 0 ls nss) (hn: Ch r.home fs la e0 m ls.length l []): envs r.home m r.body e0 = []:= by
 have hc: Chs r.home fs la e0 m 0 r.body (nss ++ []:: ls'.map fun _ => List.range m.length):= by
  rw [hb]
  exact h.append (by rw [Nat.zero_add];exact ⟨hn,Chs.ranges _ _⟩)
 have hy:= Yw_none (home:= r.home) (la:= la) (m:= m) r.body _ 0 e0 (Nat.le_of_eq hc.len) (List.mem_append_right _ (List.mem_cons_self ..))
 cases he: envs r.home m r.body e0 with
 | nil => rfl
 | cons e es =>
  obtain ⟨p,hp,_⟩:= Yw_complete hs (E0.of hu) r.body _ 0 e0 e0 (Nat.zero_le _) (by simp) hc (Pk.start hs (E0.of hu)) (Sim.refl _ _ _) e (by rw [he];exact List.mem_cons_self ..)
  rw [hy] at hp;cases hp
end Ml
open Go.RowKit Go.Sort Go.Lib Go.Shelf
structure Nv where
 a: Option Addr
 cap: Nat
 ns: List Nat
def nK: Kd Nv:= ⟨fun x => [.slice x.a x.ns.length x.cap],1,fun _ => rfl,fun _ => rfl,by decide⟩
theorem Tryz.iNs: (Tryz.prog.info? 239).map (fun i => (i.zero,i.size,i.bytes)) = some (some (.slice none 0 0),nK.k,24):= by kernel_rfl
structure NumsAt (w: World) (a: Option Addr) (c: Nat) (nvs: List Nv): Prop where
 row: RowT nK 239 w a c nvs
 each: ∀ x ∈ nvs,RowT iK 3 w x.a x.cap x.ns
theorem NumsAt.safe {w w': World} {a: Option Addr} {c: Nat} {nvs: List Nv} (h: NumsAt w a c nvs) (s1: Safe 239 w w') (s2: Safe 3 w w'): NumsAt w' a c nvs:= ⟨h.row.safe s1,fun x hx => (h.each x hx).safe s2⟩
theorem litE_vars {home: Tm} {l: Lt} {f: F} {e0: List Bd} {N: Nat} (h0: ∀ b ∈ e0,b.1.length ≤ N) (hh: home.v.length ≤ N) (hl: ∀ v ∈ Ml.lvars l,v.length ≤ N) (hn: (e0.map (·.1)).Nodup): ∀ b ∈ litE home l f e0,b.1.length ≤ N:= fun b hb => by
 cases h: Mt.lit home l f e0 with
 | none => rw [(lit_of_none h).1] at hb;cases hb
 | some e1 =>
  rw [(lit_of_some h).1] at hb
  rcases (Ml.lit_nodup hn h).2 b.1 (List.mem_map_of_mem hb) with h1 | h1 | h1
  ·obtain ⟨b',hb',e⟩:= List.mem_map.1 h1
   rw [← e];exact h0 b' hb'
  ·rw [h1];exact hh
  ·exact hl _ h1
theorem choices_at (x: Rv) (a: Option Addr) (c: Nat) (e0: List Bd) (hc: K) (ma: Option Addr) (mc: Nat) (zs: List Fv) (bm n: Nat) (w: World) (hr: Rv.Aw w x) (hs: SmR x) (he: Row bK w a c e0) (hz: Fts w ma mc zs) (S: SpansAt w bm (Ml.spans x.r) n) (hu: Mt.uni x.home hc [] = some e0) (hm: zs.length ≤ 1000000):
 Calls Tryz.prog 147 #[rval x,.slice a e0.length c,.slice ma zs.length mc,.map (some bm)] w fun e w' =>
  ((∃ a' c' nvs,e = .returned (.tuple #[.slice a' nvs.length c',.bool true]) ∧ NumsAt w' a' c' nvs ∧ From w.heap.size a' ∧ (∀ y ∈ nvs,From w.heap.size y.a) ∧ Ml.Chs x.home (Ml.fsOf (Ml.spans x.r)) (Ml.laOf (Ml.spans x.r)) e0 (zs.map Fv.f) 0 x.r.body (nvs.map Nv.ns)) ∨
   (e = .returned (.tuple #[.slice none 0 0,.bool false]) ∧ Ml.envs x.home (zs.map Fv.f) x.r.body e0 = [])) ∧ Below w.heap.size w w':= by
 have TL:= Tryz.underlying52
 have TT:= Tryz.underlying44
 obtain ⟨h0,h1,A0⟩:= boxes2 w (.cells #[str x.home.v,.bool x.home.k.num,.int .i64 x.home.k.n,str x.home.k.s,str x.pred,.slice x.a x.args.length x.cap,str x.to_.v,.bool x.to_.k.num,.int .i64 x.to_.k.n,str x.to_.k.s,.slice x.ba x.body.length x.bcap] 48) (.cells #[.map (some bm)] 193)
 have few:= hr.body.few
 have hb300:= hs.body
 have E0:= Ml.E0.of (r:= x.r) hu
 have el0: e0.length ≤ 1:= by
  have:= Mt.uni_len hu
  simpa using this
 have hh: x.home.v.length ≤ maxLen:= hs.head _ (List.mem_cons_self ..)
 have hev: ∀ b ∈ e0,b.1.length ≤ maxLen:= fun b hb => by rw [E0.home b.1 (List.mem_map_of_mem hb)];exact hh
 have SPN:= hideP (Ml.spans_spn x.r)
 have HU:= hideP hu
 have END:= hideP E0.nodup
 have HEV:= hideP hev
 clear hu E0 hev
 have KE:= hideP (fun y (hy: y ∈ x.body) => hs.lits y hy)
 have KA:= hideP (fun y (hy: y ∈ x.body) => hs.each y hy)
 have RE:= hideP hr.each
 have RB:= hr.body
 have HH:= hideP hh
 clear hr hs hh
 go_enter Tryz.func147,Tryz.ntmps147
 have c10:= heap_cell h0 10
 simp at c10
 go_wp2_with fail
 generalize hW: (w.alloc (.cells #[str x.home.v,.bool x.home.k.num,.int .i64 x.home.k.n,str x.home.k.s,str x.pred,.slice x.a x.args.length x.cap,str x.to_.v,.bool x.to_.k.num,.int .i64 x.to_.k.n,str x.to_.k.s,.slice x.ba x.body.length x.bcap] 48)).alloc (.cells #[.map (some bm)] 193) = W at *
 have H0': W.heap[w.heap.size]? = some (.cells (rv x).toArray 48):= h0
 clear hW h0 c10
 generalize hba: x.ba = ba at *
 have Hba:= hideP hba
 clear hba
 go_loopw [10,11,12,13,14,18] (fun v10 _ _ _ _ v18 wr => ∃ (j: Nat) (nvs: List Nv),v18 = .int .i64 (j: Int) ∧ j ≤ x.body.length ∧ nvs.length = j ∧ Hid (Ml.Chs x.home (Ml.fsOf (Ml.spans x.r)) (Ml.laOf (Ml.spans x.r)) e0 (zs.map Fv.f) 0 ((x.body.take j).map Lv.l) (nvs.map Nv.ns)) ∧ wr.ownsRow w.heap.size 239 nK.k v10 nvs.length (nvs.flatMap nK.enc) ∧ (∀ y ∈ nvs,RowT iK 3 wr y.a y.cap y.ns ∧ From w.heap.size y.a) ∧ Below w.heap.size w wr ∧
  wr.heap[w.heap.size]? = some (.cells (rv x).toArray 48) ∧ wr.heap[w.heap.size + 1]? = some (.cells #[.map (some bm)] 193)) (fun _ _ _ _ _ v18 _ => x.body.length - (RowKit.intOf v18).toNat)
 case atStart => exact ⟨0,[],rfl,by omega,rfl,rfl,World.ownsRow_nil _ _ _ _,(by simp),A0,H0',h1⟩
 case round =>
  obtain ⟨j,nvs,rfl,hj,hnl,hch,hown,hrows,B,H0,H1⟩:= hrel
  by_cases hlt: j < x.body.length
  ·have q0: (j: Int) < (x.body.length: Int):= by omega
   have Rb:= RB.below B (Nat.le_refl _)
   obtain ⟨b,o,rfl⟩:= Rb.addr (by omega)
   have rg: wr.rangeAt b (o + j * 10) (lv (x.body[j]'hlt)):= Rb.range j hlt
   have yAt:= (RE.out _ (List.getElem_mem hlt)).below B (Nat.le_refl _)
   have ylv:= KE.out _ (List.getElem_mem hlt)
   have yar:= KA.out _ (List.getElem_mem hlt)
   have hsp: Hid (x.r.body = (x.body.take j).map Lv.l ++ (x.body[j]'hlt).l:: (x.body.drop (j + 1)).map Lv.l):= by
    show x.body.map Lv.l = _
    rw [← List.map_cons,← List.map_append]
    congr 1
    rw [← List.drop_eq_getElem_cons hlt,List.take_append_drop]
   have htk: Hid ((x.body.take (j + 1)).map Lv.l = (x.body.take j).map Lv.l ++ [(x.body[j]'hlt).l]):= by
    show _ = _
    rw [List.take_succ_eq_append_getElem hlt,List.map_append];rfl
   generalize (x.body[j]'hlt) = y at *
   have N1:= boxes2 wr (.cells #[.int .i64 0] 3) (.cells #[.string { data:= #[] },.bool false,.int .i64 0,.string { data:= #[] },.string { data:= #[] },.slice none 0 0,.string { data:= #[] },.bool false,.int .i64 0,.string { data:= #[] }] 52)
   have r0: ∀ W: World,W.heap[w.heap.size]? = some (.cells (rv x).toArray 48) → W.rangeAt w.heap.size 0 (tv x.home):= fun W h => World.rangeAt_of_block h 0 4
   obtain ⟨N11,N12,N13⟩:= N1
   go_wp2_with (first
    | (refine wpList_load_mid rfl 52 _ rfl b (o + j * 10) rfl (lv y) _ rg TL rfl iL10 ?_)
    | (refine wpList_store_cel rfl 3 _ _ rfl wr.heap.size 0 1 3 (.int .i64 (j: Int)) #[.int .i64 (j: Int)] rfl rfl N11 rfl (by decide) (by kernel_rfl) rfl rfl ?_;intro w2 M2 b2;have L2:= b2.heap (by omega) N12;have B2: Below wr.heap.size wr w2:= N13.trans (b2.lower (Nat.le_refl _) N13.size))
    | (refine wpList_store_all rfl 52 _ _ rfl (wr.heap.size + 1) 10 _ 52 (lv y) rfl rfl L2 rfl rfl iL10 rfl ?_;intro w3 L3 b3;have M3:= b3.heap (by omega) M2;have B3: Below wr.heap.size wr w3:= B2.trans (b3.lower (by omega) B2.size);have G0:= below_heap B3 H0;have G1:= below_heap B3 H1;have r3:= r0 w3 G0)
    | (refine wpList_load_mid rfl 44 _ rfl w.heap.size 0 rfl (tv x.home) _ r3 TT rfl iT4 ?_)
    | (refine wpList_load_all rfl 52 _ rfl (wr.heap.size + 1) 10 52 (lv y) _ rfl (by with_reducible exact L3) rfl TL rfl iL10 ?_))
   have BB:= Below.then B B3
   have FN:= own_fn (w.heap.size + 1) wr.heap.size bm j n (Ml.spans x.r) w3 G1 M3 (S.next BB)
   refine (choice_at x.home y a c e0 ma mc zs (Ml.fsOf (Ml.spans x.r)) (Ml.laOf (Ml.spans x.r)) j w3 (he.below BB (Nat.le_refl _)) (yAt.below B3 (Nat.le_refl _)) (hz.below BB) FN (fun z _ => litE_vars HEV.out HH.out ylv END.out) (by omega) hm).mono ?_
   rintro e w4 ⟨⟨a4,c4,ns,rfl,R4,F4,C4⟩,b4⟩
   have HC4:= hideP C4
   clear C4 FN r3 r0
   have B4:= Below.then B3 b4
   have WB:= Below.then B B4
   have K0:= below_heap B4 H0
   have K1:= below_heap B4 H1
   have few4:= R4.row.few
   by_cases h4: ns = []
   ·have FIN: Hid (Ml.envs x.home (zs.map Fv.f) x.r.body e0 = []):= by
     refine Ml.Chs.none (r:= x.r) SPN.out HU.out hsp.out hch.out ?_
     have hl: ((x.body.take j).map Lv.l).length = j:= by rw [List.length_map,List.length_take];omega
     rw [hl,← h4];exact HC4.out
    subst h4
    clear hch hsp htk HC4
    go_wp2_with fail
    go_ret2
    exact ⟨.inr ⟨rfl,FIN.out⟩,WB⟩
   ·have q4: ((ns.length: Int) == 0) = false:= by
     rw [beq_eq_false_iff_ne]
     intro h
     exact h4 (List.eq_nil_of_length_eq_zero (by omega))
    obtain ⟨nv,hnv⟩: ∃ nv: Nv,nv = ⟨a4,c4,ns⟩:= ⟨_,rfl⟩
    have CH2: Hid (Ml.Chs x.home (Ml.fsOf (Ml.spans x.r)) (Ml.laOf (Ml.spans x.r)) e0 (zs.map Fv.f) 0 ((x.body.take (j + 1)).map Lv.l) ((nvs ++ [nv]).map Nv.ns)):= by
     show Ml.Chs ..
     rw [htk.out,List.map_append]
     refine hch.out.append ?_
     have hl: ((x.body.take j).map Lv.l).length = j:= by rw [List.length_map,List.length_take];omega
     rw [hl,Nat.zero_add,hnv]
     exact ⟨HC4.out,rfl⟩
    have XR: RowT iK 3 w4 nv.a nv.cap nv.ns ∧ From w.heap.size nv.a:= by rw [hnv];exact ⟨R4,From.mono F4 BB.size⟩
    have A5:= below_alloc w4 (.cells #[.slice a4 ns.length c4] 239)
    have O5:= ownsRow_keep hown (Safe.below (Below.then B4 A5))
    have R5: Row nK (w4.alloc (.cells #[.slice a4 ns.length c4] 239)) (some ⟨w4.heap.size,0,none⟩) 1 [nv]:= row_new nK w4 _ _ nv (by rw [hnv];rfl)
    have hs5:= (Below.then WB A5).size
    clear hch hsp htk HC4 hnv h4
    go_wp2_with (at_builtin;refine wpList_append_rec nK _ rfl _ _ 195 239 rfl _ 24 Tryz.underlying195 Tryz.iNs rfl (by decide) w.heap.size _ nvs [nv] (some ⟨w4.heap.size,0,none⟩) 1 1 rfl O5 rfl rfl R5 (by omega) (by simp only [List.length_cons,List.length_nil];omega) ?_;intro v6 w6 o6 g6)
    have B6: Below w.heap.size w w6:= (Below.then WB A5).trans (own_below O5 g6 hs5)
    have SF:= fun (ty: TypeId) (hn: ty ≠ 239) => (Safe.below (ty:= ty) A5).trans (Safe.grown O5 g6 hn)
    have F0:= SF _ (by decide) _ _ K0
    have F1:= SF _ (by decide) _ _ K1
    have RX: ∀ x' ∈ nvs ++ [nv],RowT iK 3 w6 x'.a x'.cap x'.ns ∧ From w.heap.size x'.a:= fun x' hx' => by
     rcases List.mem_append.1 hx' with h | h
     ·exact ⟨((hrows x' h).1.safe (Safe.below B4)).safe (SF _ (by decide)),(hrows x' h).2⟩
     ·rw [List.mem_singleton] at h;subst h;exact ⟨XR.1.safe (SF _ (by decide)),XR.2⟩
    go_roundw
    case rel => exact ⟨j + 1,nvs ++ [nv],rfl,hlt,by simp only [List.length_append,List.length_cons,List.length_nil];omega,CH2,o6,RX,B6,F0,F1⟩
    case measure => simp [RowKit.intOf];omega
  ·have q0: ¬ (j: Int) < (x.body.length: Int):= by omega
   obtain rfl: j = x.body.length:= by omega
   rw [List.take_length] at hch
   obtain ⟨a7,c7,rfl,R7,F7⟩:= own_row (D:= nK) hown (by omega)
   have HNL:= hideP hnl
   clear hnl
   go_wp2_with fail
   go_ret2
   exact ⟨.inl ⟨a7,c7,nvs,rfl,⟨R7,fun y hy => (hrows y hy).1⟩,F7,fun y hy => (hrows y hy).2,hch.out⟩,B⟩
end Go.Proofs.YtpdmmmdkpipmkaaGreatDoor
namespace Go.Proofs.YtpdmmmdkpipmkaaGreatDoor
open Go.RowKit
theorem grown_refl (w: World) (row: Option Nat): w.grownBy w row:= ⟨rfl,rfl,rfl,Nat.le_refl _,fun _ _ _ => rfl⟩
theorem grown_below {w w': World} {g base: Nat} (hg: w.grownBy w' (some g)) (hb: base ≤ g) (hw: base ≤ w.heap.size): Below base w w':=
 (Below.refl _ _).grown hg hw fun k hk => by cases hk;exact hb
theorem step_append_bytes {w: World} {ops: Array Oper} {o: Oper} {a: Act} {K: Act → World → Prop} {Q: Exit → Act → World → Prop} {E: Prop} (hgw: Region.wanted o (yielded ops a.tmps) = true) (s x: Operand)
 (ho: o.op = .call { callee:= .builtin .append,args:= #[s,x],argTypes:= #[139,139] })
 (base g n cap: Nat) (xs l: List UInt8) (ao: Option Addr) (m c k: Nat) (T: List UInt8) (hs: a.eval s = .slice (some ⟨g,0,none⟩) n cap) (hown: Own w base g n cap xs) (hx: a.eval x = .slice ao m c) (hm: l.length = m) (hl: Holds w ao c l)
 (hk: n + m = k) (hT: xs ++ l = T) (hb: k ≤ 140737488355328)
 (h: ∀ g' cap' w',Own w' base g' k cap' T → w.grownBy w' (some g) → K (a.put o.dst (.slice (some ⟨g',0,none⟩) k cap')) w'):
 if Region.wanted o (yielded ops a.tmps) = true then Oper.wp Tryz.prog o a w K Q else E:= by
 rw [if_pos hgw]
 obtain ⟨i0,hi,hz0,hz1,hz2⟩:= info_parts Tryz.infoU8
 subst hm hk hT
 cases ao with
 | none =>
  obtain ⟨rfl,rfl⟩:= hl.2.1 rfl
  have hrun:= run_append_owned_none (P:= Tryz.prog) (w:= w) base 139 o.type 5 i0 1 Tryz.underlying139 hi _ n (cs xs) hown
  unfold Oper.wp
  simp [execOp,ho,resolve,invoke,builtin,hs,hx,hrun,Result.andThen]
  exact h g cap w (by simpa using hown) (grown_refl _ _)
 | some ad =>
  refine wp_append_own w s x 139 ho base 5 i0 (.int .u8 0) 1 1 Tryz.underlying139 hi hz0 hz1 hz2 rfl (by decide) _ n (cs xs) hs hown ad l.length c (cs l) hx (by rw [cs_length];omega) (hl.2.2 ad rfl) (cs_one l) (by unfold maxLen;omega) (by omega) hown.base_le ?_
  intro v' w' ho' hg' hn'
  rcases ho'.2 with ⟨h0,_⟩ | ⟨g',cap',cur,hv,_⟩
  ·have:= (hn'.1 h0).1;cases this
  ·subst hv
   exact h g' cap' w' (by unfold Own;rw [cs_append];exact ho') hg'
end Go.Proofs.YtpdmmmdkpipmkaaGreatDoor
namespace Go.Proofs.YtpdmmmdkpipmkaaGreatDoor
open Go.RowKit Go.Lib Go.Shelf
def TabB (B: Nat) (w: World): Prop:= Lib.TabBelow Tryz.prog B w "internal/strconv.uint64pow10" .u64 Lib.pow10Tab
theorem TabB.on {B: Nat} {w w': World} (h: TabB B w) (hb: Below B w w'): TabB B w':= Lib.TabBelow.on h hb
theorem own_some {w: World} {base n: Nat} {v: Value} {l: List UInt8} (h: w.ownsRow base 5 1 v n (cs l)) (hn: 0 < n): ∃ g cap,v = .slice (some ⟨g,0,none⟩) n cap:= by
 rcases h.2 with ⟨_,h0⟩ | ⟨g,cap,cur,hv,_⟩
 ·omega
 ·exact ⟨g,cap,hv⟩
def NoU (w w': World): Prop:= ∀ ty: TypeId,ty ≠ 5 → Safe ty w w'
theorem appInt_at (base n: Nat) (v: Value) (l: List UInt8) (i: Int) (w: World) (h0: -9223372036854775808 ≤ i) (h1: i ≤ 9223372036854775807) (ho: w.ownsRow base 5 1 v n (cs l)) (hb: base ≤ w.heap.size) (hl: n + 21 ≤ 140737488355328) (ht: TabB base w):
 Calls Tryz.prog 249 #[v,.int .i64 i,.int .i64 10] w fun e w' => ∃ v',e = .returned v' ∧ w'.ownsRow base 5 1 v' (n + (Lib.itoa i).length) (cs (l ++ Lib.itoa i)) ∧ Below base w w' ∧ NoU w w':= by
 refine (Any.strconv_AppendInt_10 Tryz.appIntLays base n i h0 h1 v (cs l) w ho hb hl ht).mono ?_
 rintro e w' ⟨v',rfl,o,b,k⟩
 exact ⟨v',rfl,by rw [cs_append];exact o,b,fun ty hn k' cur hk => k k' _ hk (by simp) fun c fz e => by cases e;exact hn rfl⟩
theorem appBoolI_at (base g n cap: Nat) (l: List UInt8) (b: Bool) (w: World) (ho: Own w base g n cap l) (hl: n + 21 ≤ 140737488355328):
 Calls Tryz.prog 265 #[.slice (some ⟨g,0,none⟩) n cap,.bool b] w fun e w' => ∃ v',e = .returned v' ∧ w'.ownsRow base 5 1 v' (n + (Ml.bTx b).length) (cs (l ++ Ml.bTx b)) ∧ w.grownBy w' (some g):= by
 obtain ⟨i0,hi,hz0,hz1,hz2⟩:= info_parts Tryz.infoU8
 have hb:= ho.base_le
 cases b with
 | true =>
  go_enter Tryz.func265,Tryz.ntmps265
  go_wp2_with (at_builtin;refine Lib.wpList_append_own_string _ rfl _ _ 139 9 rfl base 5 i0 Tryz.underlying139 Tryz.underlying9 hi hz0 hz1 hz2 _ _ _ rfl ho ⟨#[116,114,117,101]⟩ rfl (show n + 4 ≤ maxLen by unfold maxLen;omega) (show n + 4 ≤ 140737488355328 by omega) hb ?_;intro v' w2 o2 g2 _)
  go_ret
  exact ⟨v',rfl,by rw [cs_append];exact o2,g2⟩
 | false =>
  go_enter Tryz.func265,Tryz.ntmps265
  go_wp2_with (at_builtin;refine Lib.wpList_append_own_string _ rfl _ _ 139 9 rfl base 5 i0 Tryz.underlying139 Tryz.underlying9 hi hz0 hz1 hz2 _ _ _ rfl ho ⟨#[102,97,108,115,101]⟩ rfl (show n + 5 ≤ maxLen by unfold maxLen;omega) (show n + 5 ≤ 140737488355328 by omega) hb ?_;intro v' w2 o2 g2 _)
  go_ret
  exact ⟨v',rfl,by rw [cs_append];exact o2,g2⟩
theorem grown_noU {w w': World} {base g n cap: Nat} {l: List UInt8} (ho: Own w base g n cap l) (hg: w.grownBy w' (some g)): NoU w w':= fun _ hn => Safe.grown (v:= .slice (some ⟨g,0,none⟩) n cap) ho hg hn
theorem appBool_at (base g n cap: Nat) (l: List UInt8) (b: Bool) (w: World) (ho: Own w base g n cap l) (hl: n + 21 ≤ 140737488355328):
 Calls Tryz.prog 250 #[.slice (some ⟨g,0,none⟩) n cap,.bool b] w fun e w' => ∃ v',e = .returned v' ∧ w'.ownsRow base 5 1 v' (n + (Ml.bTx b).length) (cs (l ++ Ml.bTx b)) ∧ Below base w w' ∧ NoU w w':= by
 have T:= hideP (appBoolI_at base g n cap l b w ho hl)
 go_enter Tryz.func250,Tryz.ntmps250
 go_wp2_with fail
 refine T.out.mono ?_
 rintro e w' ⟨v',rfl,o,hg⟩
 go_wp2_with fail
 go_ret
 exact ⟨v',rfl,o,grown_below hg ho.parts.1 ho.base_le,grown_noU ho hg⟩
end Go.Proofs.YtpdmmmdkpipmkaaGreatDoor
namespace Go.Proofs.YtpdmmmdkpipmkaaGreatDoor
open Go.RowKit Go.Lib Go.Shelf
structure OkB (b: Bd): Prop where
 low: -9223372036854775808 ≤ b.2.n
 high: b.2.n ≤ 9223372036854775807
 len: b.2.s.length ≤ 1048576
theorem own_cast {w: World} {base n n': Nat} {v: Value} {l l': List UInt8} (h: w.ownsRow base 5 1 v n (cs l)) (hn: n = n') (hl: l = l'): w.ownsRow base 5 1 v n' (cs l'):= by subst hn hl;exact h
theorem holds_one (w: World) (c: UInt8): Holds (w.alloc (.cells #[.int .u8 (c.toNat: Int)] 5)) (some ⟨w.heap.size,0,none⟩) 1 [c]:=
 ⟨by simp,(fun h => by cases h),fun ad ha j u hu => by
  cases ha
  rw [Addr.add_lit,heap_cell (heap_alloc_new w _),Nat.zero_add,← Array.getElem?_toList]
  exact hu⟩
theorem step_append_string {w: World} {ops: Array Oper} {o: Oper} {a: Act} {K: Act → World → Prop} {Q: Exit → Act → World → Prop} {E: Prop} (hgw: Region.wanted o (yielded ops a.tmps) = true) (s x: Operand)
 (ho: o.op = .call { callee:= .builtin .append,args:= #[s,x],argTypes:= #[139,9] })
 (base g n cap: Nat) (xs l: List UInt8) (k: Nat) (T: List UInt8) (hs: a.eval s = .slice (some ⟨g,0,none⟩) n cap) (hown: Own w base g n cap xs) (hx: a.eval x = str l)
 (hk: n + l.length = k) (hT: xs ++ l = T) (hb: k ≤ 140737488355328)
 (h: ∀ v' w',w'.ownsRow base 5 1 v' k (cs T) → w.grownBy w' (some g) → K (a.put o.dst v') w'):
 if Region.wanted o (yielded ops a.tmps) = true then Oper.wp Tryz.prog o a w K Q else E:= by
 rw [if_pos hgw]
 obtain ⟨i0,hi,hz0,hz1,hz2⟩:= info_parts Tryz.infoU8
 subst hk hT
 have hsz: (⟨l.toArray⟩: ByteArray).size = l.length:= by simp [ByteArray.size]
 obtain ⟨v',w',hr,h2,h3,h4⟩:= Lib.run_append_own_string (P:= Tryz.prog) w base 139 9 o.type 5 i0 Tryz.underlying139 Tryz.underlying9 hi hz0 hz1 hz2 _ n (cs xs) hown ⟨l.toArray⟩ (by rw [hsz];unfold maxLen;omega) (by rw [hsz];omega) hown.base_le
 have hx': a.eval x = .string ⟨l.toArray⟩:= hx
 unfold Oper.wp
 simp [execOp,ho,resolve,invoke,builtin,hs,hx',hr,Result.andThen]
 exact h v' w' (by rw [hsz] at h2;rw [cs_append];exact h2) h3
theorem key_at (k: Nat) (a: Option Addr) (c: Nat) (L: List Bd) (w: World) (h: Row bK w a c L) (hok: ∀ b ∈ L,OkB b) (hk: k ≤ 1000000) (hl: L.length ≤ 100000) (ht: TabB w.heap.size w):
 Calls Tryz.prog 230 #[.int .i64 (k: Int),.slice a L.length c] w fun e w' => e = .returned (str (Ml.keyT Lib.itoa k L)) ∧ (Ml.keyT Lib.itoa k L).length ≤ 1000000000000 ∧ Below w.heap.size w w':= by
 have T0:= hideP (appInt_at w.heap.size 0 (.slice none 0 0) [] (k: Int) w (by omega) (by omega) (World.ownsRow_nil _ _ _ _) (Nat.le_refl _) (by omega) ht)
 have few:= h.few
 have I0:= Lib.itoa_length_le (k: Int) (by omega) (by omega)
 have TB:= Tryz.underlying143
 go_enter Tryz.func230,Tryz.ntmps230
 go_wp2_with fail
 refine T0.out.mono ?_
 rintro e w1 ⟨v1,rfl,o1,b1,_⟩
 have hpos: 0 < (Lib.itoa (k: Int)).length:= by
  rw [Lib.itoa_nonneg];exact List.length_pos_iff.2 (Ml.decD_ne k)
 obtain ⟨g1,cap1,rfl⟩:= own_some o1 (by omega)
 rw [Nat.zero_add,List.nil_append] at o1
 rw [Nat.zero_add]
 have o1': Own w1 w.heap.size g1 (Lib.itoa (k: Int)).length cap1 (Ml.keyT Lib.itoa k (L.take 0)):= own_cast o1 rfl (by unfold Ml.keyT;simp)
 clear T0 o1
 generalize (Lib.itoa (k: Int)).length = n1 at *
 go_wp2_with fail
 go_loopw [5,7,12] (fun v5 _ v12 wr => ∃ (j g n cap: Nat),v12 = .int .i64 (j: Int) ∧ v5 = .slice (some ⟨g,0,none⟩) n cap ∧ j ≤ L.length ∧ n ≤ 30 + j * 1048700 ∧ Own wr w.heap.size g n cap (Ml.keyT Lib.itoa k (L.take j)) ∧ Below w.heap.size w wr) (fun _ _ v12 _ => L.length - (RowKit.intOf v12).toNat)
 case atStart => exact ⟨0,g1,n1,cap1,rfl,rfl,by omega,by omega,o1',b1⟩
 case round =>
  obtain ⟨j,g,n,cap,rfl,rfl,hj,hn,O,B⟩:= hrel
  by_cases hlt: j < L.length
  ·have q0: (j: Int) < (L.length: Int):= by omega
   have Rr:= h.below B (Nat.le_refl _)
   obtain ⟨bb,o,rfl⟩:= Rr.addr (by omega)
   have rg: wr.rangeAt bb (o + j * 4) (bv (L[j]'hlt)):= Rr.range j hlt
   have ok:= hok _ (List.getElem_mem hlt)
   have KT: Hid (Ml.keyT Lib.itoa k (L.take (j + 1)) = Ml.keyT Lib.itoa k (L.take j) ++ Ml.kTx Lib.itoa (L[j]'hlt)):= by
    show _ = _
    unfold Ml.keyT
    rw [List.take_succ_eq_append_getElem hlt,List.flatMap_append,← List.append_assoc]
    simp
   generalize (L[j]'hlt) = b at *
   generalize Ml.keyT Lib.itoa k (L.take j) = l0 at *
   have ok1:= ok.low;have ok2:= ok.high;have ok3:= ok.len
   have I1:= Lib.itoa_length_le b.2.n ok1 ok2
   have I2:= Lib.itoa_length_le (b.2.s.length: Int) (by omega) (by omega)
   have I3: (Ml.bTx b.2.num).length ≤ 5:= by cases b.2.num <;> decide
   have N1:= heap_alloc_new wr (.cells #[.string { data:= #[] },.bool false,.int .i64 0,.string { data:= #[] }] 143)
   go_wp2_with (first
    | (refine wpList_load_mid rfl 143 _ rfl bb (o + j * 4) rfl (bv b) _ rg TB rfl iB4 ?_)
    | (refine wpList_store_all rfl 143 _ _ rfl wr.heap.size 4 _ 143 (bv b) rfl rfl N1 rfl rfl iB4 rfl ?_;intro w2 N2 b2;have B2:= below_tok b2))
   have W2:= Below.then B B2
   have O2: Own w2 w.heap.size g n cap l0:= ownsRow_keep O (Safe.below B2)
   clear O N1 b2 rg Rr
   generalize wr.heap.size = R at *
   have gD:= (Below.refl w2.heap.size w2).drew
   have N2d:= below_heap gD N2
   have A3: Below w2.heap.size w2 (w2.alloc (.cells #[.int .u8 32] 5)).drew:= (below_alloc w2 (.cells #[.int .u8 32] 5)).drew
   have O3: Own (w2.alloc (.cells #[.int .u8 32] 5)).drew w.heap.size g n cap l0:= ownsRow_keep O2 (Safe.below A3)
   have N3:= below_heap A3 N2
   have Hl: Holds (w2.alloc (.cells #[.int .u8 32] 5)).drew (some ⟨w2.heap.size,0,none⟩) 1 [32]:= holds_one w2 32
   have C1: ∀ W: World,W.heap[R]? = some (.cells (bv b).toArray 143) → W.cell? ⟨R,1,none⟩ = some (.bool b.2.num):= fun W h => by rw [heap_cell h];rfl
   have HC1:= hideP C1
   clear C1
   go_region_held3 (fun W => W.cell? ⟨R,1,none⟩ = some (.bool b.2.num)) (first | with_reducible exact HC1.out _ N5 | with_reducible exact HC1.out _ N4 | with_reducible exact HC1.out _ N3 | exact HC1.out _ N2d) (first
    | (refine step_append_bytes (by rfl) _ _ rfl w.heap.size g n cap l0 [32] (some ⟨w2.heap.size,0,none⟩) 1 1 (n + 1) (l0 ++ [32]) rfl O3 rfl rfl Hl rfl rfl (by omega) ?_;intro g4 cap4 w4 O4 G4;have N4:= grown_noU O3 G4 _ (by decide) _ _ N3;have B4:= grown_below G4 O3.parts.1 O3.base_le)
    | (go_at_call 250;refine (appBool_at w.heap.size g4 (n + 1) cap4 _ _ w4 O4 (by omega)).mono ?_;rintro e w5 ⟨v5,rfl,o5,b5,k5⟩;have N5:= k5 _ (by decide) _ _ N4))
   obtain ⟨g5,cap5,rfl⟩:= own_some o5 (by omega)
   have W5: Below w.heap.size w w5:= ((W2.trans (A3.mono W2.size)).trans B4).trans b5
   obtain ⟨n5,hn5⟩: ∃ n5,n + 1 + (Ml.bTx b.2.num).length = n5:= ⟨_,rfl⟩
   rw [hn5] at o5 ⊢
   have q5: n5 ≤ n + 6:= by omega
   have O5: Own w5 w.heap.size g5 n5 cap5 (l0 ++ [32] ++ Ml.bTx b.2.num):= o5
   clear O2 O3 O4 o5 G4 N2 N2d N3 N4 Hl A3 B4 b5 k5 gD HC1 hn5
   obtain ⟨l5,hl5⟩: ∃ l5,l0 ++ [32] ++ Ml.bTx b.2.num = l5:= ⟨_,rfl⟩
   rw [hl5] at O5
   have HL5:= hideP hl5
   clear hl5
   go_wp2_with fail
   have A6: Below w5.heap.size w5 (w5.alloc (.cells #[.int .u8 32] 5)).drew:= (below_alloc w5 (.cells #[.int .u8 32] 5)).drew
   have N5d:= below_heap ((Below.refl w5.heap.size w5).drew) N5
   have O6: Own (w5.alloc (.cells #[.int .u8 32] 5)).drew w.heap.size g5 n5 cap5 l5:= ownsRow_keep O5 (Safe.below A6)
   have N6:= below_heap A6 N5
   have Hl6: Holds (w5.alloc (.cells #[.int .u8 32] 5)).drew (some ⟨w5.heap.size,0,none⟩) 1 [32]:= holds_one w5 32
   have HC2: Hid (∀ W: World,W.heap[R]? = some (.cells (bv b).toArray 143) → W.cell? ⟨R,2,none⟩ = some (.int .i64 b.2.n)):= fun W h => by rw [heap_cell h];rfl
   go_region_held3 (fun W => W.cell? ⟨R,2,none⟩ = some (.int .i64 b.2.n)) (first | with_reducible exact HC2.out _ N8 | with_reducible exact HC2.out _ N7 | with_reducible exact HC2.out _ N6 | exact HC2.out _ N5d) (first
    | (refine step_append_bytes (by rfl) _ _ rfl w.heap.size g5 n5 cap5 l5 [32] (some ⟨w5.heap.size,0,none⟩) 1 1 (n5 + 1) (l5 ++ [32]) rfl O6 rfl rfl Hl6 rfl rfl (by omega) ?_;intro g7 cap7 w7 O7 G7;have N7:= grown_noU O6 G7 _ (by decide) _ _ N6;have B7:= grown_below G7 O6.parts.1 O6.base_le;have T7:= ht.on (((W5.trans (A6.mono W5.size)).trans B7)))
    | (go_at_call 249;refine (appInt_at w.heap.size (n5 + 1) _ _ b.2.n w7 ok1 ok2 O7 O7.base_le (by omega) T7).mono ?_;rintro e w8 ⟨v8,rfl,o8,b8,k8⟩;have N8:= k8 _ (by decide) _ _ N7))
   obtain ⟨g8,cap8,rfl⟩:= own_some o8 (by omega)
   have W8: Below w.heap.size w w8:= ((W5.trans (A6.mono W5.size)).trans B7).trans b8
   obtain ⟨n8,hn8⟩: ∃ n8,n5 + 1 + (Lib.itoa b.2.n).length = n8:= ⟨_,rfl⟩
   rw [hn8] at o8 ⊢
   have q8: n8 ≤ n5 + 22:= by omega
   have O8: Own w8 w.heap.size g8 n8 cap8 (l5 ++ [32] ++ Lib.itoa b.2.n):= o8
   clear O5 O6 O7 o8 G7 N5 N5d N6 N7 Hl6 A6 B7 b8 k8 HC2 hn8 T7
   obtain ⟨l8,hl8⟩: ∃ l8,l5 ++ [32] ++ Lib.itoa b.2.n = l8:= ⟨_,rfl⟩
   rw [hl8] at O8
   have HL8:= hideP hl8
   clear hl8
   go_wp2_with fail
   have A9: Below w8.heap.size w8 (w8.alloc (.cells #[.int .u8 32] 5)).drew:= (below_alloc w8 (.cells #[.int .u8 32] 5)).drew
   have N8d:= below_heap ((Below.refl w8.heap.size w8).drew) N8
   have O9: Own (w8.alloc (.cells #[.int .u8 32] 5)).drew w.heap.size g8 n8 cap8 l8:= ownsRow_keep O8 (Safe.below A9)
   have N9:= below_heap A9 N8
   have Hl9: Holds (w8.alloc (.cells #[.int .u8 32] 5)).drew (some ⟨w8.heap.size,0,none⟩) 1 [32]:= holds_one w8 32
   have HC3: Hid (∀ W: World,W.heap[R]? = some (.cells (bv b).toArray 143) → W.cell? ⟨R,3,none⟩ = some (str b.2.s)):= fun W h => by rw [heap_cell h];rfl
   have hsz:= str_size b.2.s
   go_region_held3 (fun W => W.cell? ⟨R,3,none⟩ = some (str b.2.s)) (first | with_reducible exact HC3.out _ N11 | with_reducible exact HC3.out _ N10 | with_reducible exact HC3.out _ N9 | exact HC3.out _ N8d) (first
    | (refine step_append_bytes (by rfl) _ _ rfl w.heap.size g8 n8 cap8 l8 [32] (some ⟨w8.heap.size,0,none⟩) 1 1 (n8 + 1) (l8 ++ [32]) rfl O9 rfl rfl Hl9 rfl rfl (by omega) ?_;intro g10 cap10 w10 O10 G10;have N10:= grown_noU O9 G10 _ (by decide) _ _ N9;have B10:= grown_below G10 O9.parts.1 O9.base_le;have T10:= ht.on (((W8.trans (A9.mono W8.size)).trans B10)))
    | (go_at_call 249;refine (appInt_at w.heap.size (n8 + 1) _ _ (b.2.s.length: Int) w10 (by omega) (by omega) O10 O10.base_le (by omega) T10).mono ?_;rintro e w11 ⟨v11,rfl,o11,b11,k11⟩;have N11:= k11 _ (by decide) _ _ N10))
   obtain ⟨g11,cap11,rfl⟩:= own_some o11 (by omega)
   have W11: Below w.heap.size w w11:= ((W8.trans (A9.mono W8.size)).trans B10).trans b11
   obtain ⟨n11,hn11⟩: ∃ n11,n8 + 1 + (Lib.itoa (b.2.s.length: Int)).length = n11:= ⟨_,rfl⟩
   rw [hn11] at o11 ⊢
   have q11: n11 ≤ n8 + 22:= by omega
   have O11: Own w11 w.heap.size g11 n11 cap11 (l8 ++ [32] ++ Lib.itoa (b.2.s.length: Int)):= o11
   clear O8 O9 O10 o11 G10 N8 N8d N9 N10 Hl9 A9 B10 b11 k11 hn11 T10
   obtain ⟨l11,hl11⟩: ∃ l11,l8 ++ [32] ++ Lib.itoa (b.2.s.length: Int) = l11:= ⟨_,rfl⟩
   rw [hl11] at O11
   have HL11:= hideP hl11
   clear hl11
   go_wp2_with fail
   have A12: Below w11.heap.size w11 (w11.alloc (.cells #[.int .u8 32] 5)).drew:= (below_alloc w11 (.cells #[.int .u8 32] 5)).drew
   have N11d:= below_heap ((Below.refl w11.heap.size w11).drew) N11
   have O12: Own (w11.alloc (.cells #[.int .u8 32] 5)).drew w.heap.size g11 n11 cap11 l11:= ownsRow_keep O11 (Safe.below A12)
   have N12:= below_heap A12 N11
   have Hl12: Holds (w11.alloc (.cells #[.int .u8 32] 5)).drew (some ⟨w11.heap.size,0,none⟩) 1 [32]:= holds_one w11 32
   go_region_held3 (fun W => W.cell? ⟨R,3,none⟩ = some (str b.2.s)) (first | with_reducible exact HC3.out _ N14 | with_reducible exact HC3.out _ N13 | with_reducible exact HC3.out _ N12 | exact HC3.out _ N11d) (first
    | (refine step_append_bytes (by rfl) _ _ rfl w.heap.size g11 n11 cap11 l11 [32] (some ⟨w11.heap.size,0,none⟩) 1 1 (n11 + 1) (l11 ++ [32]) rfl O12 rfl rfl Hl12 rfl rfl (by omega) ?_;intro g13 cap13 w13 O13 G13;have N13:= grown_noU O12 G13 _ (by decide) _ _ N12;have B13:= grown_below G13 O12.parts.1 O12.base_le)
    | (refine step_append_string (by rfl) _ _ rfl w.heap.size g13 (n11 + 1) cap13 (l11 ++ [32]) b.2.s (n11 + 1 + b.2.s.length) (l11 ++ [32] ++ b.2.s) rfl O13 rfl rfl rfl (by omega) ?_;intro v14 w14 o14 G14;have N14:= grown_noU O13 G14 _ (by decide) _ _ N13;have B14:= grown_below G14 O13.parts.1 O13.base_le))
   obtain ⟨g14,cap14,rfl⟩:= own_some o14 (by omega)
   have W14: Below w.heap.size w w14:= ((W11.trans (A12.mono W11.size)).trans B13).trans B14
   have O15: Own w14 w.heap.size g14 (n11 + 1 + b.2.s.length) cap14 (Ml.keyT Lib.itoa k (L.take (j + 1))):= own_cast o14 rfl (by
    rw [KT.out,← HL11.out,← HL8.out,← HL5.out]
    unfold Ml.kTx
    simp)
   clear o14 O13 O12 O11 G13 G14
   go_wp2_with fail
   go_roundw
   case rel => exact ⟨j + 1,g14,_,cap14,rfl,rfl,hlt,by omega,O15,W14⟩
   case measure => simp [RowKit.intOf];omega
  ·have q0: ¬ (j: Int) < (L.length: Int):= by omega
   obtain rfl: j = L.length:= by omega
   rw [List.take_length] at O
   have OL:= O.len
   have OH:= O.holds
   obtain ⟨l0,hl0⟩: ∃ l0,Ml.keyT Lib.itoa k L = l0:= ⟨_,rfl⟩
   rw [hl0] at O OL OH
   have HL0:= hideP hl0
   clear hl0
   subst OL
   have CV:= conv OH
   have hln: l0.length ≤ 1000000000000:= by omega
   have HLN:= hideP hln
   clear hln
   go_wp2_with fail
   go_ret
   rw [HL0.out]
   exact ⟨rfl,HLN.out,B⟩
end Go.Proofs.YtpdmmmdkpipmkaaGreatDoor
namespace Go.Proofs.YtpdmmmdkpipmkaaGreatDoor
open Go.RowKit Go.Lib Go.Shelf
open Go.Maps (Keyed)
structure MetAt (w: World) (bm: Nat) (L: List (List UInt8)): Prop where
 has: ∃ D: DataW Unit,w.ownsMap Tryz.prog 9 unitElem bm L.length D ∧ ∀ p: List UInt8,p.length ≤ maxLen → Maps.has D (.string p) = decide (p ∈ L)
theorem MetAt.map {w: World} {bm: Nat} {L: List (List UInt8)} (h: MetAt w bm L): ∃ es clock,w.heap[bm]? = some (.map es clock):= by
 obtain ⟨D,⟨es,clock,hb,_⟩,_⟩:= h.has
 exact ⟨es,clock,hb⟩
theorem MetAt.block {w w': World} {bm: Nat} {L: List (List UInt8)} (h: MetAt w bm L) (hb: w'.heap[bm]? = w.heap[bm]?): MetAt w' bm L:= by
 obtain ⟨D,⟨es,clock,h1,h2⟩,h3⟩:= h.has
 exact ⟨D,⟨es,clock,hb.trans h1,h2⟩,h3⟩
theorem MetAt.lt {w: World} {bm: Nat} {L: List (List UInt8)} (h: MetAt w bm L): bm < w.heap.size:= by
 obtain ⟨es,clock,h⟩:= h.map
 exact heap_lt h
theorem MetAt.next {w w': World} {bm: Nat} {L: List (List UInt8)} (h: MetAt w bm L) (hb: Below w.heap.size w w'): MetAt w' bm L:= h.block (hb.block bm h.lt)
theorem met_new (w: World): MetAt (w.alloc (.map #[] 0)) w.heap.size []:=
 ⟨.map [],World.ownsMap_made w _ _ _,fun p _ => by simp [Maps.has]⟩
theorem MetAt.look {w: World} {bm: Nat} {L: List (List UInt8)} (h: MetAt w bm L) (p: List UInt8) (hp: p.length ≤ maxLen):
 (Instr.lookup 178 (.map (some bm)) (str p) true).run Tryz.prog w = .ok (.tuple #[.agg #[],.bool (decide (p ∈ L))]) w:= by
 obtain ⟨D,ho,hd⟩:= h.has
 have hz: (zeroValue 179).run Tryz.prog w = .ok (.agg #[]) w:= by kernel_rfl
 obtain ⟨v,ps,hr,hv⟩:= ho.look_ok Tryz.lawStr Tryz.underlying178 hz (zd:= .agg []) (zp:= []) unitElem_mk (key_str p hp)
 obtain ⟨rfl,_⟩:= unitElem_inv hv
 rw [hr,hd p hp]
theorem MetAt.put {w: World} {bm: Nat} {L: List (List UInt8)} (h: MetAt w bm L) (p: List UInt8) (hp: p.length ≤ maxLen) (hL: L.length < 1000000):
 ∃ w',(Instr.mapUpdate 178 (.map (some bm)) (str p) (.agg #[])).run Tryz.prog w = .ok () w' ∧ MetAt w' bm (L ++ [p]) ∧ But bm w w':= by
 obtain ⟨D,ho,hd⟩:= h.has
 obtain ⟨w',hr,ho',hg⟩:= ho.update Tryz.lawStr Tryz.underlying178 (by unfold maxLen;omega) (key_str p hp) unitElem_mk
 have hk: WideAt.IsKeyLit (.string p):= Tryz.lawStr.key (key_str p hp)
 refine ⟨w',hr,⟨_,by simpa using ho',fun q hq => ?_⟩,⟨hg.os,hg.tape,hg.output,hg.size,fun k hk hn => hg.block k hk (by simpa using hn)⟩⟩
 by_cases e: q = p
 ·subst e
  rw [Maps.has_put_same ho.isMap hk];simp
 ·rw [Maps.has_put_other (fun he => e (by cases he;rfl)),hd q hq]
  simp [e]
structure Wv where
 r: Rv
 fa: Option Addr
 fc: Nat
 zs: List Fv
 bs: Nat
 na: Option Addr
 nc: Nat
 nvs: List Nv
 bt: Nat
abbrev Wv.cells (x: Wv): Array Value:= #[str x.r.home.v,.bool x.r.home.k.num,.int .i64 x.r.home.k.n,str x.r.home.k.s,str x.r.pred,.slice x.r.a x.r.args.length x.r.cap,str x.r.to_.v,.bool x.r.to_.k.num,.int .i64 x.r.to_.k.n,str x.r.to_.k.s,.slice x.r.ba x.r.body.length x.r.bcap,.slice x.fa x.zs.length x.fc,.map (some x.bs),.slice x.na x.nvs.length x.nc,.map (some x.bt)]
def Wv.list (x: Wv): List Value:= [str x.r.home.v,.bool x.r.home.k.num,.int .i64 x.r.home.k.n,str x.r.home.k.s,str x.r.pred,.slice x.r.a x.r.args.length x.r.cap,str x.r.to_.v,.bool x.r.to_.k.num,.int .i64 x.r.to_.k.n,str x.r.to_.k.s,.slice x.r.ba x.r.body.length x.r.bcap,.slice x.fa x.zs.length x.fc,.map (some x.bs),.slice x.na x.nvs.length x.nc,.map (some x.bt)]
abbrev Wv.val (x: Wv): Value:= .agg x.cells
theorem doneC_at (b: Bd) (x: Wv) (S T k n: Nat) (f: Ml.SpF) (w: World) (hs: w.heap[S]? = some (.cells x.cells 199)) (hk: w.heap[T]? = some (.cells #[.int .i64 (k: Int)] 3)) (SP: SpansAt w x.bs f n) (hb: b.1.length ≤ maxLen):
 Calls Tryz.prog 228 #[bval b,ptr S,ptr T] w fun e w' => e = .returned (.bool (decide (Ml.laOf f b.1 ≤ k))) ∧ Below w.heap.size w w':= by
 obtain ⟨v,⟨nm,n,s⟩⟩:= b
 simp only at hb
 have A0:= below_alloc w (.cells #[str v,.bool nm,.int .i64 n,str s] 143)
 have n0:= heap_alloc_new w (.cells #[str v,.bool nm,.int .i64 n,str s] 143)
 have s0:= below_heap A0 hs
 have k0:= below_heap A0 hk
 have L0:= (SP.next A0).look1 v hb
 have HR: Hid (decide (Ml.laOf f v ≤ k) = decide ((((f v).getD (0,0)).2: Int) ≤ (k: Int))):= by
  show _ = _
  unfold Ml.laOf
  simp
 generalize (f v).getD (0,0) = y at *
 generalize hW: w.alloc (.cells #[str v,.bool nm,.int .i64 n,str s] 143) = W at *
 have c0: W.cell? ⟨S,12,none⟩ = some (.map (some x.bs)):= by rw [heap_cell s0];rfl
 have c1: W.cell? ⟨T,0,none⟩ = some (.int .i64 (k: Int)):= by rw [heap_cell k0];rfl
 have c2: W.cell? ⟨w.heap.size,0,none⟩ = some (str v):= by rw [heap_cell n0];rfl
 have FD: ∀ W,(Instr.field 235 (spv y) 1).run Tryz.prog W = .ok (.int .i64 (y.2: Int)) W:= fun W => by kernel_rfl
 clear s0 k0 n0 hs hk
 go_enter Tryz.func228,Tryz.ntmps228
 go_wp2_with fail
 go_ret
 exact ⟨ret_bool (by rw [HR.out];simp),A0⟩
theorem done_fn (x: Wv) (S T k n: Nat) (f: Ml.SpF) (w: World) (hs: w.heap[S]? = some (.cells x.cells 199)) (hk: w.heap[T]? = some (.cells #[.int .i64 (k: Int)] 3)) (SP: SpansAt w x.bs f n):
 FnB 228 #[ptr S,ptr T] (fun b => decide (Ml.laOf f b.1 ≤ k)) (fun b => b.1.length ≤ maxLen) w:=
 ⟨enters_of Tryz.func228 (by kernel_rfl) rfl,fun b W hb hW => by
  obtain ⟨es,ck,hm⟩:= SP.map
  exact doneC_at b x S T k n f W (hW _ _ hs fun c z e => by cases e) (hW _ _ hk fun c z e => by cases e) (SP.block (by rw [hm];exact hW _ _ hm fun c z e => by cases e)) hb⟩
end Go.Proofs.YtpdmmmdkpipmkaaGreatDoor
