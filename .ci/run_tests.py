"""Runs every test_*.py in and under the folders named, and closes with a count of the tests.

Each file has a process of its own: files of the same name in two folders don't get in
each other's way, and one that ends its process early is seen as failed.
"""

import pathlib
import re
import subprocess
import sys

RAN = re.compile(r"^Ran (\d+) tests? in ", re.MULTILINE)
CLOSING = re.compile(r"^(?:OK|FAILED|NO TESTS RAN)(?: \((.*)\))?$", re.MULTILINE)
FAILING = ("failures", "errors", "unexpected successes")


def find_files(folder):
    return sorted(path for path in pathlib.Path(folder).rglob("test_*.py") if path.is_file())


def read_counts(text):
    """Take how many tests ran, failed and were skipped out of unittest's closing lines."""
    ran = RAN.findall(text)
    if not ran:
        return 0, 0, 0
    told = {}
    closings = CLOSING.findall(text)
    if closings and closings[-1]:
        for part in closings[-1].split(", "):
            name, number = part.split("=")
            told[name] = int(number)
    failed = sum(told.get(name, 0) for name in FAILING)
    return int(ran[-1]), failed, told.get("skipped", 0)


def run_file(path):
    """Run one file, and answer how many of its tests passed, failed and were skipped."""
    command = [sys.executable, "-m", "unittest", "discover", "-s", str(path.parent), "-p", path.name]
    done = subprocess.run(command, stdin=subprocess.DEVNULL, stdout=subprocess.PIPE,
                          stderr=subprocess.PIPE, encoding="utf-8", errors="replace")
    print(f"== {path}\n{done.stdout}{done.stderr}", flush=True)
    ran, failed, skipped = read_counts(done.stderr)
    # A file without a test, or one that broke off, must not look as if it had passed.
    if failed == 0 and (ran + skipped == 0 or done.returncode != 0):
        print(f"{path}: ended with {done.returncode} after {ran} tests", flush=True)
        failed = 1
    # unittest counts each part of a test that fails, so these can be more than the tests that ran.
    return max(ran - failed - skipped, 0), failed, skipped


def run_folder(folder):
    counts = [run_file(path) for path in find_files(folder)]
    passed, failed, skipped = (sum(column) for column in zip(*counts)) if counts else (0, 0, 0)
    print(f"{folder}: {len(counts)} files, {passed} tests passed", flush=True)
    return passed, failed, skipped


def main(folders):
    totals = [run_folder(folder) for folder in folders]
    passed, failed, skipped = (sum(column) for column in zip(*totals))
    line = f"{passed} passed, {failed} failed"
    print(f"{line}, {skipped} skipped" if skipped else line, flush=True)
    return 1 if failed or not passed else 0


if __name__ == "__main__":
    sys.exit(main(sys.argv[1:]))
